/- The answer's Unroll. -/
import Derived.Test.YtgamblainfkiaaaGreatDoorUnrBHxAnyU
namespace Go.Proofs.YtgamblainfkiaaaGreatDoor
open Go.RowKit Go.Shelf Go.Lib
theorem NBox.result2 {w:World} {g:Nat} {x y z:Value} (h:NBox w g x y z) {fn:Func} {p u:Tmp} (hr:fn.results= #[.cell p 44,.tmp u]) (tmps:Array Value) (hp:tmps.getD p undef=.pointer (some ⟨g,0,none⟩)):
  (results fn tmps).run Tryz.prog w=.ok (.tuple #[.agg #[x,y,z],tmps.getD u undef]) w:=by
 rw[results_cell_tmp hr,hp]
 simp only[asAddr,Sem.run_pure,Result.andThen_ok]
 rw[run_loadVar_row w g _ 44 _ _ _ h Tryz.underlying44 rfl (by kernel_rfl)]
 simp only[Result.andThen_ok]
theorem RwI.one (w:World) (x:Int):RwI (w.alloc (.cells #[.int .i64 x] 3)) w.heap.size (.slice (some ⟨w.heap.size,0,none⟩) 1 1) [x]:=⟨rfl,.inr ⟨w.heap.size,1,_,rfl,Nat.le_refl _,heap_alloc_new w _,Nat.le_refl _,by unfold maxLen;omega,rfl,rfl⟩⟩
theorem RwI.one1 (w:World) (o:Obj) (x:Int):RwI ((w.alloc o).alloc (.cells #[.int .i64 x] 3)) w.heap.size (.slice (some ⟨w.heap.size+1,0,none⟩) 1 1) [x]:=by
 have h:=RwI.one (w.alloc o) x
 rw[World.size_alloc] at h
 exact owns_lower h (Nat.le_succ _)
theorem alloc_new1 (w:World) (o o':Obj):((w.alloc o).alloc o').heap[w.heap.size+1]? =some o':=by
 have h:=heap_alloc_new (w.alloc o) o'
 rw[World.size_alloc] at h
 exact h
theorem alloc_new2 (w:World) (o o' o'':Obj):(((w.alloc o).alloc o').alloc o'').heap[w.heap.size+2]? =some o'':=by
 have h:=heap_alloc_new ((w.alloc o).alloc o') o''
 rw[World.size_alloc,World.size_alloc] at h
 exact h
theorem vOf_app (A B:List PV):vOf (A++B)=vOf A++vOf B:=List.map_append
theorem lOf_app (A B:List PL):lOf (A++B)=lOf A++lOf B:=List.map_append
theorem rOf_app (A B:List PR):rOf (A++B)=rOf A++rOf B:=List.map_append
def UnrR (l:List Fr) (R1 R2:List (List Fr)) (T:Nat) (w:World) (e:Ending) (w':World):Prop:=∃(x y z:Value) (Vs:List PV) (Ls:List PL) (Rs:List PR),e=.returned (.tuple #[.agg #[x,y,z],.int .i64 0])∧vOf Vs=uV l.length (R2.headD []).length T∧lOf Ls=uL T∧rOf Rs=uR l R1 R2 T∧OwV w' w.heap.size x Vs∧OwL w' w.heap.size y Ls∧OwR w' w.heap.size z Rs∧Below w.heap.size w w'
set_option maxRecDepth 100000 in
set_option maxHeartbeats 1000000 in
theorem rUnroll_ok (a b c:Option Addr) (ca cb cc n T:Nat) (l:List Fr) (R1 R2:List (List Fr)) (w:World) (h:HidM w a b c l R1 R2) (hs:HidS l R1 R2) (he:HidE l R1 R2 0) (hn:l.length=n) (h1:1≤T) (h4:T≤4) (hca:n≤ca):
  Calls Tryz.prog 21 #[.agg #[.slice a n ca,.slice b n cb,.slice c n cc],.int .i64 (T:Nat)] w fun e w'=>UnrR l R1 R2 T w e w':=by
 obtain⟨hshp,hrws⟩:ShpB l R1 R2∧RwsB l R1 R2:=by
  rcases he with ⟨_,h1,h2⟩ |⟨h9,_⟩ |⟨h9,_⟩
  ·exact⟨h1,h2⟩
  ·exact absurd h9 (by decide)
  ·exact absurd h9 (by decide)
 obtain⟨p1,p2,p3,p4,p5,p6,p7,p8⟩:=hshp
 rw[hn] at p1 p2 p3 p4 p7
 obtain⟨m,hm⟩:∃m,(R2.headD []).length=m:=⟨_,rfl⟩
 rw[hm] at p5 p6 p8
 have HI:=hid h
 have HCK:Hid (∀U:World,Below w.heap.size w U→Calls Tryz.prog 9 #[.agg #[.slice a n ca,.slice b n cb,.slice c n cc]] U fun e w'=>e=.returned (.int .i64 0)∧Below U.heap.size U w'):=fun U hU=>by
  have h9:=rHidCheck_any a b c ca cb cc l R1 R2 U (h.below hU) hs
  rw[hn,p3,p4] at h9
  refine h9.mono ?_
  rintro e w' ⟨⟨x,rfl,hx⟩,hb⟩
  rw[hx.uniq he]
  exact⟨rfl,hb⟩
 have HF1:Hid (∀U:World,Below w.heap.size w U→Calls Tryz.prog 62 #[.slice b n cb] U fun e w'=>∃v,e=.returned v∧RwF w' U.heap.size v (cnR R1)∧Below U.heap.size U w'):=fun U hU=>by
  have h9:=rFlat_any b cb R1 U (h.mv.below hU) ⟨by omega,fun r hr=>by rw[p7 r hr];omega,hs.f2⟩
  rw[p3] at h9
  exact h9
 have HF2:Hid (∀U:World,Below w.heap.size w U→Calls Tryz.prog 62 #[.slice c n cc] U fun e w'=>∃v,e=.returned v∧RwF w' U.heap.size v (cnR R2)∧Below U.heap.size U w'):=fun U hU=>by
  have h9:=rFlat_any c cc R2 U (h.sh.below hU) ⟨by omega,fun r hr=>by rw[p8 r hr];omega,hs.f3⟩
  rw[p4] at h9
  exact h9
 have HF0:Hid (∀(U:World) (g k:Nat),g<U.heap.size→U.cell? ⟨g,0,none⟩=some (.slice a n ca)→Below w.heap.size w U→Calls Tryz.prog 62 #[.slice (some ⟨g,0,none⟩) 1 k] U fun e w'=>∃v,e=.returned v∧RwF w' U.heap.size v (cnR [l])∧Below U.heap.size U w'):=fun U g k hg hc hU=>by
  refine rFlat_any (some ⟨g,0,none⟩) k [l] U (fun i hi=>?_) ⟨by simp,fun r hr=>by rw[List.mem_singleton.1 hr];omega,fun r hr=>by rw[List.mem_singleton.1 hr];exact hs.f1⟩
  obtain rfl:i=0:=by simpa using hi
  exact⟨g,0,a,ca,rfl,hg,by simpa [hn] using hc,by simpa using h.st.below hU,by simpa [hn] using hca⟩
 have HS0:Hid (∀U:World,Below w.heap.size w U→∃g o b' c',c=some ⟨g,o,none⟩∧g<U.heap.size∧U.cell? ⟨g,o,none⟩=some (.slice b' m c')):=fun U hU=>by
  obtain⟨g,o,b',c',e1,e2,e3,_⟩:=(h.sh.below hU).raw' (i:=0) (by omega)
  refine⟨g,o,b',c',e1,e2,?_⟩
  rw[←hm,head_at (by omega)]
  simpa using e3
 have HTA:=hid (fun (i:Nat) (hi:i≤1000) (U:World)=>rNumText i U hi)
 have HTB:=hid (fun (i:Nat) (hi:i≤1000) (U:World)=>rTextOf i U hi)
 have HCL:=hid (fun (k:Nat) (hk:k≤4) (U:World)=>called_nine k U (by omega))
 have HN:=hid hn
 have HM:=hid hm
 have hA0:=(Below.refl w.heap.size w).alloc (Nat.le_refl _) (HC3 (.slice a n ca) (.slice b n cb) (.slice c n cc))
 have hHB0:=HBox.new w (.slice a n ca) (.slice b n cb) (.slice c n cc)
 have hst:=(Below.refl (w.alloc (HC3 (.slice a n ca) (.slice b n cb) (.slice c n cc))).heap.size (w.alloc (HC3 (.slice a n ca) (.slice b n cb) (.slice c n cc)))).alloc (Nat.le_refl _) (NC (.slice none 0 0) (.slice none 0 0) (.slice none 0 0))
 have hHB:=hHB0.below hst hHB0.lt
 have hNB:NBox ((w.alloc (HC3 (.slice a n ca) (.slice b n cb) (.slice c n cc))).alloc (NC (.slice none 0 0) (.slice none 0 0) (.slice none 0 0))) (w.heap.size+1) (.slice none 0 0) (.slice none 0 0) (.slice none 0 0):=NBox.at (by simp) _ _ _
 have hA:=hA0.alloc hA0.size (NC (.slice none 0 0) (.slice none 0 0) (.slice none 0 0))
 obtain⟨e0,e1,e2⟩:=hHB.cells
 clear h hs he hn hm hrws p3 p4 p7 p8 hca hA0 hHB0 hst
 go_enter Tryz.func21,Tryz.ntmps21
 go_wp2_with fail
 generalize ((w.alloc (HC3 (.slice a n ca) (.slice b n cb) (.slice c n cc))).alloc (NC (.slice none 0 0) (.slice none 0 0) (.slice none 0 0)))=W at *
 refine(HCK.out _ hA).mono ?_
 rintro e w1 ⟨rfl,hb⟩
 have hA1:=hA.trans (hb.mono hA.size)
 have hHB1:=hHB.below hb hHB.lt
 have hNB1:=hNB.below hb hNB.lt
 have hsz1:w.heap.size+2≤w1.heap.size:=hNB1.lt
 have HUS:Hid (US w (w1.alloc (NC (.slice none 0 0) (.slice none 0 0) (.slice none 0 0))) w1.heap.size (.slice a n ca) (.slice b n cb) (.slice c n cc) (.slice none 0 0) (.slice none 0 0) (.slice none 0 0) [] [] []):=⟨hHB1.below ((Below.refl _ w1).alloc (Nat.le_refl _) _) hHB1.lt,hNB1.below ((Below.refl _ w1).alloc (Nat.le_refl _) _) hNB1.lt,NBox.at rfl _ _ _,OwV.nil _ _,OwL.nil _ _,OwR.nil _ _,hA1.alloc hA1.size _,hsz1⟩
 clear hA hHB hb e0 e1 e2 HCK hA1 hHB1 hNB hNB1 hsz1
 have hT1:¬((T:Int)<1):=by omega
 have hT4:¬((4:Int)<(T:Int)):=by omega
 go_upto_region 7 with fail
 generalize (w1.alloc (NC (.slice none 0 0) (.slice none 0 0) (.slice none 0 0)))=W1 at *
 generalize w1.heap.size=G at *
 clear hT1 hT4
 go_wp2_with fail
 go_loopw [8] (fun iv wr=>∃(t:Nat) (x y z:Value) (Vs:List PV) (Ls:List PL) (Rs:List PR),t≤T∧iv=.int .i64 t∧Hid (US w wr G (.slice a n ca) (.slice b n cb) (.slice c n cc) x y z Vs Ls Rs)∧Hid (vOf Vs=uV n m t∧lOf Ls=uL t∧rOf Rs=uR l R1 R2 t)) (fun iv _=>T - (intOf iv).toNat)
 case atStart=>exact⟨0,_,_,_,[],[],[],Nat.zero_le _,rfl,HUS,⟨rfl,rfl,rfl⟩⟩
 case round=>
  clear HUS
  obtain⟨t,x,y,z,Vs,Ls,Rs,ht,rfl,HUS,HSP⟩:=hrel
  by_cases hlt:t<T
  ·go_wp2_with fail
   refine(HTA.out t (by omega) _).mono ?_
   rintro e w2 ⟨rfl,hb2⟩
   go_wp2_with fail
   refine(HTB.out t (by omega) _).mono ?_
   rintro e w3 ⟨rfl,hb3⟩
   have HU3:=hid ((HUS.out.step hb2).step hb3)
   clear HUS hb2 hb3
   have hdz:=dgB_size (i:=t) (by omega)
   obtain⟨e0,e1,e2⟩:=HU3.out.hb.cells
   go_wp2_with fail
   refine(HCL.out n (by omega) _).mono ?_
   rintro e w4 ⟨q1,rfl,hq1,hb4⟩
   have HU4:=hid (HU3.out.step hb4)
   have HQ1:Hid (RwS w4 w.heap.size q1 (valsN n)):=owns_lower hq1 HU3.out.bel.size
   obtain⟨d1,c1,rfl⟩:∃d1 c1,q1=.slice d1 n c1:=by
    obtain⟨d,k,e9,_⟩:=owns_slice hq1
    rw[valsN_length] at e9
    exact⟨d,k,e9⟩
   have hbA:=(Below.refl w4.heap.size w4).alloc (Nat.le_refl _) (.cells #[.string (nmB 115 t),.slice d1 n c1] 85)
   have HU5:=hid (HU4.out.step hbA)
   have HQ1b:=hid (HQ1.out.step hbA)
   have HX1:=hid (heap_alloc_new w4 (.cells #[.string (nmB 115 t),.slice d1 n c1] 85))
   obtain⟨g2,o2,b2,k2,rfl,hg2,hc2⟩:=HS0.out _ HU5.out.bel
   obtain⟨e0,e1,e2⟩:=HU5.out.hb.cells
   clear hq1 hb4 HU3 HU4 HQ1 hbA
   go_wp2_with fail
   generalize hW5:(w4.alloc (.cells #[.string (nmB 115 t),.slice d1 n c1] 85))=w5 at *
   generalize w4.heap.size=g10 at *
   clear hW5
   refine(HCL.out m (by omega) _).mono ?_
   rintro e w6 ⟨q2,rfl,hq2,hb6⟩
   have HU6:=hid (HU5.out.step hb6)
   have HQ1c:=hid (HQ1b.out.step hb6)
   have HX1b:=hid (hb6.block _ (Array.getElem?_eq_some_iff.1 HX1.out).1 |>.trans HX1.out)
   have HQ2:Hid (RwS w6 w.heap.size q2 (valsN m)):=owns_lower hq2 HU5.out.bel.size
   obtain⟨d2,c2,rfl⟩:∃d2 c2,q2=.slice d2 m c2:=by
    obtain⟨d,k,e9,_⟩:=owns_slice hq2
    rw[valsN_length] at e9
    exact⟨d,k,e9⟩
   have hbB:=(Below.refl w6.heap.size w6).alloc (Nat.le_refl _) (.cells #[.string (nmB 111 t),.slice d2 m c2] 85)
   have HX1c:=hid ((hbB.block _ (Array.getElem?_eq_some_iff.1 HX1b.out).1).trans HX1b.out)
   have HX2:=hid (heap_alloc_new w6 (.cells #[.string (nmB 111 t),.slice d2 m c2] 85))
   have HU7:=hid (HU6.out.step hbB)
   have HQ1d:=hid (HQ1c.out.step hbB)
   have HQ2b:=hid (HQ2.out.step hbB)
   clear hq2 hb6 hbB HU5 HU6 HQ1b HQ1c HQ2 HX1 HX1b e0 e1 e2 hc2 hg2
   go_upto_region 13 with fail
   generalize hW7:(w6.alloc (.cells #[.string (nmB 111 t),.slice d2 m c2] 85))=w7 at *
   generalize w6.heap.size=g11 at *
   clear hW7
   obtain⟨r0,r1⟩:w7.cell? ⟨g10,0,none⟩=some (.string (nmB 115 t))∧w7.cell? ⟨g10,1,none⟩=some (.slice d1 n c1):=by constructor<;>(rw[cell_of_row w7 g10 _ _ _ (0,0) HX1c.out];rfl)
   obtain⟨r2,r3⟩:w7.cell? ⟨g11,0,none⟩=some (.string (nmB 111 t))∧w7.cell? ⟨g11,1,none⟩=some (.slice d2 m c2):=by constructor<;>(rw[cell_of_row w7 g11 _ _ _ (0,0) HX2.out];rfl)
   obtain⟨b0, -, -⟩:=HU7.out.box.cells
   have hbC:=(Below.refl w7.heap.size w7).alloc (Nat.le_refl _) (.cells #[.string (nmB 115 t),.slice d1 n c1,.string (nmB 111 t),.slice d2 m c2] 85)
   have hXC:=heap_alloc_new w7 (.cells #[.string (nmB 115 t),.slice d1 n c1,.string (nmB 111 t),.slice d2 m c2] 85)
   have HU8:=hid (HU7.out.step hbC)
   have HQ1e:=hid (HQ1d.out.step hbC)
   have HQ2c:=hid (HQ2b.out.step hbC)
   have HC8:Hid ((w7.alloc (.cells #[.string (nmB 115 t),.slice d1 n c1,.string (nmB 111 t),.slice d2 m c2] 85)).cell? ⟨w7.heap.size,0,none⟩=some (.string (nmB 115 t))∧(w7.alloc (.cells #[.string (nmB 115 t),.slice d1 n c1,.string (nmB 111 t),.slice d2 m c2] 85)).cell? ⟨w7.heap.size,1,none⟩=some (.slice d1 n c1)∧(w7.alloc (.cells #[.string (nmB 115 t),.slice d1 n c1,.string (nmB 111 t),.slice d2 m c2] 85)).cell? ⟨w7.heap.size,2,none⟩=some (.string (nmB 111 t))∧(w7.alloc (.cells #[.string (nmB 115 t),.slice d1 n c1,.string (nmB 111 t),.slice d2 m c2] 85)).cell? ⟨w7.heap.size,3,none⟩=some (.slice d2 m c2)):=by
    refine⟨?_,?_,?_,?_⟩<;>(rw[cell_of_row _ w7.heap.size _ _ _ (0,0) hXC];rfl)
   have HLV:Hid (Vs.length+2≤100000):=by
    show _≤_
    have h9:=congrArg List.length HSP.out.1
    rw[uV_length,vOf,List.length_map] at h9
    omega
   clear hbC hXC HU7 HQ1d HQ2b HX1c HX2
   go_upto_if 58 with (at_builtin;refine wpList_append_var2 rfl _ _ rfl w.heap.size _ Vs (nmB 115 t,.slice d1 n c1,valsN n) (nmB 111 t,.slice d2 m c2,valsN m) ⟨_,_,_,rfl⟩ ⟨_,_,_,rfl⟩ rfl HU8.out.vs.1 w7.heap.size rfl HC8.out.1 HC8.out.2.1 HC8.out.2.2.1 HC8.out.2.2.2 HLV.out HU8.out.bel.size ?_;intro v9 w9 hr9 hg9;obtain⟨d9,cd9,rfl, -⟩:=owns_slice hr9;have hpv:=HU8.out.pushV _ hr9 hg9 (fun p hp=>by
    rcases List.mem_cons.1 hp with rfl |hp
    ·exact HQ1e.out
    ·rw[List.mem_singleton.1 hp];exact HQ2c.out);have hm0:=hpv.1.cells.1;have hmf0:w9.frozen? ⟨G,0,none⟩=false:=frozen_of_row _ _ 0 _ _ hpv.1;have HU9:=hid hpv.2;clear hpv hr9 hg9)
   clear hm0 hmf0 HU8 HQ1e HQ2c HC8 HLV r0 r1 r2 r3 b0
   generalize (w9.setCell ⟨G,0,none⟩ (.slice d9 (Vs.length+2) cd9))=w10 at *
   have HLL:Hid (Ls.length+2≤100000):=by
    show _≤_
    have h9:=congrArg List.length HSP.out.2.1
    rw[uL_length,lOf,List.length_map] at h9
    omega
   have HLR:Hid (Rs.length+2≤100000):=by
    show _≤_
    have h9:=congrArg List.length HSP.out.2.2
    rw[uR_length,rOf,List.length_map] at h9
    omega
   obtain⟨-,b1, -⟩:=HU9.out.box.cells
   obtain⟨X0,hX0⟩:∃x,cnR [l]=x:=⟨_,rfl⟩
   obtain⟨X1,hX1⟩:∃x,cnR R1=x:=⟨_,rfl⟩
   obtain⟨X2,hX2⟩:∃x,cnR R2=x:=⟨_,rfl⟩
   simp only[hX0] at HF0
   simp only[hX1] at HF1
   simp only[hX2] at HF2
   have HX0:=hid hX0
   have HX1:=hid hX1
   have HX2:=hid hX2
   clear hX0 hX1 hX2
   by_cases ht0:t=0
   ·have hb0:((t:Int)==0)=true:=by simp;omega
    have hbD:=(Below.refl w10.heap.size w10).alloc (Nat.le_refl _) (.cells #[.int .i64 0] 3)
    have hbE:=hbD.alloc hbD.size (.cells #[.slice none 0 0,.slice (some ⟨w10.heap.size,0,none⟩) 1 1] 26)
    have hbF:=(Below.refl (w10.alloc (.cells #[.int .i64 0] 3)).heap.size (w10.alloc (.cells #[.int .i64 0] 3))).alloc (Nat.le_refl _) (.cells #[.slice none 0 0,.slice (some ⟨w10.heap.size,0,none⟩) 1 1] 26)
    have HU11:=hid (HU9.out.step hbE)
    have HI1:Hid (RwI ((w10.alloc (.cells #[.int .i64 0] 3)).alloc (.cells #[.slice none 0 0,.slice (some ⟨w10.heap.size,0,none⟩) 1 1] 26)) w.heap.size (.slice none 0 0) []):=⟨rfl,.inl ⟨rfl,rfl⟩⟩
    have HI2:Hid (RwI ((w10.alloc (.cells #[.int .i64 0] 3)).alloc (.cells #[.slice none 0 0,.slice (some ⟨w10.heap.size,0,none⟩) 1 1] 26)) w.heap.size (.slice (some ⟨w10.heap.size,0,none⟩) 1 1) [0]):=RwI.below (owns_lower (RwI.one w10 0) HU9.out.bel.size) hbF
    have HC11:Hid (((w10.alloc (.cells #[.int .i64 0] 3)).alloc (.cells #[.slice none 0 0,.slice (some ⟨w10.heap.size,0,none⟩) 1 1] 26)).cell? ⟨w10.heap.size+1,0,none⟩=some (.slice none 0 0)∧((w10.alloc (.cells #[.int .i64 0] 3)).alloc (.cells #[.slice none 0 0,.slice (some ⟨w10.heap.size,0,none⟩) 1 1] 26)).cell? ⟨w10.heap.size+1,1,none⟩=some (.slice (some ⟨w10.heap.size,0,none⟩) 1 1)):=by
     refine⟨?_,?_⟩<;>(rw[cell_of_row _ (w10.heap.size+1) _ _ _ (0,0) (alloc_new1 w10 _ _)];rfl)
    clear hbD hbE hbF HU9
    go_upto_region 16 with (at_builtin;refine wpList_append_ls2 rfl _ _ rfl w.heap.size _ Ls (.slice none 0 0,[]) (.slice (some ⟨w10.heap.size,0,none⟩) 1 1,[0]) ⟨_,_,_,rfl⟩ ⟨_,_,_,rfl⟩ rfl HU11.out.ls.1 (w10.heap.size+1) rfl HC11.out.1 HC11.out.2 HLL.out HU11.out.bel.size ?_;intro v12 w12 hr12 hg12;obtain⟨d12,cd12,rfl, -⟩:=owns_slice hr12;have hpv:=HU11.out.pushL _ hr12 hg12 (fun p hp=>by
      rcases List.mem_cons.1 hp with rfl |hp
      ·exact HI1.out
      ·rw[List.mem_singleton.1 hp];exact HI2.out);have hm1:=hpv.1.cells.2.1;have hmf1:w12.frozen? ⟨G,1,none⟩=false:=frozen_of_row _ _ 1 _ _ hpv.1;have HU12:=hid hpv.2;clear hpv hr12 hg12)
    clear hm1 hmf1 HU11 HI1 HI2 HC11 HLL b1
    try generalize (w12.setCell ⟨G,1,none⟩ _)=W12 at *
    obtain⟨dz,cz,hze, -⟩:=owns_slice HU12.out.rs.1
    obtain⟨nz,hnz⟩:∃x,Rs.length=x:=⟨_,rfl⟩
    rw[hnz] at hze
    subst hze
    clear hnz
    have HU:=HU12
    clear HU12
    replace HU:=hid HU.out.drew
    refine wp_region_until 12 (fun (b':Bool) (u:World)=>(u.cell? ⟨w.heap.size,0,none⟩=some (.slice a n ca)∧u.cell? ⟨w.heap.size,1,none⟩=some (.slice b n cb)∧u.cell? ⟨w.heap.size,2,none⟩=some (.slice (some ⟨g2,o2,none⟩) n cc))∧(b'=false→u.cell? ⟨G,2,none⟩=some (.slice dz nz cz))) (by kernel_rfl) ⟨HU.out.hb.cells,fun _=>HU.out.box.cells.2.2⟩ (fun hSd=>?_)
    generalize W12.drew=u0 at *
    refine wpU_take (i:=0) (oi:=_) (v:=.pointer (some ⟨G,2,none⟩)) (b:=false) rfl (by kernel_rfl) (by kernel_rfl) (by kernel_rfl) (by decide) (fun _ _ _ h=>h) (Or.inl ⟨by rfl,?_⟩) (by kernel_rfl) (by assumption) ?_
    ·intro u' hSu
     (try simp only[List.getElem_toArray,List.getElem_cons_zero])
     go_simp
    (try simp only[List.getElem_toArray,List.getElem_cons_zero])
    (try simp only[Act.put,List.setIfInBounds_toArray,List.set_cons_zero,List.set_cons_succ])
    refine wpU_ahead (i:=1) (oi:=_) (v:=.slice dz nz cz) rfl (by kernel_rfl) (by kernel_rfl) (by kernel_rfl) (by decide) rfl (by kernel_rfl) (fun _ _ _ h=>h) (Or.inl ⟨by rfl,?_⟩) (by kernel_rfl) (by assumption) ?_
    ·intro u' hSu
     (try simp only[List.getElem_toArray,List.getElem_cons_zero,List.getElem_cons_succ])
     obtain⟨_,s5⟩:=hSu
     have s6:=s5 rfl
     go_simp
    (try simp only[List.getElem_toArray,List.getElem_cons_zero,List.getElem_cons_succ])
    (try simp only[Act.put,List.setIfInBounds_toArray,List.set_cons_zero,List.set_cons_succ])
    refine wpU_take (i:=2) (oi:=_) (v:=.pointer (some ⟨w.heap.size,0,none⟩)) (b:=false) rfl (by kernel_rfl) (by kernel_rfl) (by kernel_rfl) (by decide) (fun _ _ _ h=>h) (Or.inl ⟨by rfl,?_⟩) (by kernel_rfl) (by assumption) ?_
    ·intro u' hSu
     (try simp only[List.getElem_toArray,List.getElem_cons_zero,List.getElem_cons_succ])
     go_simp
    (try simp only[List.getElem_toArray,List.getElem_cons_zero,List.getElem_cons_succ])
    (try simp only[Act.put,List.setIfInBounds_toArray,List.set_cons_zero,List.set_cons_succ])
    refine wpU_take (i:=3) (oi:=_) (v:=.slice a n ca) (b:=false) rfl (by kernel_rfl) (by kernel_rfl) (by kernel_rfl) (by decide) (fun _ _ _ h=>h) (Or.inl ⟨by rfl,?_⟩) (by kernel_rfl) (by assumption) ?_
    ·intro u' hSu
     (try simp only[List.getElem_toArray,List.getElem_cons_zero,List.getElem_cons_succ])
     obtain⟨_,⟨s0,s1,s2⟩,_⟩:=hSu
     go_simp
    (try simp only[List.getElem_toArray,List.getElem_cons_zero,List.getElem_cons_succ])
    (try simp only[Act.put,List.setIfInBounds_toArray,List.set_cons_zero,List.set_cons_succ])
    refine wpU_take (i:=6) (oi:=_) (v:=.pointer (some ⟨w.heap.size,2,none⟩)) (b:=false) rfl (by kernel_rfl) (by kernel_rfl) (by kernel_rfl) (by decide) (fun _ _ _ h=>h) (Or.inl ⟨by rfl,?_⟩) (by kernel_rfl) (by assumption) ?_
    ·intro u' hSu
     (try simp only[List.getElem_toArray,List.getElem_cons_zero,List.getElem_cons_succ])
     go_simp
    (try simp only[List.getElem_toArray,List.getElem_cons_zero,List.getElem_cons_succ])
    (try simp only[Act.put,List.setIfInBounds_toArray,List.set_cons_zero,List.set_cons_succ])
    refine wpU_take (i:=7) (oi:=_) (v:=.slice (some ⟨g2,o2,none⟩) n cc) (b:=false) rfl (by kernel_rfl) (by kernel_rfl) (by kernel_rfl) (by decide) (fun _ _ _ h=>h) (Or.inl ⟨by rfl,?_⟩) (by kernel_rfl) (by assumption) ?_
    ·intro u' hSu
     (try simp only[List.getElem_toArray,List.getElem_cons_zero,List.getElem_cons_succ])
     obtain⟨_,⟨s0,s1,s2⟩,_⟩:=hSu
     go_simp
    (try simp only[List.getElem_toArray,List.getElem_cons_zero,List.getElem_cons_succ])
    (try simp only[Act.put,List.setIfInBounds_toArray,List.set_cons_zero,List.set_cons_succ])
    refine wpU_ready (rs:=[4]) (by kernel_rfl) (by simp) (AllU.cons (b:=false) rfl (by kernel_rfl) ?_ (AllU.nil))
    ·intro K' hK'
     (try simp only[List.getElem_toArray,List.getElem_cons_zero,List.getElem_cons_succ])
     go_simp
     have hbA:=(Below.refl u0.heap.size u0).alloc (Nat.le_refl _) (.cells #[.slice a n ca] 22)
     have hXA:=heap_alloc_new u0 (.cells #[.slice a n ca] 22)
     replace HU:=hid (HU.out.step hbA)
     refine hK'.out _ _ ⟨HU.out.hb.cells,fun _=>HU.out.box.cells.2.2⟩ (fun hSe=>?_)
     clear hK' K' hSd
     have hSd:=hSe
     clear hSe
     obtain⟨gx,hgx⟩:∃x,u0.heap.size=x:=⟨_,rfl⟩
     obtain⟨vx,hvx⟩:∃x,u0.alloc (.cells #[.slice a n ca] 22)=x:=⟨_,rfl⟩
     rw[hgx,hvx] at hXA
     rw[hvx] at HU hSd
     simp only[hvx]
     simp only[hgx]
     have HXX:=hid hXA
     clear hgx hvx hXA hbA
     (try simp only[List.getElem_toArray,List.getElem_cons_zero,List.getElem_cons_succ])
     (try simp only[Act.put,List.setIfInBounds_toArray,List.set_cons_zero,List.set_cons_succ])
     refine wpU_ready (rs:=[5]) (by kernel_rfl) (by simp) (AllU.cons (b:=false) rfl (by kernel_rfl) ?_ (AllU.nil))
     ·intro K' hK'
      (try simp only[List.getElem_toArray,List.getElem_cons_zero,List.getElem_cons_succ])
      go_simp
      refine(HF0.out _ gx _ (Array.getElem?_eq_some_iff.1 HXX.out).1 (by rw[cell_of_row vx gx _ _ _ (0,0) HXX.out];rfl) HU.out.bel).mono ?_
      rintro e v1 ⟨q1,rfl,hq,hb⟩
      have HQ1:=hid (owns_lower hq HU.out.bel.size)
      obtain⟨e1,f1,rfl, -⟩:=owns_slice hq
      replace HU:=hid (HU.out.step hb)
      clear HXX
      refine hK'.out _ _ ⟨HU.out.hb.cells,fun _=>HU.out.box.cells.2.2⟩ (fun hSe=>?_)
      clear hK' K' hSd
      have hSd:=hSe
      clear hSe
      clear hb hq
      (try simp only[List.getElem_toArray,List.getElem_cons_zero,List.getElem_cons_succ])
      (try simp only[Act.put,List.setIfInBounds_toArray,List.set_cons_zero,List.set_cons_succ])
      refine wpU_ready (rs:=[8]) (by kernel_rfl) (by simp) (AllU.cons (b:=false) rfl (by kernel_rfl) ?_ (AllU.nil))
      ·intro K' hK'
       (try simp only[List.getElem_toArray,List.getElem_cons_zero,List.getElem_cons_succ])
       go_simp
       refine(HF2.out _ HU.out.bel).mono ?_
       rintro e v2 ⟨q2,rfl,hq,hb⟩
       have HQ2:=hid (owns_lower hq HU.out.bel.size)
       obtain⟨e2,f2,rfl, -⟩:=owns_slice hq
       replace HU:=hid (HU.out.step hb)
       replace HQ1:=hid (owns_keep HQ1.out (KeepT.below hb))
       refine hK'.out _ _ ⟨HU.out.hb.cells,fun _=>HU.out.box.cells.2.2⟩ (fun hSe=>?_)
       clear hK' K' hSd
       have hSd:=hSe
       clear hSe
       clear hb hq
       (try simp only[List.getElem_toArray,List.getElem_cons_zero,List.getElem_cons_succ])
       (try simp only[Act.put,List.setIfInBounds_toArray,List.set_cons_zero,List.set_cons_succ])
       refine wpU_ready (rs:=[9]) (by kernel_rfl) (by simp) (AllU.cons (b:=false) rfl (by kernel_rfl) ?_ (AllU.nil))
       ·intro K' hK'
        (try simp only[List.getElem_toArray,List.getElem_cons_zero,List.getElem_cons_succ])
        go_simp
        have hbA:=(Below.refl v2.heap.size v2).alloc (Nat.le_refl _) (.cells #[.slice e1 X0.length f1,.slice e2 X2.length f2] 22)
        have hXA:=heap_alloc_new v2 (.cells #[.slice e1 X0.length f1,.slice e2 X2.length f2] 22)
        replace HU:=hid (HU.out.step hbA)
        replace HQ1:=hid (owns_keep HQ1.out (KeepT.below hbA))
        replace HQ2:=hid (owns_keep HQ2.out (KeepT.below hbA))
        refine hK'.out _ _ ⟨HU.out.hb.cells,fun _=>HU.out.box.cells.2.2⟩ (fun hSe=>?_)
        clear hK' K' hSd
        have hSd:=hSe
        clear hSe
        obtain⟨gy,hgy⟩:∃x,v2.heap.size=x:=⟨_,rfl⟩
        obtain⟨vy,hvy⟩:∃x,v2.alloc (.cells #[.slice e1 X0.length f1,.slice e2 X2.length f2] 22)=x:=⟨_,rfl⟩
        rw[hgy,hvy] at hXA
        rw[hvy] at HU HQ1 HQ2 hSd
        simp only[hvy]
        simp only[hgy]
        have HXY:=hid hXA
        clear hgy hvy hXA hbA
        (try simp only[List.getElem_toArray,List.getElem_cons_zero,List.getElem_cons_succ])
        (try simp only[Act.put,List.setIfInBounds_toArray,List.set_cons_zero,List.set_cons_succ])
        refine wpU_ready (rs:=[10]) (by kernel_rfl) (by simp) (AllU.cons (b:=false) rfl (by kernel_rfl) ?_ (AllU.nil))
        ·intro K' hK'
         rw[if_pos (by rfl)]
         have hc0:vy.cell? ⟨gy,0,none⟩=some (.slice e1 X0.length f1):=by rw[cell_of_row vy gy _ _ _ (0,0) HXY.out];rfl
         have hc1:vy.cell? ⟨gy,1,none⟩=some (.slice e2 X2.length f2):=by rw[cell_of_row vy gy _ _ _ (0,0) HXY.out];rfl
         refine wp_append_rs2 _ _ rfl w.heap.size (.slice dz nz cz) Rs (.slice e1 X0.length f1,X0) (.slice e2 X2.length f2,X2) ⟨_,_,_,rfl⟩ ⟨_,_,_,rfl⟩ rfl HU.out.rs.1 gy rfl hc0 hc1 HLR.out HU.out.bel.size ?_
         intro v9 w9 hr9 hg9
         obtain⟨d9,cd9,rfl, -⟩:=owns_slice hr9
         have hpv:=HU.out.pushR _ hr9 hg9 (fun p hp=>by
          rcases List.mem_cons.1 hp with rfl |hp
          ·exact HQ1.out
          ·rw[List.mem_singleton.1 hp];exact HQ2.out)
         have HB9:=hid hpv.1
         have HUN:=hid hpv.2
         have hH9:HBox w9 w.heap.size (.slice a n ca) (.slice b n cb) (.slice (some ⟨g2,o2,none⟩) n cc):=KeepT.grown hg9 (owns_typed HU.out.rs.1) (show 25≠22 by decide) _ _ _ HU.out.hb
         refine hK'.out _ _ ⟨hH9.cells,fun _=>HB9.out.cells.2.2⟩ (fun hSe=>?_)
         clear hK' K' hSd hr9 hg9 HU HQ1 HQ2 hpv hc0 hc1 HXY hH9
         have hSd:=hSe
         clear hSe
         (try simp only[List.getElem_toArray,List.getElem_cons_zero,List.getElem_cons_succ])
         (try simp only[Act.put,List.setIfInBounds_toArray,List.set_cons_zero,List.set_cons_succ])
         refine wpU_take (i:=11) (oi:=_) (v:=.pointer (some ⟨G,2,none⟩)) (b:=false) rfl (by kernel_rfl) (by kernel_rfl) (by kernel_rfl) (by decide) (fun _ _ _ h=>h) (Or.inl ⟨by rfl,?_⟩) (by kernel_rfl) (by assumption) ?_
         ·intro u' hSu
          (try simp only[List.getElem_toArray,List.getElem_cons_zero,List.getElem_cons_succ])
          go_simp
         (try simp only[List.getElem_toArray,List.getElem_cons_zero,List.getElem_cons_succ])
         (try simp only[Act.put,List.setIfInBounds_toArray,List.set_cons_zero,List.set_cons_succ])
         have q0:=HB9.out.cells.2.2
         have q1:w9.frozen? ⟨G,2,none⟩=false:=frozen_of_row _ _ 2 _ _ HB9.out
         refine wpU_ready (rs:=[12]) (by kernel_rfl) (by simp) (AllU.cons (b:=true) rfl (by kernel_rfl) ?_ (AllU.nil))
         ·intro K' hK'
          (try simp only[List.getElem_toArray,List.getElem_cons_zero,List.getElem_cons_succ])
          go_simp
          refine hK'.out _ _ ⟨HUN.out.hb.cells,fun e=>by cases e⟩ (fun _=>wpU_done (by kernel_rfl) ?_ _)
          clear hK' K' hSd q0 q1 HB9
          try generalize (w9.setCell ⟨G,2,none⟩ _)=w11 at *
          go_wp2
          go_roundw
          case rel=>exact⟨t+1,_,_,_,_,_,_,by omega,by go_num,HUN,⟨by rw[vOf_app,HSP.out.1];rfl,by rw[lOf_app,HSP.out.2.1,uL,if_pos ht0];rw[ht0];rfl,by rw[rOf_app,HSP.out.2.2,uR,if_pos ht0,HX0.out,HX2.out];rfl⟩⟩
          case measure=>simp[intOf];omega
   ·have hb0:((t:Int)==0)=false:=by simp;omega
    have k1:IntKind.i64.wrap (2*(t:Int))=2*(t:Int):=by rw[IntKind.wrap_i64];omega
    have k2:IntKind.i64.wrap (2*(t:Int) - 2)=2*(t:Int) - 2:=by rw[IntKind.wrap_i64];omega
    have hbD:=(Below.refl w10.heap.size w10).alloc (Nat.le_refl _) (.cells #[.int .i64 (2*(t:Int) - 2)] 3)
    have hbE:=hbD.alloc hbD.size (.cells #[.int .i64 (2*(t:Int))] 3)
    have hbF:=hbE.alloc hbE.size (.cells #[.slice (some ⟨w10.heap.size,0,none⟩) 1 1,.slice (some ⟨w10.heap.size+1,0,none⟩) 1 1] 26)
    have hbG:=(Below.refl (w10.alloc (.cells #[.int .i64 (2*(t:Int) - 2)] 3)).heap.size (w10.alloc (.cells #[.int .i64 (2*(t:Int) - 2)] 3))).alloc (Nat.le_refl _) (.cells #[.int .i64 (2*(t:Int))] 3)
    have hbH:=(Below.refl ((w10.alloc (.cells #[.int .i64 (2*(t:Int) - 2)] 3)).alloc (.cells #[.int .i64 (2*(t:Int))] 3)).heap.size ((w10.alloc (.cells #[.int .i64 (2*(t:Int) - 2)] 3)).alloc (.cells #[.int .i64 (2*(t:Int))] 3))).alloc (Nat.le_refl _) (.cells #[.slice (some ⟨w10.heap.size,0,none⟩) 1 1,.slice (some ⟨w10.heap.size+1,0,none⟩) 1 1] 26)
    have HU11:=hid (HU9.out.step hbF)
    have HI1:Hid (RwI (((w10.alloc (.cells #[.int .i64 (2*(t:Int) - 2)] 3)).alloc (.cells #[.int .i64 (2*(t:Int))] 3)).alloc (.cells #[.slice (some ⟨w10.heap.size,0,none⟩) 1 1,.slice (some ⟨w10.heap.size+1,0,none⟩) 1 1] 26)) w.heap.size (.slice (some ⟨w10.heap.size,0,none⟩) 1 1) [(2*(t:Int) - 2)]):=RwI.below (RwI.below (owns_lower (RwI.one w10 (2*(t:Int) - 2)) HU9.out.bel.size) hbG) hbH
    have HI2:Hid (RwI (((w10.alloc (.cells #[.int .i64 (2*(t:Int) - 2)] 3)).alloc (.cells #[.int .i64 (2*(t:Int))] 3)).alloc (.cells #[.slice (some ⟨w10.heap.size,0,none⟩) 1 1,.slice (some ⟨w10.heap.size+1,0,none⟩) 1 1] 26)) w.heap.size (.slice (some ⟨w10.heap.size+1,0,none⟩) 1 1) [(2*(t:Int))]):=RwI.below (owns_lower (RwI.one1 w10 (.cells #[.int .i64 (2*(t:Int) - 2)] 3) (2*(t:Int))) HU9.out.bel.size) hbH
    have HC11:Hid ((((w10.alloc (.cells #[.int .i64 (2*(t:Int) - 2)] 3)).alloc (.cells #[.int .i64 (2*(t:Int))] 3)).alloc (.cells #[.slice (some ⟨w10.heap.size,0,none⟩) 1 1,.slice (some ⟨w10.heap.size+1,0,none⟩) 1 1] 26)).cell? ⟨w10.heap.size+2,0,none⟩=some (.slice (some ⟨w10.heap.size,0,none⟩) 1 1)∧(((w10.alloc (.cells #[.int .i64 (2*(t:Int) - 2)] 3)).alloc (.cells #[.int .i64 (2*(t:Int))] 3)).alloc (.cells #[.slice (some ⟨w10.heap.size,0,none⟩) 1 1,.slice (some ⟨w10.heap.size+1,0,none⟩) 1 1] 26)).cell? ⟨w10.heap.size+2,1,none⟩=some (.slice (some ⟨w10.heap.size+1,0,none⟩) 1 1)):=by
     refine⟨?_,?_⟩<;>(rw[cell_of_row _ (w10.heap.size+2) _ _ _ (0,0) (alloc_new2 w10 _ _ _)];rfl)
    clear hbD hbE hbF hbG hbH HU9
    go_upto_region 18 with (at_builtin;refine wpList_append_ls2 rfl _ _ rfl w.heap.size _ Ls (.slice (some ⟨w10.heap.size,0,none⟩) 1 1,[(2*(t:Int) - 2)]) (.slice (some ⟨w10.heap.size+1,0,none⟩) 1 1,[(2*(t:Int))]) ⟨_,_,_,rfl⟩ ⟨_,_,_,rfl⟩ rfl HU11.out.ls.1 (w10.heap.size+2) rfl HC11.out.1 HC11.out.2 HLL.out HU11.out.bel.size ?_;intro v12 w12 hr12 hg12;obtain⟨d12,cd12,rfl, -⟩:=owns_slice hr12;have hpv:=HU11.out.pushL _ hr12 hg12 (fun p hp=>by
      rcases List.mem_cons.1 hp with rfl |hp
      ·exact HI1.out
      ·rw[List.mem_singleton.1 hp];exact HI2.out);have hm1:=hpv.1.cells.2.1;have hmf1:w12.frozen? ⟨G,1,none⟩=false:=frozen_of_row _ _ 1 _ _ hpv.1;have HU12:=hid hpv.2;clear hpv hr12 hg12)
    clear k1 k2
    clear hm1 hmf1 HU11 HI1 HI2 HC11 HLL b1
    try generalize (w12.setCell ⟨G,1,none⟩ _)=W12 at *
    obtain⟨dz,cz,hze, -⟩:=owns_slice HU12.out.rs.1
    obtain⟨nz,hnz⟩:∃x,Rs.length=x:=⟨_,rfl⟩
    rw[hnz] at hze
    subst hze
    clear hnz
    have HU:=HU12
    clear HU12
    replace HU:=hid HU.out.drew
    refine wp_region_until 11 (fun (b':Bool) (u:World)=>(u.cell? ⟨w.heap.size,0,none⟩=some (.slice a n ca)∧u.cell? ⟨w.heap.size,1,none⟩=some (.slice b n cb)∧u.cell? ⟨w.heap.size,2,none⟩=some (.slice (some ⟨g2,o2,none⟩) n cc))∧(b'=false→u.cell? ⟨G,2,none⟩=some (.slice dz nz cz))) (by kernel_rfl) ⟨HU.out.hb.cells,fun _=>HU.out.box.cells.2.2⟩ (fun hSd=>?_)
    generalize W12.drew=u0 at *
    refine wpU_take (i:=0) (oi:=_) (v:=.pointer (some ⟨G,2,none⟩)) (b:=false) rfl (by kernel_rfl) (by kernel_rfl) (by kernel_rfl) (by decide) (fun _ _ _ h=>h) (Or.inl ⟨by rfl,?_⟩) (by kernel_rfl) (by assumption) ?_
    ·intro u' hSu
     (try simp only[List.getElem_toArray,List.getElem_cons_zero])
     go_simp
    (try simp only[List.getElem_toArray,List.getElem_cons_zero])
    (try simp only[Act.put,List.setIfInBounds_toArray,List.set_cons_zero,List.set_cons_succ])
    refine wpU_ahead (i:=1) (oi:=_) (v:=.slice dz nz cz) rfl (by kernel_rfl) (by kernel_rfl) (by kernel_rfl) (by decide) rfl (by kernel_rfl) (fun _ _ _ h=>h) (Or.inl ⟨by rfl,?_⟩) (by kernel_rfl) (by assumption) ?_
    ·intro u' hSu
     (try simp only[List.getElem_toArray,List.getElem_cons_zero,List.getElem_cons_succ])
     obtain⟨_,s5⟩:=hSu
     have s6:=s5 rfl
     go_simp
    (try simp only[List.getElem_toArray,List.getElem_cons_zero,List.getElem_cons_succ])
    (try simp only[Act.put,List.setIfInBounds_toArray,List.set_cons_zero,List.set_cons_succ])
    refine wpU_take (i:=2) (oi:=_) (v:=.pointer (some ⟨w.heap.size,1,none⟩)) (b:=false) rfl (by kernel_rfl) (by kernel_rfl) (by kernel_rfl) (by decide) (fun _ _ _ h=>h) (Or.inl ⟨by rfl,?_⟩) (by kernel_rfl) (by assumption) ?_
    ·intro u' hSu
     (try simp only[List.getElem_toArray,List.getElem_cons_zero,List.getElem_cons_succ])
     go_simp
    (try simp only[List.getElem_toArray,List.getElem_cons_zero,List.getElem_cons_succ])
    (try simp only[Act.put,List.setIfInBounds_toArray,List.set_cons_zero,List.set_cons_succ])
    refine wpU_take (i:=3) (oi:=_) (v:=.slice b n cb) (b:=false) rfl (by kernel_rfl) (by kernel_rfl) (by kernel_rfl) (by decide) (fun _ _ _ h=>h) (Or.inl ⟨by rfl,?_⟩) (by kernel_rfl) (by assumption) ?_
    ·intro u' hSu
     (try simp only[List.getElem_toArray,List.getElem_cons_zero,List.getElem_cons_succ])
     obtain⟨_,⟨s0,s1,s2⟩,_⟩:=hSu
     go_simp
    (try simp only[List.getElem_toArray,List.getElem_cons_zero,List.getElem_cons_succ])
    (try simp only[Act.put,List.setIfInBounds_toArray,List.set_cons_zero,List.set_cons_succ])
    refine wpU_take (i:=5) (oi:=_) (v:=.pointer (some ⟨w.heap.size,2,none⟩)) (b:=false) rfl (by kernel_rfl) (by kernel_rfl) (by kernel_rfl) (by decide) (fun _ _ _ h=>h) (Or.inl ⟨by rfl,?_⟩) (by kernel_rfl) (by assumption) ?_
    ·intro u' hSu
     (try simp only[List.getElem_toArray,List.getElem_cons_zero,List.getElem_cons_succ])
     go_simp
    (try simp only[List.getElem_toArray,List.getElem_cons_zero,List.getElem_cons_succ])
    (try simp only[Act.put,List.setIfInBounds_toArray,List.set_cons_zero,List.set_cons_succ])
    refine wpU_take (i:=6) (oi:=_) (v:=.slice (some ⟨g2,o2,none⟩) n cc) (b:=false) rfl (by kernel_rfl) (by kernel_rfl) (by kernel_rfl) (by decide) (fun _ _ _ h=>h) (Or.inl ⟨by rfl,?_⟩) (by kernel_rfl) (by assumption) ?_
    ·intro u' hSu
     (try simp only[List.getElem_toArray,List.getElem_cons_zero,List.getElem_cons_succ])
     obtain⟨_,⟨s0,s1,s2⟩,_⟩:=hSu
     go_simp
    (try simp only[List.getElem_toArray,List.getElem_cons_zero,List.getElem_cons_succ])
    (try simp only[Act.put,List.setIfInBounds_toArray,List.set_cons_zero,List.set_cons_succ])
    refine wpU_ready (rs:=[4]) (by kernel_rfl) (by simp) (AllU.cons (b:=false) rfl (by kernel_rfl) ?_ (AllU.nil))
    ·intro K' hK'
     (try simp only[List.getElem_toArray,List.getElem_cons_zero,List.getElem_cons_succ])
     go_simp
     refine(HF1.out _ HU.out.bel).mono ?_
     rintro e v1 ⟨q1,rfl,hq,hb⟩
     have HQ1:=hid (owns_lower hq HU.out.bel.size)
     obtain⟨e1,f1,rfl, -⟩:=owns_slice hq
     replace HU:=hid (HU.out.step hb)
     refine hK'.out _ _ ⟨HU.out.hb.cells,fun _=>HU.out.box.cells.2.2⟩ (fun hSe=>?_)
     clear hK' K' hSd
     have hSd:=hSe
     clear hSe
     clear hb hq
     (try simp only[List.getElem_toArray,List.getElem_cons_zero,List.getElem_cons_succ])
     (try simp only[Act.put,List.setIfInBounds_toArray,List.set_cons_zero,List.set_cons_succ])
     refine wpU_ready (rs:=[7]) (by kernel_rfl) (by simp) (AllU.cons (b:=false) rfl (by kernel_rfl) ?_ (AllU.nil))
     ·intro K' hK'
      (try simp only[List.getElem_toArray,List.getElem_cons_zero,List.getElem_cons_succ])
      go_simp
      refine(HF2.out _ HU.out.bel).mono ?_
      rintro e v2 ⟨q2,rfl,hq,hb⟩
      have HQ2:=hid (owns_lower hq HU.out.bel.size)
      obtain⟨e2,f2,rfl, -⟩:=owns_slice hq
      replace HU:=hid (HU.out.step hb)
      replace HQ1:=hid (owns_keep HQ1.out (KeepT.below hb))
      refine hK'.out _ _ ⟨HU.out.hb.cells,fun _=>HU.out.box.cells.2.2⟩ (fun hSe=>?_)
      clear hK' K' hSd
      have hSd:=hSe
      clear hSe
      clear hb hq
      (try simp only[List.getElem_toArray,List.getElem_cons_zero,List.getElem_cons_succ])
      (try simp only[Act.put,List.setIfInBounds_toArray,List.set_cons_zero,List.set_cons_succ])
      refine wpU_ready (rs:=[8]) (by kernel_rfl) (by simp) (AllU.cons (b:=false) rfl (by kernel_rfl) ?_ (AllU.nil))
      ·intro K' hK'
       (try simp only[List.getElem_toArray,List.getElem_cons_zero,List.getElem_cons_succ])
       go_simp
       have hbA:=(Below.refl v2.heap.size v2).alloc (Nat.le_refl _) (.cells #[.slice e1 X1.length f1,.slice e2 X2.length f2] 22)
       have hXA:=heap_alloc_new v2 (.cells #[.slice e1 X1.length f1,.slice e2 X2.length f2] 22)
       replace HU:=hid (HU.out.step hbA)
       replace HQ1:=hid (owns_keep HQ1.out (KeepT.below hbA))
       replace HQ2:=hid (owns_keep HQ2.out (KeepT.below hbA))
       refine hK'.out _ _ ⟨HU.out.hb.cells,fun _=>HU.out.box.cells.2.2⟩ (fun hSe=>?_)
       clear hK' K' hSd
       have hSd:=hSe
       clear hSe
       obtain⟨gy,hgy⟩:∃x,v2.heap.size=x:=⟨_,rfl⟩
       obtain⟨vy,hvy⟩:∃x,v2.alloc (.cells #[.slice e1 X1.length f1,.slice e2 X2.length f2] 22)=x:=⟨_,rfl⟩
       rw[hgy,hvy] at hXA
       rw[hvy] at HU HQ1 HQ2 hSd
       simp only[hvy]
       simp only[hgy]
       have HXY:=hid hXA
       clear hgy hvy hXA hbA
       (try simp only[List.getElem_toArray,List.getElem_cons_zero,List.getElem_cons_succ])
       (try simp only[Act.put,List.setIfInBounds_toArray,List.set_cons_zero,List.set_cons_succ])
       refine wpU_ready (rs:=[9]) (by kernel_rfl) (by simp) (AllU.cons (b:=false) rfl (by kernel_rfl) ?_ (AllU.nil))
       ·intro K' hK'
        rw[if_pos (by rfl)]
        have hc0:vy.cell? ⟨gy,0,none⟩=some (.slice e1 X1.length f1):=by rw[cell_of_row vy gy _ _ _ (0,0) HXY.out];rfl
        have hc1:vy.cell? ⟨gy,1,none⟩=some (.slice e2 X2.length f2):=by rw[cell_of_row vy gy _ _ _ (0,0) HXY.out];rfl
        refine wp_append_rs2 _ _ rfl w.heap.size (.slice dz nz cz) Rs (.slice e1 X1.length f1,X1) (.slice e2 X2.length f2,X2) ⟨_,_,_,rfl⟩ ⟨_,_,_,rfl⟩ rfl HU.out.rs.1 gy rfl hc0 hc1 HLR.out HU.out.bel.size ?_
        intro v9 w9 hr9 hg9
        obtain⟨d9,cd9,rfl, -⟩:=owns_slice hr9
        have hpv:=HU.out.pushR _ hr9 hg9 (fun p hp=>by
         rcases List.mem_cons.1 hp with rfl |hp
         ·exact HQ1.out
         ·rw[List.mem_singleton.1 hp];exact HQ2.out)
        have HB9:=hid hpv.1
        have HUN:=hid hpv.2
        have hH9:HBox w9 w.heap.size (.slice a n ca) (.slice b n cb) (.slice (some ⟨g2,o2,none⟩) n cc):=KeepT.grown hg9 (owns_typed HU.out.rs.1) (show 25≠22 by decide) _ _ _ HU.out.hb
        refine hK'.out _ _ ⟨hH9.cells,fun _=>HB9.out.cells.2.2⟩ (fun hSe=>?_)
        clear hK' K' hSd hr9 hg9 HU HQ1 HQ2 hpv hc0 hc1 HXY hH9
        have hSd:=hSe
        clear hSe
        (try simp only[List.getElem_toArray,List.getElem_cons_zero,List.getElem_cons_succ])
        (try simp only[Act.put,List.setIfInBounds_toArray,List.set_cons_zero,List.set_cons_succ])
        refine wpU_take (i:=10) (oi:=_) (v:=.pointer (some ⟨G,2,none⟩)) (b:=false) rfl (by kernel_rfl) (by kernel_rfl) (by kernel_rfl) (by decide) (fun _ _ _ h=>h) (Or.inl ⟨by rfl,?_⟩) (by kernel_rfl) (by assumption) ?_
        ·intro u' hSu
         (try simp only[List.getElem_toArray,List.getElem_cons_zero,List.getElem_cons_succ])
         go_simp
        (try simp only[List.getElem_toArray,List.getElem_cons_zero,List.getElem_cons_succ])
        (try simp only[Act.put,List.setIfInBounds_toArray,List.set_cons_zero,List.set_cons_succ])
        have q0:=HB9.out.cells.2.2
        have q1:w9.frozen? ⟨G,2,none⟩=false:=frozen_of_row _ _ 2 _ _ HB9.out
        refine wpU_ready (rs:=[11]) (by kernel_rfl) (by simp) (AllU.cons (b:=true) rfl (by kernel_rfl) ?_ (AllU.nil))
        ·intro K' hK'
         (try simp only[List.getElem_toArray,List.getElem_cons_zero,List.getElem_cons_succ])
         go_simp
         refine hK'.out _ _ ⟨HUN.out.hb.cells,fun e=>by cases e⟩ (fun _=>wpU_done (by kernel_rfl) ?_ _)
         clear hK' K' hSd q0 q1 HB9
         try generalize (w9.setCell ⟨G,2,none⟩ _)=w11 at *
         go_wp2
         go_roundw
         case rel=>exact⟨t+1,_,_,_,_,_,_,by omega,by go_num,HUN,⟨by rw[vOf_app,HSP.out.1];rfl,by rw[lOf_app,HSP.out.2.1,uL,if_neg ht0];rfl,by rw[rOf_app,HSP.out.2.2,uR,if_neg ht0,HX1.out,HX2.out];rfl⟩⟩
         case measure=>simp[intOf];omega
  ·obtain rfl:t=T:=by omega
   obtain⟨dx,cx',hxe, -⟩:=owns_slice HUS.out.vs.1
   subst hxe
   obtain⟨dy,cy,hye, -⟩:=owns_slice HUS.out.ls.1
   subst hye
   obtain⟨dz,cz,hze, -⟩:=owns_slice HUS.out.rs.1
   subst hze
   obtain⟨e0,e1,e2⟩:=HUS.out.box.cells
   obtain⟨q0,q1,q2⟩:=HUS.out.res.cells
   have f0:wr.frozen? ⟨w.heap.size+1,0,none⟩=false:=frozen_of_row _ _ 0 _ _ HUS.out.res
   have f1:wr.frozen? ⟨w.heap.size+1,1,none⟩=false:=frozen_of_row _ _ 1 _ _ HUS.out.res
   have f2:wr.frozen? ⟨w.heap.size+1,2,none⟩=false:=frozen_of_row _ _ 2 _ _ HUS.out.res
   obtain⟨o1,o2,o3,o4,o5⟩:=HUS.out.out3
   have HO1:=hid o1
   have HO2:=hid o2
   have HO3:=hid o3
   have HO4:=hid o4
   have HO5:=hid o5
   clear o1 o2 o3 o4 o5
   go_wp2
   refine bodyPost_ret (HO1.out.result2 rfl _ rfl) rfl ?_
   exact⟨_,_,_,Vs,Ls,Rs,rfl,by rw[HN.out,HM.out];exact HSP.out.1,HSP.out.2.1,HSP.out.2.2,HO2.out,HO3.out,HO4.out,HO5.out⟩
end Go.Proofs.YtgamblainfkiaaaGreatDoor
