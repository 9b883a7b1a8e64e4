/- forward of package hidden. -/
import Derived.Test.YtgamblainfkiaaaGreatDoorHidDHxUnrA
namespace Go.Proofs.YtgamblainfkiaaaGreatDoor
open Go.RowKit Go.Shelf
theorem wp_make_full {P:Program} (w:World) {o:Oper} {a:Act} {K:Act→World→Prop} {Q:Exit→Act→World→Prop} (l c:Operand) (t:TypeId) (hop:o.op=Op.makeSlice t l c)
  (base:Nat) (e:TypeId) (i:TypeInfo) (z:Value) (size:Nat) (h1:P.underlying t=some (.slice e)) (h2:P.info? e=some i) (h3:i.zero=some z) (h4:i.size=size)
  (kl kc:IntKind) (L C:Int) (n:Nat) (hl:a.eval l=.int kl L) (hc:a.eval c=.int kc C) (hL:L=(n:Int)) (hC:C=(n:Int)) (b2:i.bytes*n≤281474976710656) (b3:n≤maxLen) (b4:base≤w.heap.size)
  (hK:∀w',w'.ownsRow base e size (.slice (some ⟨w.heap.size,0,none⟩) n n) n (madeCells z.cells (n*size)).toList→w.grownBy w' none→K (a.put o.dst (.slice (some ⟨w.heap.size,0,none⟩) n n)) w'):o.wp P a w K Q:=by
 obtain⟨w',hrun,r1,r2⟩:=run_make_full (P:=P) w base t e i z size h1 h2 h3 h4 kl kc n b2 b3 b4
 subst hL
 subst hC
 unfold Oper.wp
 simp[execOp,hop,hl,hc,hrun,Result.andThen]
 exact hK w' r1 r2
def RowV (w:World) (G:Nat) (X:List Value):Prop:=w.heap[G]? =some (.cells X.toArray 22 (0,0))
theorem RowV.cell {w:World} {g:Nat} {X:List Value} (h:RowV w g X) (j:Nat) (hj:j<X.length):w.cell? ⟨g,j,none⟩=some X[j]:=by
 rw[cell_of_row w g j _ _ (0,0) h]
 simp[hj]
theorem RowV.fz {w:World} {g:Nat} {X:List Value} (h:RowV w g X) (j:Nat):w.frozen? ⟨g,j,none⟩=false:=frozen_of_row w g j _ _ h
theorem RowV.lt {w:World} {g:Nat} {X:List Value} (h:RowV w g X):g<w.heap.size:=(Array.getElem?_eq_some_iff.1 h).1
theorem RowV.below {w w':World} {g b:Nat} {X:List Value} (h:RowV w g X) (hb:Below b w w') (hg:g<b):RowV w' g X:=(hb.block g hg).trans h
theorem RowV.set {w:World} {g:Nat} {X:List Value} (h:RowV w g X) (j:Nat) (v:Value):RowV (w.setCell ⟨g,j,none⟩ v) g (X.set j v):=by
 have h1:(w.setCell ⟨g,j,none⟩ v).heap[g]? =some (.cells (X.toArray.setIfInBounds j v) 22 (0,0)):=heap_setCell_same w g j _ _ _ h
 rw[RowV,h1]
 simp
theorem made_slices (n:Nat):(madeCells (Value.slice none 0 0).cells (n*1)).toList=List.replicate n (.slice none 0 0):=by
 rw[show (Value.slice none 0 0).cells= #[Value.slice none 0 0] from rfl,toList_madeCells_one,Nat.mul_one]
structure FwS (w:World) (s L G t:Nat) (F:Nat→Nat→Rat) (U:World):Prop where
 ex:∃X:List Value,X.length=L∧RowV U G X∧∀k (hk:k<X.length),k<t→(∃g,X[k]=.slice (some ⟨g,0,none⟩) s s∧G<g∧RowF U g (lF s (F k)))∧∀k' (hk':k'<X.length),k'<k→X[k']≠X[k]
 bel:Below w.heap.size w U
theorem FwS.step {w U U':World} {s L G t:Nat} {F:Nat→Nat→Rat} (h:FwS w s L G t F U) (hb:Below U.heap.size U U'):FwS w s L G t F U':=by
 obtain⟨X,h1,h2,h3⟩:=h.ex
 refine⟨⟨X,h1,h2.below hb h2.lt,fun k hk ht=>?_⟩,h.bel.trans (hb.mono h.bel.size)⟩
 obtain⟨⟨g,e1,e2,e3⟩,e4⟩:=h3 k hk ht
 exact⟨⟨g,e1,e2,e3.below hb e3.lt⟩,e4⟩
theorem FwS.lt {w U:World} {s L G t:Nat} {F:Nat→Nat→Rat} (h:FwS w s L G t F U):G<U.heap.size:=by
 obtain⟨X,_,h2,_⟩:=h.ex
 exact h2.lt
theorem FwS.rows {w U:World} {s L G:Nat} {F:Nat→Nat→Rat} (h:FwS w s L G L F U):FsS U (some ⟨G,0,none⟩) ((List.range L).map fun t=>lF s (F t)):=fun k hk=>by
 obtain⟨X,h1,h2,h3⟩:=h.ex
 have hk':k<L:=by simpa using hk
 obtain⟨⟨g,e1,_,e3⟩,_⟩:=h3 k (by omega) hk'
 have e:((List.range L).map fun t=>lF s (F t))[k]=lF s (F k):=by simp
 rw[e,lF_length]
 exact⟨G,0,_,s,rfl,h2.lt,by rw[Nat.zero_add,h2.cell k (by omega),e1],e3.fr,Nat.le_refl _⟩
def HC.inn (h:HC):Nat→Nat→Rat
 |0,j=>h.st j
 |t+1,j=>sumR (fun i=>h.alp t i*h.mv i j) h.s
theorem HC.alp_inn (h:HC):∀t i,h.alp t i=h.inn t i*h.sh t i
 |0,_=>rfl
 |_+1,_=>rfl
structure HidV (D:Nat) (h:HC) (m:Nat) (l:List Fr) (R1 R2:List (List Fr)) (Q:List Nat):Prop where
 ok:HidOK h.s m l R1 R2
 L:Q.length=h.L
 q:∀x∈Q,x<m
 st:Lst h.s h.st l
 mv:∀i (hi:i<R1.length),Lst h.s (h.mv i) R1[i]
 sh:∀t (ht:t<Q.length) i (hi:i<R2.length),∃hx:Q[t]<R2[i].length,frQ R2[i][Q[t]]=h.sh t i∧R2[i][Q[t]].2.1.size+R2[i][Q[t]].2.2.size≤30010
 sm:h.Sml D
theorem HidV.inn {D:Nat} {h:HC} {m:Nat} {l:List Fr} {R1 R2:List (List Fr)} {Q:List Nat} (v:HidV D h m l R1 R2 Q):∀t i,t<h.L→i<h.s→qw (h.inn t i)≤30010
 |0,i,_,hi=>v.sm.qw (v.sm.st i hi) (by omega)
 |t+1,j,ht,hj=>v.sm.qw (Sm.sum v.sm.s4 fun i hi=>(v.sm.alp t i (by omega) hi).mul (v.sm.mv i hi j hj)) (by omega)
theorem HidV.mvs {D:Nat} {h:HC} {m:Nat} {l:List Fr} {R1 R2:List (List Fr)} {Q:List Nat} (v:HidV D h m l R1 R2 Q) (t:Nat) (ht:t<h.L) (i j:Nat) (hi:i<h.s) (hj:j<h.s):qw (h.alp t i*h.mv i j)≤30010:=v.sm.qw ((v.sm.alp t i ht hi).mul (v.sm.mv i hi j hj)) (by omega)
theorem HidV.mvp {D:Nat} {h:HC} {m:Nat} {l:List Fr} {R1 R2:List (List Fr)} {Q:List Nat} (v:HidV D h m l R1 R2 Q) (t:Nat) (ht:t<h.L) (j k:Nat) (hj:j<h.s) (hk:k≤h.s):qw (sumR (fun i=>h.alp t i*h.mv i j) k)≤40000:=Nat.le_trans (v.sm.qw (Sm.sum (by have:=v.sm.s4;omega) fun i hi=>(v.sm.alp t i ht (by omega)).mul (v.sm.mv i (by omega) j hj)) (by omega)) (by omega)
theorem HidV.alps {D:Nat} {h:HC} {m:Nat} {l:List Fr} {R1 R2:List (List Fr)} {Q:List Nat} (v:HidV D h m l R1 R2 Q) (t:Nat) (ht:t<h.L):Lst h.s (h.alp t) (lF h.s (h.alp t)):=Lst.mk' fun i hi=>v.sm.qw (v.sm.alp t i ht hi) (by omega)
structure FwH (h:HC) (m n:Nat) (Q:List Nat) (l:List Fr) (R1 R2:List (List Fr)):Prop where
 L:Q.length=h.L
 q:∀x∈Q,x<m
 st:Lst n h.st l
 mv:∀i (hi:i<R1.length),Lst n (h.mv i) R1[i]
 sh:∀t (ht:t<Q.length) i (hi:i<R2.length),∃hx:Q[t]<R2[i].length,frQ R2[i][Q[t]]=h.sh t i∧R2[i][Q[t]].2.1.size+R2[i][Q[t]].2.2.size≤30010
set_option maxRecDepth 100000 in
set_option maxHeartbeats 4000000 in
theorem hiForward_own {D:Nat} (a b c d:Option Addr) (ca cb cc cd n L m:Nat) (l:List Fr) (R1 R2:List (List Fr)) (Q:List Nat) (h:HC) (w:World) (hI:HidI w a b c n m l R1 R2) (hV:HidV D h m l R1 R2 Q) (hsn:h.s=n) (hL:h.L=L) (hQ:IntS w d (iL Q)):
  Calls Tryz.prog 31 #[.agg #[.slice a n ca,.slice b n cb,.slice c n cc],.slice d L cd] w fun e w'=>∃G,e=.returned (.slice (some ⟨G,0,none⟩) L L)∧w.heap.size≤G∧FwS w n L G L h.alp w':=by
 obtain⟨i0,hi0,hz0,hz1,hz2⟩:=info_parts Tryz.infoFracs
 have hn4:=hV.sm.s4
 have hL8:=hV.sm.L8
 have hn1:=hV.ok.n1
 have hm4:=hV.ok.m4
 have hok:=hV.ok
 have HSN:=hid hsn
 have HL:=hid hL
 have HIN:=hid hV.inn
 have HMS:=hid hV.mvs
 have HMP:=hid hV.mvp
 have HAS:=hid hV.alps
 have hv:=hV
 obtain⟨-,hq1,hq2,hst,hmv,hsh, -⟩:=hv
 rw[hsn] at hn4 hn1 hok HIN HMS HMP HAS hst hmv
 rw[hL] at hL8 HIN HMS HMP HAS
 have HOK:=hid hok
 have HV:Hid (FwH h m n Q l R1 R2):=⟨hq1,hq2,hst,hmv,hsh⟩
 have HI:=hid hI
 have HQ:=hid hQ
 clear hI hV hQ hsn hL hok hq1 hq2 hst hmv hsh
 have hA:=(Below.refl w.heap.size w).alloc (Nat.le_refl _) (HC3 (.slice a n ca) (.slice b n cb) (.slice c n cc))
 have hHB:=HBox.new w (.slice a n ca) (.slice b n cb) (.slice c n cc)
 have hsz:(w.alloc (HC3 (.slice a n ca) (.slice b n cb) (.slice c n cc))).heap.size=w.heap.size+1:=by simp
 have HDL:Hid (w.heap.size+1≤(w.alloc (HC3 (.slice a n ca) (.slice b n cb) (.slice c n cc))).heap.size):=by show _≤_;omega
 clear hsz
 go_enter Tryz.func31,Tryz.ntmps31
 go_upto_region 1 with fail
 generalize (w.alloc (HC3 (.slice a n ca) (.slice b n cb) (.slice c n cc)))=W at *
 have HH:Hid (HBox W.drew w.heap.size (.slice a n ca) (.slice b n cb) (.slice c n cc)):=hHB
 have HB0:=hid hA.drew
 have HDS:Hid (W.heap.size≤W.drew.heap.size):=Nat.le_refl W.heap.size
 have HDL2:Hid (w.heap.size+1≤W.drew.heap.size):=HDL.out
 clear HDL
 have HDL:=HDL2
 clear HDL2 hHB hA
 refine wp_region_held_drew (S:=fun u=>u.cell? ⟨w.heap.size,0,none⟩=some (.slice a n ca)) (by kernel_rfl) HH.out.cells.1 (fun hSd=>?_)
 generalize W.drew=u0 at *
 refine wpAnyH_take (i:=0) (oi:=_) (v:=.slice d L cd) rfl (by kernel_rfl) (by kernel_rfl) (by kernel_rfl) (fun _ _ _ h=>h) (Or.inl ⟨by rfl,?_⟩) (by assumption) ?_
 ·intro u' hSu
  (try simp only[List.getElem_toArray,List.getElem_cons_zero])
  go_simp
 (try simp only[List.getElem_toArray,List.getElem_cons_zero])
 (try simp only[Act.put,List.setIfInBounds_toArray,List.set_cons_zero,List.set_cons_succ])
 refine wpAnyH_take (i:=1) (oi:=_) (v:=.int .i64 (L:Nat)) rfl (by kernel_rfl) (by kernel_rfl) (by kernel_rfl) (fun _ _ _ h=>h) (Or.inl ⟨by rfl,?_⟩) (by assumption) ?_
 ·intro u' hSu
  (try simp only[List.getElem_toArray,List.getElem_cons_zero,List.getElem_cons_succ])
  go_simp
 (try simp only[List.getElem_toArray,List.getElem_cons_zero,List.getElem_cons_succ])
 (try simp only[Act.put,List.setIfInBounds_toArray,List.set_cons_zero,List.set_cons_succ])
 refine wpAnyH_take (i:=3) (oi:=_) (v:=.pointer (some ⟨w.heap.size,0,none⟩)) rfl (by kernel_rfl) (by kernel_rfl) (by kernel_rfl) (fun _ _ _ h=>h) (Or.inl ⟨by rfl,?_⟩) (by assumption) ?_
 ·intro u' hSu
  (try simp only[List.getElem_toArray,List.getElem_cons_zero,List.getElem_cons_succ])
  go_simp
 (try simp only[List.getElem_toArray,List.getElem_cons_zero,List.getElem_cons_succ])
 (try simp only[Act.put,List.setIfInBounds_toArray,List.set_cons_zero,List.set_cons_succ])
 refine wpAnyH_take (i:=4) (oi:=_) (v:=.slice a n ca) rfl (by kernel_rfl) (by kernel_rfl) (by kernel_rfl) (fun _ _ _ h=>h) (Or.inl ⟨by rfl,?_⟩) (by assumption) ?_
 ·intro u' hSu
  (try simp only[List.getElem_toArray,List.getElem_cons_zero,List.getElem_cons_succ])
  obtain s0:=hSu
  go_simp
 (try simp only[List.getElem_toArray,List.getElem_cons_zero,List.getElem_cons_succ])
 (try simp only[Act.put,List.setIfInBounds_toArray,List.set_cons_zero,List.set_cons_succ])
 refine wpAnyH_ready (rs:=[2]) (by kernel_rfl) (by simp) (AllReadyH.cons rfl ?_ (AllReadyH.nil))
 ·intro K' hK'
  rw[if_pos (by rfl)]
  refine wp_make_full _ _ _ 23 rfl W.heap.size 22 i0 (.slice none 0 0) 1 Tryz.underlying23 hi0 hz0 hz1 .i64 .i64 _ _ L rfl rfl (by go_num) (by go_num) (by rw[hz2];omega) (by unfold maxLen;omega) (by exact HDS.out) ?_
  intro w2 hown2 hgrow2
  have hB2:Below u0.heap.size u0 w2:=(Below.refl _ u0).grown hgrow2 (Nat.le_refl _) (fun k e=>by cases e)
  have hb2:=block_of_own hown2
  rw[made_slices] at hb2
  have HK0:Hid (FwS w n L u0.heap.size 0 h.alp w2):=⟨⟨_,List.length_replicate,hb2,fun k _ h=>absurd h (by omega)⟩,(HB0.out.trans (hB2.mono HB0.out.size))⟩
  replace HH:=hid (HH.out.below hB2 HH.out.lt)
  refine hK'.out _ _ HH.out.cells.1 (fun hSe=>?_)
  clear hK' K' hSd hown2 hgrow2 hb2 hB2
  (try simp only[List.getElem_toArray,List.getElem_cons_zero,List.getElem_cons_succ])
  (try simp only[Act.put,List.setIfInBounds_toArray,List.set_cons_zero,List.set_cons_succ])
  refine wpAnyH_take (i:=5) (oi:=_) (v:=.slice (some ⟨u0.heap.size,0,none⟩) L L) rfl (by kernel_rfl) (by kernel_rfl) (by kernel_rfl) (fun _ _ _ h=>h) (Or.inl ⟨by rfl,?_⟩) (by assumption) ?_
  ·intro u' hSu
   (try simp only[List.getElem_toArray,List.getElem_cons_zero,List.getElem_cons_succ])
   go_simp
  (try simp only[List.getElem_toArray,List.getElem_cons_zero,List.getElem_cons_succ])
  (try simp only[Act.put,List.setIfInBounds_toArray,List.set_cons_zero,List.set_cons_succ])
  refine wpAnyH_take (i:=6) (oi:=_) (v:=.slice a n ca) rfl (by kernel_rfl) (by kernel_rfl) (by kernel_rfl) (fun _ _ _ h=>h) (Or.inl ⟨by rfl,?_⟩) (by assumption) ?_
  ·intro u' hSu
   (try simp only[List.getElem_toArray,List.getElem_cons_zero,List.getElem_cons_succ])
   go_simp
  (try simp only[List.getElem_toArray,List.getElem_cons_zero,List.getElem_cons_succ])
  (try simp only[Act.put,List.setIfInBounds_toArray,List.set_cons_zero,List.set_cons_succ])
  refine wpAnyH_done (by kernel_rfl) ?_ _
  clear hSe
  obtain⟨G,hGe⟩:∃G,u0.heap.size=G:=⟨_,rfl⟩
  simp only[hGe] at HK0⊢
  have hGw:w.heap.size<G:=by have h1:=HB0.out.size;have h2:=HDL.out;omega
  clear hGe
  have HR0:Hid (FrS w2 a l∧Lst n (h.inn 0) l):=⟨HI.out.st.below HK0.out.bel,HV.out.st⟩
  clear HB0 HDS HDL
  go_wp2_with fail
  go_loopw [6,16] (fun rv iv wr=>∃t:Nat,t≤L∧iv=.int .i64 t∧(∃(dr:Option Addr) (cr:Nat) (r:List Fr),rv=.slice dr n cr∧Hid (FrS wr dr r∧(t<L→Lst n (h.inn t) r)))∧Hid (FwS w n L G t h.alp wr)∧Hid (HBox wr w.heap.size (.slice a n ca) (.slice b n cb) (.slice c n cc))) (fun _ iv _=>L - (intOf iv).toNat)
  case atStart=>exact⟨0,Nat.zero_le _,rfl,⟨a,ca,l,rfl,HR0.out.1,fun _=>HR0.out.2⟩,HK0,HH⟩
  case round=>
   obtain⟨t,ht,rfl,⟨dr,cr,r,rfl,HRR⟩,HK,HX⟩:=hrel
   clear HK0 HH HR0
   by_cases hlt:t<L
   ·have htQ:t<Q.length:=by rw[HV.out.L,HL.out];exact hlt
    have hti:t<(iL Q).length:=by rw[iL_length];exact htQ
    obtain⟨gq,oq,rfl,hgq,q0⟩:=(HQ.out.below HK.out.bel) t hti
    have eq:(iL Q)[t]=((Q[t]:Nat):Int):=by simp[iL]
    rw[eq] at q0
    have hq4:Q[t]<m:=HV.out.q _ (List.getElem_mem htQ)
    have HSH:=hid (fun (U:World) (hU:Below w.heap.size w U) (hr:FrS U dr r)=>hShown_any a b c dr n n ca cb cc cr n Q[t] R2 r (h.inn t) (h.sh t) U ((HI.out.below hU).sh) hr (HRR.out.2 hlt) HOK.out.sh.len (HV.out.sh t htQ) (fun i hi=>by rw[HOK.out.sh.each i hi];omega) (by omega))
    have HST:=hid (fun (U:World) (hU:Below w.heap.size w U) (g:Nat) (hr:FrS U (some ⟨g,0,none⟩) (lF n (h.alp t)))=>chStep_yes (some ⟨g,0,none⟩) b n cb n (lF n (h.alp t)) R1 (h.alp t) h.mv U hr ((HI.out.below hU).mv) (HAS.out t hlt) HOK.out.mv HV.out.mv (HMS.out t hlt) (HMP.out t hlt) (by omega) (by omega))
    have HAE:Hid ((lF n fun i=>h.inn t i*h.sh t i)=lF n (h.alp t)):=lF_congr fun i _=>(h.alp_inn t i).symm
    have HIE:Hid (t+1<L→Lst n (h.inn (t+1)) (lF n fun j=>sumR (fun i=>h.alp t i*h.mv i j) n)):=fun h1=>by
     have e:(lF n fun j=>sumR (fun i=>h.alp t i*h.mv i j) n)=lF n (h.inn (t+1)):=lF_congr fun j _=>by rw[HC.inn,HSN.out]
     rw[e]
     exact Lst.mk' fun i hi=>HIN.out (t+1) i h1 hi
    rw[HAE.out] at HSH
    generalize Q[t]=qt at *
    clear eq hti htQ HAE
    obtain⟨e0,e1,e2⟩:=HX.out.cells
    go_wp2_with fail
    refine(HSH.out _ HK.out.bel HRR.out.1).mono ?_
    rintro e w3 ⟨gt,rfl,hgt,hr3,hb3⟩
    have hGgt:G<gt:=Nat.lt_of_lt_of_le HK.out.lt hgt
    obtain⟨X,hx1,hy2,hy3⟩:=HK.out.ex
    have hx2:=hy2.below hb3 hy2.lt
    have hx3:∀k (hk:k<X.length),k<t→(∃g,X[k]=.slice (some ⟨g,0,none⟩) n n∧G<g∧RowF w3 g (lF n (h.alp k)))∧(∀k' (hk':k'<X.length),k'<k→X[k']≠X[k])∧X[k]≠.slice (some ⟨gt,0,none⟩) n n:=fun k hk ht=>by
     obtain⟨⟨g,e1,e2,e3⟩,e4⟩:=hy3 k hk ht
     refine⟨⟨g,e1,e2,e3.below hb3 e3.lt⟩,e4,fun e=>?_⟩
     have h1:=e3.lt
     rw[e1] at e
     injection e with e5
     injection e5 with e6
     injection e6 with e7
     omega
    clear hy2 hy3
    replace HK:=hid (HK.out.step hb3)
    replace HX:=hid (HX.out.below hb3 HX.out.lt)
    have k0:=hx2.cell t (by omega)
    have f0:=hx2.fz t
    have hset:=hx2.set t (.slice (some ⟨gt,0,none⟩) n n)
    have HSB:=hid (HK.out.bel.setCell (p:=⟨G,t,none⟩) (show w.heap.size≤G by omega) (.slice (some ⟨gt,0,none⟩) n n))
    have HR3:Hid (RowF (w3.setCell ⟨G,t,none⟩ (.slice (some ⟨gt,0,none⟩) n n)) gt (lF n (h.alp t))):=hr3.off G t _ (by omega)
    have HK4:Hid (FwS w n L G (t+1) h.alp (w3.setCell ⟨G,t,none⟩ (.slice (some ⟨gt,0,none⟩) n n))):=by
     refine⟨⟨_,by rw[List.length_set];exact hx1,hset,fun k hk hkt=>?_⟩,HSB.out⟩
     have hk':k<X.length:=by rw[List.length_set] at hk;exact hk
     by_cases hkt2:k=t
     ·subst hkt2
      refine⟨⟨gt,by simp,hGgt,HR3.out⟩,fun k' hk2 hlt=>?_⟩
      rw[List.length_set] at hk2
      rw[List.getElem_set_ne (by omega),List.getElem_set_self]
      exact(hx3 k' hk2 hlt).2.2
     ·obtain⟨⟨g,g1,g2,g3⟩,g4,_⟩:=hx3 k hk' (by omega)
      refine⟨⟨g,by rw[List.getElem_set_ne (by omega)];exact g1,g2,g3.off G t _ (by omega)⟩,fun k' hk2 hlt=>?_⟩
      rw[List.length_set] at hk2
      rw[List.getElem_set_ne (by omega),List.getElem_set_ne (by omega)]
      exact g4 k' hk2 hlt
    have HX4:Hid (HBox (w3.setCell ⟨G,t,none⟩ (.slice (some ⟨gt,0,none⟩) n n)) w.heap.size (.slice a n ca) (.slice b n cb) (.slice c n cc)):=(Below.heap_setCell w3 ⟨G,t,none⟩ _ w.heap.size (by simp;omega)).trans HX.out
    have HTC:Hid ((w3.setCell ⟨G,t,none⟩ (.slice (some ⟨gt,0,none⟩) n n)).cell? ⟨G,t,none⟩=some (.slice (some ⟨gt,0,none⟩) n n)):=by
     have h9:=hset.cell t (by rw[List.length_set];omega)
     show _=_
     rw[h9]
     simp
    generalize X[t]'(by omega)=xt at *
    clear hx3 hset HK HX hr3 hb3 q0 e0 e1 e2 hx1 hx2 HSB HSH HRR
    go_upto_region 6 with fail
    clear k0 f0
    generalize (w3.setCell ⟨G,t,none⟩ (.slice (some ⟨gt,0,none⟩) n n))=W4 at *
    have HB4:Hid (Below W4.heap.size W4 W4.drew):=(Below.refl _ W4).drew
    have HELD:Hid (∀u,Below W4.heap.size W4 u→u.cell? ⟨w.heap.size,1,none⟩=some (.slice b n cb)∧u.cell? ⟨G,t,none⟩=some (.slice (some ⟨gt,0,none⟩) n n)):=fun u hu=>⟨(HX4.out.below hu HX4.out.lt).cells.2.1,(hu.cell (p:=⟨G,t,none⟩) HK4.out.lt).trans HTC.out⟩
    refine wp_region_held_drew (S:=fun u=>u.cell? ⟨w.heap.size,1,none⟩=some (.slice b n cb)∧u.cell? ⟨G,t,none⟩=some (.slice (some ⟨gt,0,none⟩) n n)) (by kernel_rfl) (HELD.out _ HB4.out) (fun hSd=>?_)
    generalize W4.drew=u4 at *
    refine wpAnyH_take (i:=0) (oi:=_) (v:=.slice (some ⟨G,0,none⟩) L L) rfl (by kernel_rfl) (by kernel_rfl) (by kernel_rfl) (fun _ _ _ h=>h) (Or.inl ⟨by rfl,?_⟩) (by assumption) ?_
    ·intro u' hSu
     (try simp only[List.getElem_toArray,List.getElem_cons_zero])
     go_simp
    (try simp only[List.getElem_toArray,List.getElem_cons_zero])
    (try simp only[Act.put,List.setIfInBounds_toArray,List.set_cons_zero,List.set_cons_succ])
    refine wpAnyH_take (i:=1) (oi:=_) (v:=.int .i64 (t:Nat)) rfl (by kernel_rfl) (by kernel_rfl) (by kernel_rfl) (fun _ _ _ h=>h) (Or.inl ⟨by rfl,?_⟩) (by assumption) ?_
    ·intro u' hSu
     (try simp only[List.getElem_toArray,List.getElem_cons_zero,List.getElem_cons_succ])
     go_simp
    (try simp only[List.getElem_toArray,List.getElem_cons_zero,List.getElem_cons_succ])
    (try simp only[Act.put,List.setIfInBounds_toArray,List.set_cons_zero,List.set_cons_succ])
    refine wpAnyH_take (i:=2) (oi:=_) (v:=.pointer (some ⟨G,t,none⟩)) rfl (by kernel_rfl) (by kernel_rfl) (by kernel_rfl) (fun _ _ _ h=>h) (Or.inl ⟨by rfl,?_⟩) (by assumption) ?_
    ·intro u' hSu
     (try simp only[List.getElem_toArray,List.getElem_cons_zero,List.getElem_cons_succ])
     go_simp
    (try simp only[List.getElem_toArray,List.getElem_cons_zero,List.getElem_cons_succ])
    (try simp only[Act.put,List.setIfInBounds_toArray,List.set_cons_zero,List.set_cons_succ])
    refine wpAnyH_take (i:=3) (oi:=_) (v:=.slice (some ⟨gt,0,none⟩) n n) rfl (by kernel_rfl) (by kernel_rfl) (by kernel_rfl) (fun _ _ _ h=>h) (Or.inl ⟨by rfl,?_⟩) (by assumption) ?_
    ·intro u' hSu
     (try simp only[List.getElem_toArray,List.getElem_cons_zero,List.getElem_cons_succ])
     obtain⟨s0,s1⟩:=hSu
     go_simp
    (try simp only[List.getElem_toArray,List.getElem_cons_zero,List.getElem_cons_succ])
    (try simp only[Act.put,List.setIfInBounds_toArray,List.set_cons_zero,List.set_cons_succ])
    refine wpAnyH_take (i:=4) (oi:=_) (v:=.pointer (some ⟨w.heap.size,1,none⟩)) rfl (by kernel_rfl) (by kernel_rfl) (by kernel_rfl) (fun _ _ _ h=>h) (Or.inl ⟨by rfl,?_⟩) (by assumption) ?_
    ·intro u' hSu
     (try simp only[List.getElem_toArray,List.getElem_cons_zero,List.getElem_cons_succ])
     go_simp
    (try simp only[List.getElem_toArray,List.getElem_cons_zero,List.getElem_cons_succ])
    (try simp only[Act.put,List.setIfInBounds_toArray,List.set_cons_zero,List.set_cons_succ])
    refine wpAnyH_take (i:=5) (oi:=_) (v:=.slice b n cb) rfl (by kernel_rfl) (by kernel_rfl) (by kernel_rfl) (fun _ _ _ h=>h) (Or.inl ⟨by rfl,?_⟩) (by assumption) ?_
    ·intro u' hSu
     (try simp only[List.getElem_toArray,List.getElem_cons_zero,List.getElem_cons_succ])
     obtain⟨s0,s1⟩:=hSu
     go_simp
    (try simp only[List.getElem_toArray,List.getElem_cons_zero,List.getElem_cons_succ])
    (try simp only[Act.put,List.setIfInBounds_toArray,List.set_cons_zero,List.set_cons_succ])
    refine wpAnyH_ready (rs:=[6]) (by kernel_rfl) (by simp) (AllReadyH.cons rfl ?_ (AllReadyH.nil))
    ·intro K' hK'
     (try simp only[List.getElem_toArray,List.getElem_cons_zero,List.getElem_cons_succ])
     go_simp
     refine(HST.out _ (HK4.out.bel.trans (HB4.out.mono HK4.out.bel.size)) gt ((HR3.out.below HB4.out HR3.out.lt).fr)).mono ?_
     rintro e u5 ⟨g2,rfl,hg2,hr2,hb⟩
     replace HB4:=hid (HB4.out.trans (hb.mono HB4.out.size))
     refine hK'.out _ _ (HELD.out _ HB4.out) (fun hSe=>?_)
     clear hK' K' hSd hb
     (try simp only[List.getElem_toArray,List.getElem_cons_zero,List.getElem_cons_succ])
     (try simp only[Act.put,List.setIfInBounds_toArray,List.set_cons_zero,List.set_cons_succ])
     refine wpAnyH_take (i:=7) (oi:=_) (v:=.tuple #[.slice (some ⟨g2,0,none⟩) n n,.int .i64 0]) rfl (by kernel_rfl) (by kernel_rfl) (by kernel_rfl) (fun _ _ _ h=>h) (Or.inl ⟨by rfl,?_⟩) (by assumption) ?_
     ·intro u' hSu
      (try simp only[List.getElem_toArray,List.getElem_cons_zero,List.getElem_cons_succ])
      go_simp
     (try simp only[List.getElem_toArray,List.getElem_cons_zero,List.getElem_cons_succ])
     (try simp only[Act.put,List.setIfInBounds_toArray,List.set_cons_zero,List.set_cons_succ])
     refine wpAnyH_take (i:=8) (oi:=_) (v:=.slice (some ⟨g2,0,none⟩) n n) rfl (by kernel_rfl) (by kernel_rfl) (by kernel_rfl) (fun _ _ _ h=>h) (Or.inl ⟨by rfl,?_⟩) (by assumption) ?_
     ·intro u' hSu
      (try simp only[List.getElem_toArray,List.getElem_cons_zero,List.getElem_cons_succ])
      go_simp
     (try simp only[List.getElem_toArray,List.getElem_cons_zero,List.getElem_cons_succ])
     (try simp only[Act.put,List.setIfInBounds_toArray,List.set_cons_zero,List.set_cons_succ])
     refine wpAnyH_take (i:=9) (oi:=_) (v:=.int .i64 0) rfl (by kernel_rfl) (by kernel_rfl) (by kernel_rfl) (fun _ _ _ h=>h) (Or.inl ⟨by rfl,?_⟩) (by assumption) ?_
     ·intro u' hSu
      (try simp only[List.getElem_toArray,List.getElem_cons_zero,List.getElem_cons_succ])
      go_simp
     (try simp only[List.getElem_toArray,List.getElem_cons_zero,List.getElem_cons_succ])
     (try simp only[Act.put,List.setIfInBounds_toArray,List.set_cons_zero,List.set_cons_succ])
     refine wpAnyH_take (i:=10) (oi:=_) (v:=.slice (some ⟨g2,0,none⟩) n n) rfl (by kernel_rfl) (by kernel_rfl) (by kernel_rfl) (fun _ _ _ h=>h) (Or.inl ⟨by rfl,?_⟩) (by assumption) ?_
     ·intro u' hSu
      (try simp only[List.getElem_toArray,List.getElem_cons_zero,List.getElem_cons_succ])
      go_simp
     (try simp only[List.getElem_toArray,List.getElem_cons_zero,List.getElem_cons_succ])
     (try simp only[Act.put,List.setIfInBounds_toArray,List.set_cons_zero,List.set_cons_succ])
     refine wpAnyH_done (by kernel_rfl) ?_ _
     clear hSe
     have HN2:Hid (FrS u5 (some ⟨g2,0,none⟩) (lF n fun j=>sumR (fun i=>h.alp t i*h.mv i j) n)):=hr2.fr
     have HK5:=hid (HK4.out.step HB4.out)
     have HX5:=hid (HX4.out.below HB4.out HX4.out.lt)
     clear hr2
     go_wp2
     go_roundw
     case rel=>exact⟨t+1,by omega,by go_num,⟨some ⟨g2,0,none⟩,n,_,rfl,HN2.out,HIE.out⟩,HK5,HX5⟩
     case measure=>simp[intOf];omega
   ·obtain rfl:t=L:=by omega
    go_wp2
    go_ret
    exact⟨G,rfl,by omega,HK.out⟩
theorem hiForward_any {D:Nat} (a b c d:Option Addr) (ca cb cc cd n L m:Nat) (l:List Fr) (R1 R2:List (List Fr)) (Q:List Nat) (h:HC) (w:World) (hI:HidI w a b c n m l R1 R2) (hV:HidV D h m l R1 R2 Q) (hsn:h.s=n) (hL:h.L=L) (hQ:IntS w d (iL Q)):
  Calls Tryz.prog 31 #[.agg #[.slice a n ca,.slice b n cb,.slice c n cc],.slice d L cd] w fun e w'=>∃G,e=.returned (.slice (some ⟨G,0,none⟩) L L)∧w.heap.size≤G∧FsS w' (some ⟨G,0,none⟩) ((List.range L).map fun t=>lF n (h.alp t))∧Below w.heap.size w w':=by
 refine(hiForward_own a b c d ca cb cc cd n L m l R1 R2 Q h w hI hV hsn hL hQ).mono ?_
 rintro e w' ⟨G,rfl,hG,hK⟩
 exact⟨G,rfl,hG,hK.rows,hK.bel⟩
end Go.Proofs.YtgamblainfkiaaaGreatDoor
