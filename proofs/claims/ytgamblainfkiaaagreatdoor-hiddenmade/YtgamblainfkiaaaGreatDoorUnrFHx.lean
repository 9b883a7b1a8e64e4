/- The program's Unroll. -/
import Derived.Test.YtgamblainfkiaaaGreatDoorUnrDHx
import Derived.Test.YtgamblainfkiaaaGreatDoorUnrEHx
import Derived.Test.YtgamblainfkiaaaGreatDoorRegTHxHexB
namespace Go.Proofs.YtgamblainfkiaaaGreatDoor
open Go.RowKit Go.Shelf Go.Lib
set_option maxRecDepth 100000 in
set_option maxHeartbeats 2000000 in
theorem hiUnroll_ok (a b c:Option Addr) (ca cb cc n T:Nat) (l:List Fr) (R1 R2:List (List Fr)) (w:World) (h:HidM w a b c l R1 R2) (hs:HidS l R1 R2) (he:HidE l R1 R2 0) (hb0:b=none→cb=0) (hc0:c=none→cc=0) (hn:l.length=n) (h1:1≤T) (h4:T≤4) (hca:n≤ca):
  Calls Tryz.prog 20 #[.agg #[.slice a n ca,.slice b n cb,.slice c n cc],.int .i64 (T:Nat)] w fun e w'=>UnrR l R1 R2 T w e w':=by
 obtain⟨hshp,hrws⟩:ShpB l R1 R2∧RwsB l R1 R2:=by
  rcases he with ⟨_,h1,h2⟩ |⟨h9,_⟩ |⟨h9,_⟩
  ·exact⟨h1,h2⟩
  ·exact absurd h9 (by decide)
  ·exact absurd h9 (by decide)
 obtain⟨p1,p2,p3,p4,p5,p6,p7,p8⟩:=hshp
 rw[hn] at p1 p2 p3 p4 p7
 obtain⟨m,hm⟩:∃m,(R2.headD []).length=m:=⟨_,rfl⟩
 rw[hm] at p5 p6 p8
 have HCK:Hid (∀U:World,Below w.heap.size w U→Calls Tryz.prog 8 #[.agg #[.slice a n ca,.slice b n cb,.slice c n cc]] U fun e w'=>e=.returned (.int .i64 0)∧Below U.heap.size U w'):=fun U hU=>by
  have h9:=hiCheck_gen a b c ca cb cc l R1 R2 U (h.below hU) hs hb0 hc0
  rw[hn,p3,p4] at h9
  refine h9.mono ?_
  rintro e w' ⟨⟨x,rfl,hx⟩,hb⟩
  rw[hx.uniq he]
  exact⟨rfl,hb⟩
 have HLM:Hid (∀(W:World) (G:Nat) (x y z:Value) (Vs:List PV) (Ls:List PL) (Rs:List PR) (nm:ByteArray) (pd:Option Addr) (pn pc:Nat) (ps:List Int),US w W G (.slice a n ca) (.slice b n cb) (.slice c n cc) x y z Vs Ls Rs→RwI W w.heap.size (.slice pd pn pc) ps→Vs.length≤100→Ls.length≤100→Rs.length≤100→Calls Tryz.prog 57 #[.pointer (some ⟨G,0,none⟩),.string nm,.slice pd pn pc,.slice b n cb] W fun e w'=>LayR w G (.slice a n ca) (.slice b n cb) (.slice c n cc) nm n (.slice pd pn pc) ps (cnR R1) Vs Ls Rs e w'):=fun W G x y z Vs Ls Rs nm pd pn pc ps hU hp hV hL hR=>lay_any w G _ _ _ x y z Vs Ls Rs nm pd pn pc ps b cb n n R1 W hU hp (h.mv.below hU.bel) ⟨by omega,fun r hr=>by rw[p7 r hr];omega,hs.f2⟩ (fun r hr=>by rw[p7 r hr];omega) p3 p1 (by rw[head_at (by omega)];exact p7 _ (List.getElem_mem _)) hV hL hR
 have HLS:Hid (∀(W:World) (G:Nat) (x y z:Value) (Vs:List PV) (Ls:List PL) (Rs:List PR) (nm:ByteArray) (pd:Option Addr) (pn pc:Nat) (ps:List Int),US w W G (.slice a n ca) (.slice b n cb) (.slice c n cc) x y z Vs Ls Rs→RwI W w.heap.size (.slice pd pn pc) ps→Vs.length≤100→Ls.length≤100→Rs.length≤100→Calls Tryz.prog 57 #[.pointer (some ⟨G,0,none⟩),.string nm,.slice pd pn pc,.slice c n cc] W fun e w'=>LayR w G (.slice a n ca) (.slice b n cb) (.slice c n cc) nm m (.slice pd pn pc) ps (cnR R2) Vs Ls Rs e w'):=fun W G x y z Vs Ls Rs nm pd pn pc ps hU hp hV hL hR=>lay_any w G _ _ _ x y z Vs Ls Rs nm pd pn pc ps c cc n m R2 W hU hp (h.sh.below hU.bel) ⟨by omega,fun r hr=>by rw[p8 r hr];omega,hs.f3⟩ (fun r hr=>by rw[p8 r hr];omega) p4 p1 hm hV hL hR
 have HL0:Hid (∀(W:World) (G g k:Nat) (x y z:Value) (Vs:List PV) (Ls:List PL) (Rs:List PR) (nm:ByteArray),US w W G (.slice a n ca) (.slice b n cb) (.slice c n cc) x y z Vs Ls Rs→g<W.heap.size→W.cell? ⟨g,0,none⟩=some (.slice a n ca)→Vs.length≤100→Ls.length≤100→Rs.length≤100→Calls Tryz.prog 57 #[.pointer (some ⟨G,0,none⟩),.string nm,.slice none 0 0,.slice (some ⟨g,0,none⟩) 1 k] W fun e w'=>LayR w G (.slice a n ca) (.slice b n cb) (.slice c n cc) nm n (.slice none 0 0) [] (cnR [l]) Vs Ls Rs e w'):=fun W G g k x y z Vs Ls Rs nm hU hg hc hV hL hR=>by
  refine lay_any w G _ _ _ x y z Vs Ls Rs nm none 0 0 [] (some ⟨g,0,none⟩) k 1 n [l] W hU ⟨rfl,.inl ⟨rfl,rfl⟩⟩ (fun i hi=>?_) ⟨by simp,fun r hr=>by rw[List.mem_singleton.1 hr];omega,fun r hr=>by rw[List.mem_singleton.1 hr];exact hs.f1⟩ (fun r hr=>by rw[List.mem_singleton.1 hr];omega) rfl (Nat.le_refl _) hn hV hL hR
  obtain rfl:i=0:=by simpa using hi
  exact⟨g,0,a,ca,rfl,hg,by simpa [hn] using hc,by simpa using h.st.below hU.bel,by simpa [hn] using hca⟩
 have HNU:=hid (fun (c:UInt8) (i:Nat) (hi:i<10) (U:World)=>numbered_any c i hi U)
 have HZ0:Hid ((⟨#[115,48]⟩:ByteArray)=nmB 115 0):=by show _=_;kernel_rfl
 have HN:=hid hn
 have HM:=hid hm
 have hA0:=(Below.refl w.heap.size w).alloc (Nat.le_refl _) (HC3 (.slice a n ca) (.slice b n cb) (.slice c n cc))
 have hHB0:=HBox.new w (.slice a n ca) (.slice b n cb) (.slice c n cc)
 have hst:=(Below.refl (w.alloc (HC3 (.slice a n ca) (.slice b n cb) (.slice c n cc))).heap.size (w.alloc (HC3 (.slice a n ca) (.slice b n cb) (.slice c n cc)))).alloc (Nat.le_refl _) (NC (.slice none 0 0) (.slice none 0 0) (.slice none 0 0))
 have hHB:=hHB0.below hst hHB0.lt
 have hNB:NBox ((w.alloc (HC3 (.slice a n ca) (.slice b n cb) (.slice c n cc))).alloc (NC (.slice none 0 0) (.slice none 0 0) (.slice none 0 0))) (w.heap.size+1) (.slice none 0 0) (.slice none 0 0) (.slice none 0 0):=NBox.at (by simp) _ _ _
 have hA:=hA0.alloc hA0.size (NC (.slice none 0 0) (.slice none 0 0) (.slice none 0 0))
 obtain⟨e0,e1,e2⟩:=hHB.cells
 clear h hs he hn hm hrws p3 p4 p7 p8 hca hA0 hHB0 hst hb0 hc0
 go_enter Tryz.func20,Tryz.ntmps20
 go_wp2_with fail
 generalize ((w.alloc (HC3 (.slice a n ca) (.slice b n cb) (.slice c n cc))).alloc (NC (.slice none 0 0) (.slice none 0 0) (.slice none 0 0)))=W at *
 refine(HCK.out _ hA).mono ?_
 rintro e w1 ⟨rfl,hb⟩
 have hA1:=hA.trans (hb.mono hA.size)
 have hHB1:=hHB.below hb hHB.lt
 have hNB1:=hNB.below hb hNB.lt
 have hsz1:w.heap.size+2≤w1.heap.size:=hNB1.lt
 have HUS:Hid (US w (w1.alloc (NC (.slice none 0 0) (.slice none 0 0) (.slice none 0 0))) w1.heap.size (.slice a n ca) (.slice b n cb) (.slice c n cc) (.slice none 0 0) (.slice none 0 0) (.slice none 0 0) [] [] []):=⟨hHB1.below ((Below.refl _ w1).alloc (Nat.le_refl _) _) hHB1.lt,hNB1.below ((Below.refl _ w1).alloc (Nat.le_refl _) _) hNB1.lt,NBox.at rfl _ _ _,OwV.nil _ _,OwL.nil _ _,OwR.nil _ _,hA1.alloc hA1.size _,hsz1⟩
 clear hA hHB hb e0 e1 e2 HCK hA1 hHB1 hNB hNB1 hsz1
 have hT1:¬((T:Int)<1):=by omega
 have hT4:¬((4:Int)<(T:Int)):=by omega
 go_upto_region 7 with fail
 generalize (w1.alloc (NC (.slice none 0 0) (.slice none 0 0) (.slice none 0 0)))=W1 at *
 generalize w1.heap.size=G at *
 clear hT1 hT4
 go_wp2_with fail
 go_loopw [25] (fun iv wr=>∃(t:Nat) (x y z:Value) (Vs:List PV) (Ls:List PL) (Rs:List PR),t≤T∧iv=.int .i64 t∧Hid (US w wr G (.slice a n ca) (.slice b n cb) (.slice c n cc) x y z Vs Ls Rs)∧Hid (vOf Vs=uV n m t∧lOf Ls=uL t∧rOf Rs=uR l R1 R2 t)) (fun iv _=>T - (intOf iv).toNat)
 case atStart=>exact⟨0,_,_,_,[],[],[],Nat.zero_le _,rfl,HUS,⟨rfl,rfl,rfl⟩⟩
 case round=>
  clear HUS
  obtain⟨t,x,y,z,Vs,Ls,Rs,ht,rfl,HUS,HSP⟩:=hrel
  by_cases hlt:t<T
  ·have hLV:Vs.length≤8:=by
    have h9:=congrArg List.length HSP.out.1
    rw[uV_length,vOf,List.length_map] at h9
    omega
   have hLL:Ls.length≤8:=by
    have h9:=congrArg List.length HSP.out.2.1
    rw[uL_length,lOf,List.length_map] at h9
    omega
   have hLR:Rs.length≤8:=by
    have h9:=congrArg List.length HSP.out.2.2
    rw[uR_length,rOf,List.length_map] at h9
    omega
   have k1:IntKind.i64.wrap (2*(t:Int))=2*(t:Int):=by rw[IntKind.wrap_i64];omega
   have k2:IntKind.i64.wrap (2*(t:Int)+1)=2*(t:Int)+1:=by rw[IntKind.wrap_i64];omega
   have k3:IntKind.i64.wrap (2*(t:Int) - 2)=2*(t:Int) - 2:=by rw[IntKind.wrap_i64];omega
   have k4:IntKind.i64.wrap (2*(t:Int)+1 - 1)=2*(t:Int):=by rw[IntKind.wrap_i64];omega
   by_cases ht0:t=0
   ·have hb0:((t:Int)==0)=true:=by simp;omega
    have HT0:=hid ht0
    clear ht0
    obtain⟨e0,e1,e2⟩:=HUS.out.hb.cells
    go_wp2_with fail
    have hbA:=(Below.refl wr.heap.size wr).alloc (Nat.le_refl _) (.cells #[.slice a n ca] 22)
    have HXA:=hid (heap_alloc_new wr (.cells #[.slice a n ca] 22))
    have HU:=hid (HUS.out.step hbA)
    clear HUS hbA e0 e1 e2
    simp only[HZ0.out]
    refine(HL0.out _ G wr.heap.size _ _ _ _ _ _ _ (nmB 115 0) HU.out (Array.getElem?_eq_some_iff.1 HXA.out).1 (by rw[cell_of_row _ wr.heap.size _ _ _ (0,0) HXA.out];rfl) (by omega) (by omega) (by omega)).mono ?_
    rintro e w3 ⟨rfl,x',y',z',p1,p3,hp1,hp3,hu⟩
    have HUN:=hid hu
    have HP1:=hid hp1
    have HP3:=hid hp3
    clear hu hp1 hp3 HU HXA hb0
    obtain⟨pA,hpA⟩:∃p,p1=p:=⟨_,rfl⟩
    obtain⟨pC,hpC⟩:∃p,p3=p:=⟨_,rfl⟩
    rw[hpA] at HUN HP1
    rw[hpC] at HUN HP3
    clear hpA hpC p1 p3
    have hLV2:(Vs++[pA]).length≤9:=by rw[List.length_append];simp;omega
    have hLL2:(Ls++[((.slice none 0 0,[]):PL)]).length≤9:=by rw[List.length_append];simp;omega
    have hLR2:(Rs++[pC]).length≤9:=by rw[List.length_append];simp;omega
    obtain⟨V2,hV2⟩:∃v,Vs++[pA]=v:=⟨_,rfl⟩
    obtain⟨L2,hL2⟩:∃v,Ls++[((.slice none 0 0,[]):PL)]=v:=⟨_,rfl⟩
    obtain⟨Q2,hR2⟩:∃v,Rs++[pC]=v:=⟨_,rfl⟩
    rw[hV2,hL2,hR2] at HUN
    rw[hV2] at hLV2
    rw[hL2] at hLL2
    rw[hR2] at hLR2
    have HV2:=hid hV2
    have HL2:=hid hL2
    have HR2:=hid hR2
    clear hV2 hL2 hR2
    go_upto_region 14 with fail
    have HU:=HUN
    have HPA:=HP1
    have HPC:=HP3
    clear HUN HP1 HP3
    replace HU:=hid (HU.out.step (Below.refl _ _).drew)
    refine wp_region_held_drew (S:=fun u=>(u.cell? ⟨w.heap.size,0,none⟩=some (.slice a n ca)∧u.cell? ⟨w.heap.size,1,none⟩=some (.slice b n cb)∧u.cell? ⟨w.heap.size,2,none⟩=some (.slice c n cc))) (by kernel_rfl) HU.out.hb.cells (fun hSd=>?_)
    generalize w3.drew=u0 at *
    refine wpAnyH_take (i:=0) (oi:=_) (v:=.int .i64 (t:Nat)) rfl (by kernel_rfl) (by kernel_rfl) (by kernel_rfl) (fun _ _ _ h=>h) (Or.inl ⟨by rfl,?_⟩) (by assumption) ?_
    ·intro u' hSu
     (try simp only[List.getElem_toArray,List.getElem_cons_zero])
     go_simp
    (try simp only[List.getElem_toArray,List.getElem_cons_zero])
    (try simp only[Act.put,List.setIfInBounds_toArray,List.set_cons_zero,List.set_cons_succ])
    refine wpAnyH_take (i:=2) (oi:=_) (v:=.int .i64 (2*(t:Int)+1)) rfl (by kernel_rfl) (by kernel_rfl) (by kernel_rfl) (fun _ _ _ h=>h) (Or.inl ⟨by rfl,?_⟩) (by assumption) ?_
    ·intro u' hSu
     (try simp only[List.getElem_toArray,List.getElem_cons_zero,List.getElem_cons_succ])
     go_simp
    (try simp only[List.getElem_toArray,List.getElem_cons_zero,List.getElem_cons_succ])
    (try simp only[Act.put,List.setIfInBounds_toArray,List.set_cons_zero,List.set_cons_succ])
    refine wpAnyH_take (i:=3) (oi:=_) (v:=.int .i64 (2*(t:Int))) rfl (by kernel_rfl) (by kernel_rfl) (by kernel_rfl) (fun _ _ _ h=>h) (Or.inl ⟨by rfl,?_⟩) (by assumption) ?_
    ·intro u' hSu
     (try simp only[List.getElem_toArray,List.getElem_cons_zero,List.getElem_cons_succ])
     go_simp
    (try simp only[List.getElem_toArray,List.getElem_cons_zero,List.getElem_cons_succ])
    (try simp only[Act.put,List.setIfInBounds_toArray,List.set_cons_zero,List.set_cons_succ])
    refine wpAnyH_take (i:=5) (oi:=_) (v:=.pointer (some ⟨w.heap.size,2,none⟩)) rfl (by kernel_rfl) (by kernel_rfl) (by kernel_rfl) (fun _ _ _ h=>h) (Or.inl ⟨by rfl,?_⟩) (by assumption) ?_
    ·intro u' hSu
     (try simp only[List.getElem_toArray,List.getElem_cons_zero,List.getElem_cons_succ])
     go_simp
    (try simp only[List.getElem_toArray,List.getElem_cons_zero,List.getElem_cons_succ])
    (try simp only[Act.put,List.setIfInBounds_toArray,List.set_cons_zero,List.set_cons_succ])
    refine wpAnyH_take (i:=6) (oi:=_) (v:=.slice c n cc) rfl (by kernel_rfl) (by kernel_rfl) (by kernel_rfl) (fun _ _ _ h=>h) (Or.inl ⟨by rfl,?_⟩) (by assumption) ?_
    ·intro u' hSu
     (try simp only[List.getElem_toArray,List.getElem_cons_zero,List.getElem_cons_succ])
     obtain⟨s0,s1,s2⟩:=hSu
     go_simp
    (try simp only[List.getElem_toArray,List.getElem_cons_zero,List.getElem_cons_succ])
    (try simp only[Act.put,List.setIfInBounds_toArray,List.set_cons_zero,List.set_cons_succ])
    refine wpAnyH_ready (rs:=[1,4]) (by kernel_rfl) (by simp) (AllReadyH.cons rfl ?_ (AllReadyH.cons rfl ?_ (AllReadyH.nil)))
    ·intro K' hK'
     (try simp only[List.getElem_toArray,List.getElem_cons_zero,List.getElem_cons_succ])
     go_simp
     refine(HNU.out 111 t (by omega) _).mono ?_
     rintro e u1 ⟨rfl,rfl⟩
     refine hK'.out _ _ HU.out.hb.cells (fun hSe=>?_)
     clear hK' K' hSd
     have hSd:=hSe
     clear hSe
     (try simp only[List.getElem_toArray,List.getElem_cons_zero,List.getElem_cons_succ])
     (try simp only[Act.put,List.setIfInBounds_toArray,List.set_cons_zero,List.set_cons_succ])
     refine wpAnyH_ready (rs:=[4]) (by kernel_rfl) (by simp) (AllReadyH.cons rfl ?_ (AllReadyH.nil))
     ·intro K' hK'
      (try simp only[List.getElem_toArray,List.getElem_cons_zero,List.getElem_cons_succ])
      go_simp
      have hbA:=(Below.refl u1.heap.size u1).alloc (Nat.le_refl _) (.cells #[.int .i64 (2*(t:Int))] 3)
      have HI:=hid (owns_lower (RwI.one u1 (2*(t:Int))) HU.out.bel.size:RwI _ w.heap.size (.slice (some ⟨u1.heap.size,0,none⟩) 1 1) [2*(t:Int)])
      replace HU:=hid (HU.out.step hbA)
      refine hK'.out _ _ HU.out.hb.cells (fun hSe=>?_)
      clear hK' K' hSd
      have hSd:=hSe
      clear hSe
      obtain⟨gy,hgy⟩:∃x,u1.heap.size=x:=⟨_,rfl⟩
      obtain⟨vy,hvy⟩:∃x,u1.alloc (.cells #[.int .i64 (2*(t:Int))] 3)=x:=⟨_,rfl⟩
      rw[hgy,hvy] at HI
      rw[hvy] at HU hSd
      simp only[hvy]
      simp only[hgy]
      clear hgy hvy hbA
      (try simp only[List.getElem_toArray,List.getElem_cons_zero,List.getElem_cons_succ])
      (try simp only[Act.put,List.setIfInBounds_toArray,List.set_cons_zero,List.set_cons_succ])
      refine wpAnyH_ready (rs:=[7]) (by kernel_rfl) (by simp) (AllReadyH.cons rfl ?_ (AllReadyH.nil))
      ·intro K' hK'
       (try simp only[List.getElem_toArray,List.getElem_cons_zero,List.getElem_cons_succ])
       go_simp
       refine(HLS.out vy G _ _ _ _ _ _ (nmB 111 t) _ _ _ _ HU.out HI.out (by omega) (by omega) (by omega)).mono ?_
       rintro e w5 ⟨rfl,x',y',z',p1,p3,hp1,hp3,hu⟩
       have HUN:=hid hu
       have HP1:=hid hp1
       have HP3:=hid hp3
       clear hu hp1 hp3
       refine hK'.out _ _ HUN.out.hb.cells (fun _=>wpAnyH_done (by kernel_rfl) ?_ _)
       clear hK' K' hSd HU HI
       have HFIN:Hid (vOf (V2++[p1])=uV n m (t+1)∧lOf (L2++[(.slice (some ⟨gy,0,none⟩) 1 1,[2*(t:Int)])])=uL (t+1)∧rOf (Q2++[p3])=uR l R1 R2 (t+1)):=by
        refine⟨?_,?_,?_⟩
        ·rw[←HV2.out,vOf_app,vOf_app,HSP.out.1,uV,List.append_assoc]
         show _++[(pA.1,pA.2.2),(p1.1,p1.2.2)]=_
         rw[HPA.out,HP1.out];rw[HT0.out]
        ·rw[←HL2.out,lOf_app,lOf_app,HSP.out.2.1,uL,List.append_assoc,if_pos HT0.out]
         rfl
        ·rw[←HR2.out,rOf_app,rOf_app,HSP.out.2.2,uR,List.append_assoc,if_pos HT0.out]
         show _++[pC.2,p3.2]=_
         rw[HPC.out,HP3.out]
       clear HPA HPC HP1 HP3 HSP k1 k2 k3 k4
       go_wp2
       go_roundw
       case rel=>exact⟨t+1,_,_,_,_,_,_,by omega,by go_num,HUN,HFIN⟩
       case measure=>simp[intOf];omega
    ·intro K' hK'
     (try simp only[List.getElem_toArray,List.getElem_cons_zero,List.getElem_cons_succ])
     go_simp
     have hbA:=(Below.refl u0.heap.size u0).alloc (Nat.le_refl _) (.cells #[.int .i64 (2*(t:Int))] 3)
     have HI:=hid (owns_lower (RwI.one u0 (2*(t:Int))) HU.out.bel.size:RwI _ w.heap.size (.slice (some ⟨u0.heap.size,0,none⟩) 1 1) [2*(t:Int)])
     replace HU:=hid (HU.out.step hbA)
     refine hK'.out _ _ HU.out.hb.cells (fun hSe=>?_)
     clear hK' K' hSd
     have hSd:=hSe
     clear hSe
     obtain⟨gy,hgy⟩:∃x,u0.heap.size=x:=⟨_,rfl⟩
     obtain⟨vy,hvy⟩:∃x,u0.alloc (.cells #[.int .i64 (2*(t:Int))] 3)=x:=⟨_,rfl⟩
     rw[hgy,hvy] at HI
     rw[hvy] at HU hSd
     simp only[hvy]
     simp only[hgy]
     clear hgy hvy hbA
     (try simp only[List.getElem_toArray,List.getElem_cons_zero,List.getElem_cons_succ])
     (try simp only[Act.put,List.setIfInBounds_toArray,List.set_cons_zero,List.set_cons_succ])
     refine wpAnyH_ready (rs:=[1]) (by kernel_rfl) (by simp) (AllReadyH.cons rfl ?_ (AllReadyH.nil))
     ·intro K' hK'
      (try simp only[List.getElem_toArray,List.getElem_cons_zero,List.getElem_cons_succ])
      go_simp
      refine(HNU.out 111 t (by omega) _).mono ?_
      rintro e u9 ⟨rfl,rfl⟩
      refine hK'.out _ _ HU.out.hb.cells (fun hSe=>?_)
      clear hK' K' hSd
      have hSd:=hSe
      clear hSe
      (try simp only[List.getElem_toArray,List.getElem_cons_zero,List.getElem_cons_succ])
      (try simp only[Act.put,List.setIfInBounds_toArray,List.set_cons_zero,List.set_cons_succ])
      refine wpAnyH_ready (rs:=[7]) (by kernel_rfl) (by simp) (AllReadyH.cons rfl ?_ (AllReadyH.nil))
      ·intro K' hK'
       (try simp only[List.getElem_toArray,List.getElem_cons_zero,List.getElem_cons_succ])
       go_simp
       refine(HLS.out u9 G _ _ _ _ _ _ (nmB 111 t) _ _ _ _ HU.out HI.out (by omega) (by omega) (by omega)).mono ?_
       rintro e w5 ⟨rfl,x',y',z',p1,p3,hp1,hp3,hu⟩
       have HUN:=hid hu
       have HP1:=hid hp1
       have HP3:=hid hp3
       clear hu hp1 hp3
       refine hK'.out _ _ HUN.out.hb.cells (fun _=>wpAnyH_done (by kernel_rfl) ?_ _)
       clear hK' K' hSd HU HI
       have HFIN:Hid (vOf (V2++[p1])=uV n m (t+1)∧lOf (L2++[(.slice (some ⟨gy,0,none⟩) 1 1,[2*(t:Int)])])=uL (t+1)∧rOf (Q2++[p3])=uR l R1 R2 (t+1)):=by
        refine⟨?_,?_,?_⟩
        ·rw[←HV2.out,vOf_app,vOf_app,HSP.out.1,uV,List.append_assoc]
         show _++[(pA.1,pA.2.2),(p1.1,p1.2.2)]=_
         rw[HPA.out,HP1.out];rw[HT0.out]
        ·rw[←HL2.out,lOf_app,lOf_app,HSP.out.2.1,uL,List.append_assoc,if_pos HT0.out]
         rfl
        ·rw[←HR2.out,rOf_app,rOf_app,HSP.out.2.2,uR,List.append_assoc,if_pos HT0.out]
         show _++[pC.2,p3.2]=_
         rw[HPC.out,HP3.out]
       clear HPA HPC HP1 HP3 HSP k1 k2 k3 k4
       go_wp2
       go_roundw
       case rel=>exact⟨t+1,_,_,_,_,_,_,by omega,by go_num,HUN,HFIN⟩
       case measure=>simp[intOf];omega
   ·have hb0:((t:Int)==0)=false:=by simp;omega
    have HT0:=hid ht0
    clear ht0
    go_upto_region 13 with fail
    have HU:=HUS
    clear HUS hb0
    replace HU:=hid (HU.out.step (Below.refl _ _).drew)
    refine wp_region_held_drew (S:=fun u=>(u.cell? ⟨w.heap.size,0,none⟩=some (.slice a n ca)∧u.cell? ⟨w.heap.size,1,none⟩=some (.slice b n cb)∧u.cell? ⟨w.heap.size,2,none⟩=some (.slice c n cc))) (by kernel_rfl) HU.out.hb.cells (fun hSd=>?_)
    generalize wr.drew=u0 at *
    refine wpAnyH_take (i:=0) (oi:=_) (v:=.int .i64 (t:Nat)) rfl (by kernel_rfl) (by kernel_rfl) (by kernel_rfl) (fun _ _ _ h=>h) (Or.inl ⟨by rfl,?_⟩) (by assumption) ?_
    ·intro u' hSu
     (try simp only[List.getElem_toArray,List.getElem_cons_zero])
     go_simp
    (try simp only[List.getElem_toArray,List.getElem_cons_zero])
    (try simp only[Act.put,List.setIfInBounds_toArray,List.set_cons_zero,List.set_cons_succ])
    refine wpAnyH_take (i:=2) (oi:=_) (v:=.int .i64 (2*(t:Int))) rfl (by kernel_rfl) (by kernel_rfl) (by kernel_rfl) (fun _ _ _ h=>h) (Or.inl ⟨by rfl,?_⟩) (by assumption) ?_
    ·intro u' hSu
     (try simp only[List.getElem_toArray,List.getElem_cons_zero,List.getElem_cons_succ])
     go_simp
    (try simp only[List.getElem_toArray,List.getElem_cons_zero,List.getElem_cons_succ])
    (try simp only[Act.put,List.setIfInBounds_toArray,List.set_cons_zero,List.set_cons_succ])
    refine wpAnyH_take (i:=3) (oi:=_) (v:=.int .i64 (2*(t:Int) - 2)) rfl (by kernel_rfl) (by kernel_rfl) (by kernel_rfl) (fun _ _ _ h=>h) (Or.inl ⟨by rfl,?_⟩) (by assumption) ?_
    ·intro u' hSu
     (try simp only[List.getElem_toArray,List.getElem_cons_zero,List.getElem_cons_succ])
     go_simp
    (try simp only[List.getElem_toArray,List.getElem_cons_zero,List.getElem_cons_succ])
    (try simp only[Act.put,List.setIfInBounds_toArray,List.set_cons_zero,List.set_cons_succ])
    refine wpAnyH_take (i:=5) (oi:=_) (v:=.pointer (some ⟨w.heap.size,1,none⟩)) rfl (by kernel_rfl) (by kernel_rfl) (by kernel_rfl) (fun _ _ _ h=>h) (Or.inl ⟨by rfl,?_⟩) (by assumption) ?_
    ·intro u' hSu
     (try simp only[List.getElem_toArray,List.getElem_cons_zero,List.getElem_cons_succ])
     go_simp
    (try simp only[List.getElem_toArray,List.getElem_cons_zero,List.getElem_cons_succ])
    (try simp only[Act.put,List.setIfInBounds_toArray,List.set_cons_zero,List.set_cons_succ])
    refine wpAnyH_take (i:=6) (oi:=_) (v:=.slice b n cb) rfl (by kernel_rfl) (by kernel_rfl) (by kernel_rfl) (fun _ _ _ h=>h) (Or.inl ⟨by rfl,?_⟩) (by assumption) ?_
    ·intro u' hSu
     (try simp only[List.getElem_toArray,List.getElem_cons_zero,List.getElem_cons_succ])
     obtain⟨s0,s1,s2⟩:=hSu
     go_simp
    (try simp only[List.getElem_toArray,List.getElem_cons_zero,List.getElem_cons_succ])
    (try simp only[Act.put,List.setIfInBounds_toArray,List.set_cons_zero,List.set_cons_succ])
    refine wpAnyH_ready (rs:=[1,4]) (by kernel_rfl) (by simp) (AllReadyH.cons rfl ?_ (AllReadyH.cons rfl ?_ (AllReadyH.nil)))
    ·intro K' hK'
     (try simp only[List.getElem_toArray,List.getElem_cons_zero,List.getElem_cons_succ])
     go_simp
     refine(HNU.out 115 t (by omega) _).mono ?_
     rintro e u1 ⟨rfl,rfl⟩
     refine hK'.out _ _ HU.out.hb.cells (fun hSe=>?_)
     clear hK' K' hSd
     have hSd:=hSe
     clear hSe
     (try simp only[List.getElem_toArray,List.getElem_cons_zero,List.getElem_cons_succ])
     (try simp only[Act.put,List.setIfInBounds_toArray,List.set_cons_zero,List.set_cons_succ])
     refine wpAnyH_ready (rs:=[4]) (by kernel_rfl) (by simp) (AllReadyH.cons rfl ?_ (AllReadyH.nil))
     ·intro K' hK'
      (try simp only[List.getElem_toArray,List.getElem_cons_zero,List.getElem_cons_succ])
      go_simp
      have hbA:=(Below.refl u1.heap.size u1).alloc (Nat.le_refl _) (.cells #[.int .i64 (2*(t:Int) - 2)] 3)
      have HI:=hid (owns_lower (RwI.one u1 (2*(t:Int) - 2)) HU.out.bel.size:RwI _ w.heap.size (.slice (some ⟨u1.heap.size,0,none⟩) 1 1) [2*(t:Int) - 2])
      replace HU:=hid (HU.out.step hbA)
      refine hK'.out _ _ HU.out.hb.cells (fun hSe=>?_)
      clear hK' K' hSd
      have hSd:=hSe
      clear hSe
      obtain⟨gy,hgy⟩:∃x,u1.heap.size=x:=⟨_,rfl⟩
      obtain⟨vy,hvy⟩:∃x,u1.alloc (.cells #[.int .i64 (2*(t:Int) - 2)] 3)=x:=⟨_,rfl⟩
      rw[hgy,hvy] at HI
      rw[hvy] at HU hSd
      simp only[hvy]
      simp only[hgy]
      clear hgy hvy hbA
      (try simp only[List.getElem_toArray,List.getElem_cons_zero,List.getElem_cons_succ])
      (try simp only[Act.put,List.setIfInBounds_toArray,List.set_cons_zero,List.set_cons_succ])
      refine wpAnyH_ready (rs:=[7]) (by kernel_rfl) (by simp) (AllReadyH.cons rfl ?_ (AllReadyH.nil))
      ·intro K' hK'
       (try simp only[List.getElem_toArray,List.getElem_cons_zero,List.getElem_cons_succ])
       go_simp
       refine(HLM.out vy G _ _ _ _ _ _ (nmB 115 t) _ _ _ _ HU.out HI.out (by omega) (by omega) (by omega)).mono ?_
       rintro e w3 ⟨rfl,x',y',z',p1,p3,hp1,hp3,hu⟩
       have HUN:=hid hu
       have HP1:=hid hp1
       have HP3:=hid hp3
       clear hu hp1 hp3
       refine hK'.out _ _ HUN.out.hb.cells (fun _=>wpAnyH_done (by kernel_rfl) ?_ _)
       clear hK' K' hSd HU HI
       obtain⟨g0,hg0⟩:∃g,gy=g:=⟨_,rfl⟩
       rw[hg0] at HUN
       simp only[hg0]
       clear hg0 gy
       obtain⟨pA,hpA⟩:∃p,p1=p:=⟨_,rfl⟩
       obtain⟨pC,hpC⟩:∃p,p3=p:=⟨_,rfl⟩
       rw[hpA] at HUN HP1
       rw[hpC] at HUN HP3
       clear hpA hpC p1 p3
       have hLV2:(Vs++[pA]).length≤9:=by rw[List.length_append];simp;omega
       have hLL2:(Ls++[((.slice (some ⟨g0,0,none⟩) 1 1,[2*(t:Int) - 2]):PL)]).length≤9:=by rw[List.length_append];simp;omega
       have hLR2:(Rs++[pC]).length≤9:=by rw[List.length_append];simp;omega
       obtain⟨V2,hV2⟩:∃v,Vs++[pA]=v:=⟨_,rfl⟩
       obtain⟨L2,hL2⟩:∃v,Ls++[((.slice (some ⟨g0,0,none⟩) 1 1,[2*(t:Int) - 2]):PL)]=v:=⟨_,rfl⟩
       obtain⟨Q2,hR2⟩:∃v,Rs++[pC]=v:=⟨_,rfl⟩
       rw[hV2,hL2,hR2] at HUN
       rw[hV2] at hLV2
       rw[hL2] at hLL2
       rw[hR2] at hLR2
       have HV2:=hid hV2
       have HL2:=hid hL2
       have HR2:=hid hR2
       clear hV2 hL2 hR2
       go_upto_region 14 with fail
       have HU:=HUN
       have HPA:=HP1
       have HPC:=HP3
       clear HUN HP1 HP3
       replace HU:=hid (HU.out.step (Below.refl _ _).drew)
       refine wp_region_held_drew (S:=fun u=>(u.cell? ⟨w.heap.size,0,none⟩=some (.slice a n ca)∧u.cell? ⟨w.heap.size,1,none⟩=some (.slice b n cb)∧u.cell? ⟨w.heap.size,2,none⟩=some (.slice c n cc))) (by kernel_rfl) HU.out.hb.cells (fun hSd=>?_)
       generalize w3.drew=u0 at *
       refine wpAnyH_take (i:=0) (oi:=_) (v:=.int .i64 (t:Nat)) rfl (by kernel_rfl) (by kernel_rfl) (by kernel_rfl) (fun _ _ _ h=>h) (Or.inl ⟨by rfl,?_⟩) (by assumption) ?_
       ·intro u' hSu
        (try simp only[List.getElem_toArray,List.getElem_cons_zero])
        go_simp
       (try simp only[List.getElem_toArray,List.getElem_cons_zero])
       (try simp only[Act.put,List.setIfInBounds_toArray,List.set_cons_zero,List.set_cons_succ])
       refine wpAnyH_take (i:=2) (oi:=_) (v:=.int .i64 (2*(t:Int)+1)) rfl (by kernel_rfl) (by kernel_rfl) (by kernel_rfl) (fun _ _ _ h=>h) (Or.inl ⟨by rfl,?_⟩) (by assumption) ?_
       ·intro u' hSu
        (try simp only[List.getElem_toArray,List.getElem_cons_zero,List.getElem_cons_succ])
        go_simp
       (try simp only[List.getElem_toArray,List.getElem_cons_zero,List.getElem_cons_succ])
       (try simp only[Act.put,List.setIfInBounds_toArray,List.set_cons_zero,List.set_cons_succ])
       refine wpAnyH_take (i:=3) (oi:=_) (v:=.int .i64 (2*(t:Int))) rfl (by kernel_rfl) (by kernel_rfl) (by kernel_rfl) (fun _ _ _ h=>h) (Or.inl ⟨by rfl,?_⟩) (by assumption) ?_
       ·intro u' hSu
        (try simp only[List.getElem_toArray,List.getElem_cons_zero,List.getElem_cons_succ])
        go_simp
       (try simp only[List.getElem_toArray,List.getElem_cons_zero,List.getElem_cons_succ])
       (try simp only[Act.put,List.setIfInBounds_toArray,List.set_cons_zero,List.set_cons_succ])
       refine wpAnyH_take (i:=5) (oi:=_) (v:=.pointer (some ⟨w.heap.size,2,none⟩)) rfl (by kernel_rfl) (by kernel_rfl) (by kernel_rfl) (fun _ _ _ h=>h) (Or.inl ⟨by rfl,?_⟩) (by assumption) ?_
       ·intro u' hSu
        (try simp only[List.getElem_toArray,List.getElem_cons_zero,List.getElem_cons_succ])
        go_simp
       (try simp only[List.getElem_toArray,List.getElem_cons_zero,List.getElem_cons_succ])
       (try simp only[Act.put,List.setIfInBounds_toArray,List.set_cons_zero,List.set_cons_succ])
       refine wpAnyH_take (i:=6) (oi:=_) (v:=.slice c n cc) rfl (by kernel_rfl) (by kernel_rfl) (by kernel_rfl) (fun _ _ _ h=>h) (Or.inl ⟨by rfl,?_⟩) (by assumption) ?_
       ·intro u' hSu
        (try simp only[List.getElem_toArray,List.getElem_cons_zero,List.getElem_cons_succ])
        obtain⟨s0,s1,s2⟩:=hSu
        go_simp
       (try simp only[List.getElem_toArray,List.getElem_cons_zero,List.getElem_cons_succ])
       (try simp only[Act.put,List.setIfInBounds_toArray,List.set_cons_zero,List.set_cons_succ])
       refine wpAnyH_ready (rs:=[1,4]) (by kernel_rfl) (by simp) (AllReadyH.cons rfl ?_ (AllReadyH.cons rfl ?_ (AllReadyH.nil)))
       ·intro K' hK'
        (try simp only[List.getElem_toArray,List.getElem_cons_zero,List.getElem_cons_succ])
        go_simp
        refine(HNU.out 111 t (by omega) _).mono ?_
        rintro e u1 ⟨rfl,rfl⟩
        refine hK'.out _ _ HU.out.hb.cells (fun hSe=>?_)
        clear hK' K' hSd
        have hSd:=hSe
        clear hSe
        (try simp only[List.getElem_toArray,List.getElem_cons_zero,List.getElem_cons_succ])
        (try simp only[Act.put,List.setIfInBounds_toArray,List.set_cons_zero,List.set_cons_succ])
        refine wpAnyH_ready (rs:=[4]) (by kernel_rfl) (by simp) (AllReadyH.cons rfl ?_ (AllReadyH.nil))
        ·intro K' hK'
         (try simp only[List.getElem_toArray,List.getElem_cons_zero,List.getElem_cons_succ])
         go_simp
         have hbA:=(Below.refl u1.heap.size u1).alloc (Nat.le_refl _) (.cells #[.int .i64 (2*(t:Int))] 3)
         have HI:=hid (owns_lower (RwI.one u1 (2*(t:Int))) HU.out.bel.size:RwI _ w.heap.size (.slice (some ⟨u1.heap.size,0,none⟩) 1 1) [2*(t:Int)])
         replace HU:=hid (HU.out.step hbA)
         refine hK'.out _ _ HU.out.hb.cells (fun hSe=>?_)
         clear hK' K' hSd
         have hSd:=hSe
         clear hSe
         obtain⟨gy,hgy⟩:∃x,u1.heap.size=x:=⟨_,rfl⟩
         obtain⟨vy,hvy⟩:∃x,u1.alloc (.cells #[.int .i64 (2*(t:Int))] 3)=x:=⟨_,rfl⟩
         rw[hgy,hvy] at HI
         rw[hvy] at HU hSd
         simp only[hvy]
         simp only[hgy]
         clear hgy hvy hbA
         (try simp only[List.getElem_toArray,List.getElem_cons_zero,List.getElem_cons_succ])
         (try simp only[Act.put,List.setIfInBounds_toArray,List.set_cons_zero,List.set_cons_succ])
         refine wpAnyH_ready (rs:=[7]) (by kernel_rfl) (by simp) (AllReadyH.cons rfl ?_ (AllReadyH.nil))
         ·intro K' hK'
          (try simp only[List.getElem_toArray,List.getElem_cons_zero,List.getElem_cons_succ])
          go_simp
          refine(HLS.out vy G _ _ _ _ _ _ (nmB 111 t) _ _ _ _ HU.out HI.out (by omega) (by omega) (by omega)).mono ?_
          rintro e w5 ⟨rfl,x',y',z',p1,p3,hp1,hp3,hu⟩
          have HUN:=hid hu
          have HP1:=hid hp1
          have HP3:=hid hp3
          clear hu hp1 hp3
          refine hK'.out _ _ HUN.out.hb.cells (fun _=>wpAnyH_done (by kernel_rfl) ?_ _)
          clear hK' K' hSd HU HI
          have HFIN:Hid (vOf (V2++[p1])=uV n m (t+1)∧lOf (L2++[(.slice (some ⟨gy,0,none⟩) 1 1,[2*(t:Int)])])=uL (t+1)∧rOf (Q2++[p3])=uR l R1 R2 (t+1)):=by
           refine⟨?_,?_,?_⟩
           ·rw[←HV2.out,vOf_app,vOf_app,HSP.out.1,uV,List.append_assoc]
            show _++[(pA.1,pA.2.2),(p1.1,p1.2.2)]=_
            rw[HPA.out,HP1.out]
           ·rw[←HL2.out,lOf_app,lOf_app,HSP.out.2.1,uL,List.append_assoc,if_neg HT0.out]
            rfl
           ·rw[←HR2.out,rOf_app,rOf_app,HSP.out.2.2,uR,List.append_assoc,if_neg HT0.out]
            show _++[pC.2,p3.2]=_
            rw[HPC.out,HP3.out]
          clear HPA HPC HP1 HP3 HSP k1 k2 k3 k4
          go_wp2
          go_roundw
          case rel=>exact⟨t+1,_,_,_,_,_,_,by omega,by go_num,HUN,HFIN⟩
          case measure=>simp[intOf];omega
       ·intro K' hK'
        (try simp only[List.getElem_toArray,List.getElem_cons_zero,List.getElem_cons_succ])
        go_simp
        have hbA:=(Below.refl u0.heap.size u0).alloc (Nat.le_refl _) (.cells #[.int .i64 (2*(t:Int))] 3)
        have HI:=hid (owns_lower (RwI.one u0 (2*(t:Int))) HU.out.bel.size:RwI _ w.heap.size (.slice (some ⟨u0.heap.size,0,none⟩) 1 1) [2*(t:Int)])
        replace HU:=hid (HU.out.step hbA)
        refine hK'.out _ _ HU.out.hb.cells (fun hSe=>?_)
        clear hK' K' hSd
        have hSd:=hSe
        clear hSe
        obtain⟨gy,hgy⟩:∃x,u0.heap.size=x:=⟨_,rfl⟩
        obtain⟨vy,hvy⟩:∃x,u0.alloc (.cells #[.int .i64 (2*(t:Int))] 3)=x:=⟨_,rfl⟩
        rw[hgy,hvy] at HI
        rw[hvy] at HU hSd
        simp only[hvy]
        simp only[hgy]
        clear hgy hvy hbA
        (try simp only[List.getElem_toArray,List.getElem_cons_zero,List.getElem_cons_succ])
        (try simp only[Act.put,List.setIfInBounds_toArray,List.set_cons_zero,List.set_cons_succ])
        refine wpAnyH_ready (rs:=[1]) (by kernel_rfl) (by simp) (AllReadyH.cons rfl ?_ (AllReadyH.nil))
        ·intro K' hK'
         (try simp only[List.getElem_toArray,List.getElem_cons_zero,List.getElem_cons_succ])
         go_simp
         refine(HNU.out 111 t (by omega) _).mono ?_
         rintro e u9 ⟨rfl,rfl⟩
         refine hK'.out _ _ HU.out.hb.cells (fun hSe=>?_)
         clear hK' K' hSd
         have hSd:=hSe
         clear hSe
         (try simp only[List.getElem_toArray,List.getElem_cons_zero,List.getElem_cons_succ])
         (try simp only[Act.put,List.setIfInBounds_toArray,List.set_cons_zero,List.set_cons_succ])
         refine wpAnyH_ready (rs:=[7]) (by kernel_rfl) (by simp) (AllReadyH.cons rfl ?_ (AllReadyH.nil))
         ·intro K' hK'
          (try simp only[List.getElem_toArray,List.getElem_cons_zero,List.getElem_cons_succ])
          go_simp
          refine(HLS.out u9 G _ _ _ _ _ _ (nmB 111 t) _ _ _ _ HU.out HI.out (by omega) (by omega) (by omega)).mono ?_
          rintro e w5 ⟨rfl,x',y',z',p1,p3,hp1,hp3,hu⟩
          have HUN:=hid hu
          have HP1:=hid hp1
          have HP3:=hid hp3
          clear hu hp1 hp3
          refine hK'.out _ _ HUN.out.hb.cells (fun _=>wpAnyH_done (by kernel_rfl) ?_ _)
          clear hK' K' hSd HU HI
          have HFIN:Hid (vOf (V2++[p1])=uV n m (t+1)∧lOf (L2++[(.slice (some ⟨gy,0,none⟩) 1 1,[2*(t:Int)])])=uL (t+1)∧rOf (Q2++[p3])=uR l R1 R2 (t+1)):=by
           refine⟨?_,?_,?_⟩
           ·rw[←HV2.out,vOf_app,vOf_app,HSP.out.1,uV,List.append_assoc]
            show _++[(pA.1,pA.2.2),(p1.1,p1.2.2)]=_
            rw[HPA.out,HP1.out]
           ·rw[←HL2.out,lOf_app,lOf_app,HSP.out.2.1,uL,List.append_assoc,if_neg HT0.out]
            rfl
           ·rw[←HR2.out,rOf_app,rOf_app,HSP.out.2.2,uR,List.append_assoc,if_neg HT0.out]
            show _++[pC.2,p3.2]=_
            rw[HPC.out,HP3.out]
          clear HPA HPC HP1 HP3 HSP k1 k2 k3 k4
          go_wp2
          go_roundw
          case rel=>exact⟨t+1,_,_,_,_,_,_,by omega,by go_num,HUN,HFIN⟩
          case measure=>simp[intOf];omega
    ·intro K' hK'
     (try simp only[List.getElem_toArray,List.getElem_cons_zero,List.getElem_cons_succ])
     go_simp
     have hbA:=(Below.refl u0.heap.size u0).alloc (Nat.le_refl _) (.cells #[.int .i64 (2*(t:Int) - 2)] 3)
     have HI:=hid (owns_lower (RwI.one u0 (2*(t:Int) - 2)) HU.out.bel.size:RwI _ w.heap.size (.slice (some ⟨u0.heap.size,0,none⟩) 1 1) [2*(t:Int) - 2])
     replace HU:=hid (HU.out.step hbA)
     refine hK'.out _ _ HU.out.hb.cells (fun hSe=>?_)
     clear hK' K' hSd
     have hSd:=hSe
     clear hSe
     obtain⟨gy,hgy⟩:∃x,u0.heap.size=x:=⟨_,rfl⟩
     obtain⟨vy,hvy⟩:∃x,u0.alloc (.cells #[.int .i64 (2*(t:Int) - 2)] 3)=x:=⟨_,rfl⟩
     rw[hgy,hvy] at HI
     rw[hvy] at HU hSd
     simp only[hvy]
     simp only[hgy]
     clear hgy hvy hbA
     (try simp only[List.getElem_toArray,List.getElem_cons_zero,List.getElem_cons_succ])
     (try simp only[Act.put,List.setIfInBounds_toArray,List.set_cons_zero,List.set_cons_succ])
     refine wpAnyH_ready (rs:=[1]) (by kernel_rfl) (by simp) (AllReadyH.cons rfl ?_ (AllReadyH.nil))
     ·intro K' hK'
      (try simp only[List.getElem_toArray,List.getElem_cons_zero,List.getElem_cons_succ])
      go_simp
      refine(HNU.out 115 t (by omega) _).mono ?_
      rintro e u9 ⟨rfl,rfl⟩
      refine hK'.out _ _ HU.out.hb.cells (fun hSe=>?_)
      clear hK' K' hSd
      have hSd:=hSe
      clear hSe
      (try simp only[List.getElem_toArray,List.getElem_cons_zero,List.getElem_cons_succ])
      (try simp only[Act.put,List.setIfInBounds_toArray,List.set_cons_zero,List.set_cons_succ])
      refine wpAnyH_ready (rs:=[7]) (by kernel_rfl) (by simp) (AllReadyH.cons rfl ?_ (AllReadyH.nil))
      ·intro K' hK'
       (try simp only[List.getElem_toArray,List.getElem_cons_zero,List.getElem_cons_succ])
       go_simp
       refine(HLM.out u9 G _ _ _ _ _ _ (nmB 115 t) _ _ _ _ HU.out HI.out (by omega) (by omega) (by omega)).mono ?_
       rintro e w3 ⟨rfl,x',y',z',p1,p3,hp1,hp3,hu⟩
       have HUN:=hid hu
       have HP1:=hid hp1
       have HP3:=hid hp3
       clear hu hp1 hp3
       refine hK'.out _ _ HUN.out.hb.cells (fun _=>wpAnyH_done (by kernel_rfl) ?_ _)
       clear hK' K' hSd HU HI
       obtain⟨g0,hg0⟩:∃g,gy=g:=⟨_,rfl⟩
       rw[hg0] at HUN
       simp only[hg0]
       clear hg0 gy
       obtain⟨pA,hpA⟩:∃p,p1=p:=⟨_,rfl⟩
       obtain⟨pC,hpC⟩:∃p,p3=p:=⟨_,rfl⟩
       rw[hpA] at HUN HP1
       rw[hpC] at HUN HP3
       clear hpA hpC p1 p3
       have hLV2:(Vs++[pA]).length≤9:=by rw[List.length_append];simp;omega
       have hLL2:(Ls++[((.slice (some ⟨g0,0,none⟩) 1 1,[2*(t:Int) - 2]):PL)]).length≤9:=by rw[List.length_append];simp;omega
       have hLR2:(Rs++[pC]).length≤9:=by rw[List.length_append];simp;omega
       obtain⟨V2,hV2⟩:∃v,Vs++[pA]=v:=⟨_,rfl⟩
       obtain⟨L2,hL2⟩:∃v,Ls++[((.slice (some ⟨g0,0,none⟩) 1 1,[2*(t:Int) - 2]):PL)]=v:=⟨_,rfl⟩
       obtain⟨Q2,hR2⟩:∃v,Rs++[pC]=v:=⟨_,rfl⟩
       rw[hV2,hL2,hR2] at HUN
       rw[hV2] at hLV2
       rw[hL2] at hLL2
       rw[hR2] at hLR2
       have HV2:=hid hV2
       have HL2:=hid hL2
       have HR2:=hid hR2
       clear hV2 hL2 hR2
       go_upto_region 14 with fail
       have HU:=HUN
       have HPA:=HP1
       have HPC:=HP3
       clear HUN HP1 HP3
       replace HU:=hid (HU.out.step (Below.refl _ _).drew)
       refine wp_region_held_drew (S:=fun u=>(u.cell? ⟨w.heap.size,0,none⟩=some (.slice a n ca)∧u.cell? ⟨w.heap.size,1,none⟩=some (.slice b n cb)∧u.cell? ⟨w.heap.size,2,none⟩=some (.slice c n cc))) (by kernel_rfl) HU.out.hb.cells (fun hSd=>?_)
       generalize w3.drew=u0 at *
       refine wpAnyH_take (i:=0) (oi:=_) (v:=.int .i64 (t:Nat)) rfl (by kernel_rfl) (by kernel_rfl) (by kernel_rfl) (fun _ _ _ h=>h) (Or.inl ⟨by rfl,?_⟩) (by assumption) ?_
       ·intro u' hSu
        (try simp only[List.getElem_toArray,List.getElem_cons_zero])
        go_simp
       (try simp only[List.getElem_toArray,List.getElem_cons_zero])
       (try simp only[Act.put,List.setIfInBounds_toArray,List.set_cons_zero,List.set_cons_succ])
       refine wpAnyH_take (i:=2) (oi:=_) (v:=.int .i64 (2*(t:Int)+1)) rfl (by kernel_rfl) (by kernel_rfl) (by kernel_rfl) (fun _ _ _ h=>h) (Or.inl ⟨by rfl,?_⟩) (by assumption) ?_
       ·intro u' hSu
        (try simp only[List.getElem_toArray,List.getElem_cons_zero,List.getElem_cons_succ])
        go_simp
       (try simp only[List.getElem_toArray,List.getElem_cons_zero,List.getElem_cons_succ])
       (try simp only[Act.put,List.setIfInBounds_toArray,List.set_cons_zero,List.set_cons_succ])
       refine wpAnyH_take (i:=3) (oi:=_) (v:=.int .i64 (2*(t:Int))) rfl (by kernel_rfl) (by kernel_rfl) (by kernel_rfl) (fun _ _ _ h=>h) (Or.inl ⟨by rfl,?_⟩) (by assumption) ?_
       ·intro u' hSu
        (try simp only[List.getElem_toArray,List.getElem_cons_zero,List.getElem_cons_succ])
        go_simp
       (try simp only[List.getElem_toArray,List.getElem_cons_zero,List.getElem_cons_succ])
       (try simp only[Act.put,List.setIfInBounds_toArray,List.set_cons_zero,List.set_cons_succ])
       refine wpAnyH_take (i:=5) (oi:=_) (v:=.pointer (some ⟨w.heap.size,2,none⟩)) rfl (by kernel_rfl) (by kernel_rfl) (by kernel_rfl) (fun _ _ _ h=>h) (Or.inl ⟨by rfl,?_⟩) (by assumption) ?_
       ·intro u' hSu
        (try simp only[List.getElem_toArray,List.getElem_cons_zero,List.getElem_cons_succ])
        go_simp
       (try simp only[List.getElem_toArray,List.getElem_cons_zero,List.getElem_cons_succ])
       (try simp only[Act.put,List.setIfInBounds_toArray,List.set_cons_zero,List.set_cons_succ])
       refine wpAnyH_take (i:=6) (oi:=_) (v:=.slice c n cc) rfl (by kernel_rfl) (by kernel_rfl) (by kernel_rfl) (fun _ _ _ h=>h) (Or.inl ⟨by rfl,?_⟩) (by assumption) ?_
       ·intro u' hSu
        (try simp only[List.getElem_toArray,List.getElem_cons_zero,List.getElem_cons_succ])
        obtain⟨s0,s1,s2⟩:=hSu
        go_simp
       (try simp only[List.getElem_toArray,List.getElem_cons_zero,List.getElem_cons_succ])
       (try simp only[Act.put,List.setIfInBounds_toArray,List.set_cons_zero,List.set_cons_succ])
       refine wpAnyH_ready (rs:=[1,4]) (by kernel_rfl) (by simp) (AllReadyH.cons rfl ?_ (AllReadyH.cons rfl ?_ (AllReadyH.nil)))
       ·intro K' hK'
        (try simp only[List.getElem_toArray,List.getElem_cons_zero,List.getElem_cons_succ])
        go_simp
        refine(HNU.out 111 t (by omega) _).mono ?_
        rintro e u1 ⟨rfl,rfl⟩
        refine hK'.out _ _ HU.out.hb.cells (fun hSe=>?_)
        clear hK' K' hSd
        have hSd:=hSe
        clear hSe
        (try simp only[List.getElem_toArray,List.getElem_cons_zero,List.getElem_cons_succ])
        (try simp only[Act.put,List.setIfInBounds_toArray,List.set_cons_zero,List.set_cons_succ])
        refine wpAnyH_ready (rs:=[4]) (by kernel_rfl) (by simp) (AllReadyH.cons rfl ?_ (AllReadyH.nil))
        ·intro K' hK'
         (try simp only[List.getElem_toArray,List.getElem_cons_zero,List.getElem_cons_succ])
         go_simp
         have hbA:=(Below.refl u1.heap.size u1).alloc (Nat.le_refl _) (.cells #[.int .i64 (2*(t:Int))] 3)
         have HI:=hid (owns_lower (RwI.one u1 (2*(t:Int))) HU.out.bel.size:RwI _ w.heap.size (.slice (some ⟨u1.heap.size,0,none⟩) 1 1) [2*(t:Int)])
         replace HU:=hid (HU.out.step hbA)
         refine hK'.out _ _ HU.out.hb.cells (fun hSe=>?_)
         clear hK' K' hSd
         have hSd:=hSe
         clear hSe
         obtain⟨gy,hgy⟩:∃x,u1.heap.size=x:=⟨_,rfl⟩
         obtain⟨vy,hvy⟩:∃x,u1.alloc (.cells #[.int .i64 (2*(t:Int))] 3)=x:=⟨_,rfl⟩
         rw[hgy,hvy] at HI
         rw[hvy] at HU hSd
         simp only[hvy]
         simp only[hgy]
         clear hgy hvy hbA
         (try simp only[List.getElem_toArray,List.getElem_cons_zero,List.getElem_cons_succ])
         (try simp only[Act.put,List.setIfInBounds_toArray,List.set_cons_zero,List.set_cons_succ])
         refine wpAnyH_ready (rs:=[7]) (by kernel_rfl) (by simp) (AllReadyH.cons rfl ?_ (AllReadyH.nil))
         ·intro K' hK'
          (try simp only[List.getElem_toArray,List.getElem_cons_zero,List.getElem_cons_succ])
          go_simp
          refine(HLS.out vy G _ _ _ _ _ _ (nmB 111 t) _ _ _ _ HU.out HI.out (by omega) (by omega) (by omega)).mono ?_
          rintro e w5 ⟨rfl,x',y',z',p1,p3,hp1,hp3,hu⟩
          have HUN:=hid hu
          have HP1:=hid hp1
          have HP3:=hid hp3
          clear hu hp1 hp3
          refine hK'.out _ _ HUN.out.hb.cells (fun _=>wpAnyH_done (by kernel_rfl) ?_ _)
          clear hK' K' hSd HU HI
          have HFIN:Hid (vOf (V2++[p1])=uV n m (t+1)∧lOf (L2++[(.slice (some ⟨gy,0,none⟩) 1 1,[2*(t:Int)])])=uL (t+1)∧rOf (Q2++[p3])=uR l R1 R2 (t+1)):=by
           refine⟨?_,?_,?_⟩
           ·rw[←HV2.out,vOf_app,vOf_app,HSP.out.1,uV,List.append_assoc]
            show _++[(pA.1,pA.2.2),(p1.1,p1.2.2)]=_
            rw[HPA.out,HP1.out]
           ·rw[←HL2.out,lOf_app,lOf_app,HSP.out.2.1,uL,List.append_assoc,if_neg HT0.out]
            rfl
           ·rw[←HR2.out,rOf_app,rOf_app,HSP.out.2.2,uR,List.append_assoc,if_neg HT0.out]
            show _++[pC.2,p3.2]=_
            rw[HPC.out,HP3.out]
          clear HPA HPC HP1 HP3 HSP k1 k2 k3 k4
          go_wp2
          go_roundw
          case rel=>exact⟨t+1,_,_,_,_,_,_,by omega,by go_num,HUN,HFIN⟩
          case measure=>simp[intOf];omega
       ·intro K' hK'
        (try simp only[List.getElem_toArray,List.getElem_cons_zero,List.getElem_cons_succ])
        go_simp
        have hbA:=(Below.refl u0.heap.size u0).alloc (Nat.le_refl _) (.cells #[.int .i64 (2*(t:Int))] 3)
        have HI:=hid (owns_lower (RwI.one u0 (2*(t:Int))) HU.out.bel.size:RwI _ w.heap.size (.slice (some ⟨u0.heap.size,0,none⟩) 1 1) [2*(t:Int)])
        replace HU:=hid (HU.out.step hbA)
        refine hK'.out _ _ HU.out.hb.cells (fun hSe=>?_)
        clear hK' K' hSd
        have hSd:=hSe
        clear hSe
        obtain⟨gy,hgy⟩:∃x,u0.heap.size=x:=⟨_,rfl⟩
        obtain⟨vy,hvy⟩:∃x,u0.alloc (.cells #[.int .i64 (2*(t:Int))] 3)=x:=⟨_,rfl⟩
        rw[hgy,hvy] at HI
        rw[hvy] at HU hSd
        simp only[hvy]
        simp only[hgy]
        clear hgy hvy hbA
        (try simp only[List.getElem_toArray,List.getElem_cons_zero,List.getElem_cons_succ])
        (try simp only[Act.put,List.setIfInBounds_toArray,List.set_cons_zero,List.set_cons_succ])
        refine wpAnyH_ready (rs:=[1]) (by kernel_rfl) (by simp) (AllReadyH.cons rfl ?_ (AllReadyH.nil))
        ·intro K' hK'
         (try simp only[List.getElem_toArray,List.getElem_cons_zero,List.getElem_cons_succ])
         go_simp
         refine(HNU.out 111 t (by omega) _).mono ?_
         rintro e u9 ⟨rfl,rfl⟩
         refine hK'.out _ _ HU.out.hb.cells (fun hSe=>?_)
         clear hK' K' hSd
         have hSd:=hSe
         clear hSe
         (try simp only[List.getElem_toArray,List.getElem_cons_zero,List.getElem_cons_succ])
         (try simp only[Act.put,List.setIfInBounds_toArray,List.set_cons_zero,List.set_cons_succ])
         refine wpAnyH_ready (rs:=[7]) (by kernel_rfl) (by simp) (AllReadyH.cons rfl ?_ (AllReadyH.nil))
         ·intro K' hK'
          (try simp only[List.getElem_toArray,List.getElem_cons_zero,List.getElem_cons_succ])
          go_simp
          refine(HLS.out u9 G _ _ _ _ _ _ (nmB 111 t) _ _ _ _ HU.out HI.out (by omega) (by omega) (by omega)).mono ?_
          rintro e w5 ⟨rfl,x',y',z',p1,p3,hp1,hp3,hu⟩
          have HUN:=hid hu
          have HP1:=hid hp1
          have HP3:=hid hp3
          clear hu hp1 hp3
          refine hK'.out _ _ HUN.out.hb.cells (fun _=>wpAnyH_done (by kernel_rfl) ?_ _)
          clear hK' K' hSd HU HI
          have HFIN:Hid (vOf (V2++[p1])=uV n m (t+1)∧lOf (L2++[(.slice (some ⟨gy,0,none⟩) 1 1,[2*(t:Int)])])=uL (t+1)∧rOf (Q2++[p3])=uR l R1 R2 (t+1)):=by
           refine⟨?_,?_,?_⟩
           ·rw[←HV2.out,vOf_app,vOf_app,HSP.out.1,uV,List.append_assoc]
            show _++[(pA.1,pA.2.2),(p1.1,p1.2.2)]=_
            rw[HPA.out,HP1.out]
           ·rw[←HL2.out,lOf_app,lOf_app,HSP.out.2.1,uL,List.append_assoc,if_neg HT0.out]
            rfl
           ·rw[←HR2.out,rOf_app,rOf_app,HSP.out.2.2,uR,List.append_assoc,if_neg HT0.out]
            show _++[pC.2,p3.2]=_
            rw[HPC.out,HP3.out]
          clear HPA HPC HP1 HP3 HSP k1 k2 k3 k4
          go_wp2
          go_roundw
          case rel=>exact⟨t+1,_,_,_,_,_,_,by omega,by go_num,HUN,HFIN⟩
          case measure=>simp[intOf];omega
  ·obtain rfl:t=T:=by omega
   obtain⟨dx,cx',hxe, -⟩:=owns_slice HUS.out.vs.1
   subst hxe
   obtain⟨dy,cy,hye, -⟩:=owns_slice HUS.out.ls.1
   subst hye
   obtain⟨dz,cz,hze, -⟩:=owns_slice HUS.out.rs.1
   subst hze
   obtain⟨e0,e1,e2⟩:=HUS.out.box.cells
   obtain⟨q0,q1,q2⟩:=HUS.out.res.cells
   have f0:wr.frozen? ⟨w.heap.size+1,0,none⟩=false:=frozen_of_row _ _ 0 _ _ HUS.out.res
   have f1:wr.frozen? ⟨w.heap.size+1,1,none⟩=false:=frozen_of_row _ _ 1 _ _ HUS.out.res
   have f2:wr.frozen? ⟨w.heap.size+1,2,none⟩=false:=frozen_of_row _ _ 2 _ _ HUS.out.res
   obtain⟨o1,o2,o3,o4,o5⟩:=HUS.out.out3
   have HO1:=hid o1
   have HO2:=hid o2
   have HO3:=hid o3
   have HO4:=hid o4
   have HO5:=hid o5
   clear o1 o2 o3 o4 o5
   go_wp2
   refine bodyPost_ret (HO1.out.result2 rfl _ rfl) rfl ?_
   exact⟨_,_,_,Vs,Ls,Rs,rfl,by rw[HN.out,HM.out];exact HSP.out.1,HSP.out.2.1,HSP.out.2.2,HO2.out,HO3.out,HO4.out,HO5.out⟩
end Go.Proofs.YtgamblainfkiaaaGreatDoor
