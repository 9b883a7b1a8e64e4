/- Still of package chain. -/
import Derived.Test.YtmbjmiioggfneaaGreatDoorRegTCxNum
import Derived.Test.YtmbjmiioggfneaaGreatDoorStlACxStlQ
import Derived.Test.YtmbjmiioggfneaaGreatDoorChnDCxStlP
import Derived.Test.YtmbjmiioggfneaaGreatDoorChnPCxNetD
namespace Go.Proofs.YtmbjmiioggfneaaGreatDoor
open Go.RowKit Go.Shelf
abbrev clB (n:Nat) (P:Nat→Nat→Rat):List Bool:=(lstN n (cmsB n P) n).map (stB n (cmsB n P))
theorem clB_true {n:Nat} {P:Nat→Nat→Rat} (hn:1≤n):true∈clB n P:=by
 obtain⟨j,hj,hs⟩:=stB_some (P:=P) _ 0 (by omega:0<n) (Nat.le_refl _)
 obtain⟨k,hk,hm⟩:=lst_of (P:=P) hj
 exact List.mem_map.2 ⟨k,hk,stB_same hj hm hs⟩
structure OneC (n:Nat) (P:Nat→Nat→Rat) (k:Nat):Prop where
 mem:k∈lstN n (cmsB n P) n
 shut:stB n (cmsB n P) k=true
 only:∀j,j∈lstN n (cmsB n P) n→stB n (cmsB n P) j=true→j=k
theorem OneC.lt {n:Nat} {P:Nat→Nat→Rat} {k:Nat} (h:OneC n P k):k<n:=(lstN_mem.1 h.mem).1
theorem OneC.cls {n:Nat} {P:Nat→Nat→Rat} {k:Nat} (h:OneC n P k):Cls n P (clN n (cmsB n P) k):=cls_of h.lt h.shut
theorem oneC_of {n:Nat} {P:Nat→Nat→Rat} (hn:1≤n) (hno:true∉(clB n P).drop (fstT (clB n P)+1)):∃hl:fstT (clB n P)<(lstN n (cmsB n P) n).length,OneC n P (lstN n (cmsB n P) n)[fstT (clB n P)]:=by
 obtain⟨hk,h1,h2⟩:=fstT_spec (clB n P) (clB_true hn)
 have hl:fstT (clB n P)<(lstN n (cmsB n P) n).length:=by simpa using hk
 refine⟨hl,List.getElem_mem hl,by simpa using h1,fun j hj hs=>?_⟩
 obtain⟨t,ht,rfl⟩:=List.mem_iff_getElem.1 hj
 have htB:t<(clB n P).length:=by simpa using ht
 have et:(clB n P)[t]=true:=by simpa using hs
 rcases Nat.lt_trichotomy t (fstT (clB n P)) with h |h |h
 ·rw[h2 t htB h] at et;cases et
 ·simp only[h]
 ·refine absurd ?_ hno
  rw[List.mem_iff_getElem]
  exact⟨t - (fstT (clB n P)+1),by rw[List.length_drop];omega,by rw[List.getElem_drop];simpa [show fstT (clB n P)+1+(t - (fstT (clB n P)+1))=t by omega] using et⟩
theorem BoS'.drop {w:World} {g o:Nat} {l:List Bool} (h:BoS' w (some ⟨g,o,none⟩) l) (k:Nat):BoS' w (some ⟨g,o+k,none⟩) (l.drop k):=fun j hj=>by
 rw[List.length_drop] at hj
 obtain⟨g',o',e,h1,h2⟩:=h (k+j) (by omega)
 cases e
 refine⟨g,o+k,rfl,h1,?_⟩
 rw[List.getElem_drop,Nat.add_assoc]
 exact h2
set_option maxRecDepth 100000 in
set_option maxHeartbeats 4000000 in
theorem chStill_any (a:Option Addr) (ca n:Nat) (X:Nat→Nat→Fr) (w:World) (hR:FsS w a (mF n X)) (hm:ChX n X):
  Calls Tryz.prog 18 #[.slice a n ca] w fun e w'=>Below w.heap.size w w'∧((∃k G,OneC n (rowQ X) k∧e=.returned (.tuple #[.slice (some ⟨G,0,none⟩) n n,.int .i64 0])∧w.heap.size≤G∧RowF w' G (lF n (stQ (rowQ X) (clN n (cmsB n (rowQ X)) k))))∨(true∈(clB n (rowQ X)).drop (fstT (clB n (rowQ X))+1)∧e=.returned (.tuple #[.slice none 0 0,.int .i64 13]))):=by
 have h1:=hm.one
 have h5:=hm.five
 have HCS:=hid (chClasses_any a ca n X w hR hm)
 have HCM:=hid hm
 have HR:=hid hR
 have HTR:=hid (clB_true (P:=rowQ X) h1)
 have HONE0:=hid (oneC_of (P:=rowQ X) h1)
 have hcl:(clB n (rowQ X)).length=(lstN n (cmsB n (rowQ X)) n).length:=by simp
 have hll:=lstN_le n (cmsB n (rowQ X)) n
 clear hR hm
 obtain⟨BL,hBL⟩:∃BL,clB n (rowQ X)=BL:=⟨_,rfl⟩
 rw[hBL] at HTR hcl
 have HBLE:=hid hBL
 have hbl5:BL.length≤5:=by omega
 have HCL9:=hid hcl
 clear hBL hcl hll
 obtain⟨hat, -, -⟩:=fstT_spec BL HTR.out
 obtain⟨at_,hat_⟩:∃k,fstT BL=k:=⟨_,rfl⟩
 rw[hat_] at hat
 have HAT:=hid hat_
 clear hat_
 go_enter Tryz.func18,Tryz.ntmps18
 go_wp2_with fail
 refine HCS.out.mono ?_
 rintro e1 W ⟨x,y,Q,B,rfl,hB,hcs,hbW⟩
 have HBW:=hid hbW
 have HQL:=hid hcs.len
 obtain⟨dx,cx,rfl,hxr⟩:=owns_slice hcs.row.1
 obtain⟨dy,cy,hye,hbo,hcy⟩:=hcs.cl.bos
 have HCSW:=hid hcs
 rw[show (lstN n (cmsB n (rowQ X)) n).map (stB n (cmsB n (rowQ X)))=BL from HBLE.out] at hye hbo hcy
 subst hye
 obtain⟨gy,oy,hde, -, -⟩:=hbo at_ hat
 subst hde
 have HIX:=hid (slIndexBo_any (some ⟨gy,oy,none⟩) cy BL.length BL W hbo rfl (by omega))
 have HCN:=hid (slContainsBo_any (some ⟨gy,oy+(at_+1),none⟩) (cy - (at_+1)) (BL.length - (at_+1)) (BL.drop (at_+1)) W (hbo.drop (at_+1)) (by rw[List.length_drop]) (by omega))
 have HCN1:Hid (at_+1=cy→Calls Tryz.prog 42 #[.slice (some ⟨gy,oy,none⟩) 0 0,.bool true] W fun e w'=>w'=W∧e=.returned (.bool (decide (true∈BL.drop (at_+1))))):=fun hcc=>slContainsBo_any (some ⟨gy,oy,none⟩) 0 0 (BL.drop (at_+1)) W (fun k hk=>absurd hk (by rw[List.length_drop];omega)) (by rw[List.length_drop];omega) (by omega)
 clear hbW hcs hbo hxr HCS
 go_wp2_with fail
 refine HIX.out.mono ?_
 rintro e1 w1 ⟨rfl,h9⟩
 rcases h9 with ⟨h9,rfl⟩ |⟨-,rfl⟩
 ·exact absurd HTR.out h9
 ·rw[HAT.out]
  have hle:at_+1≤BL.length:=by omega
  have hle2:at_+1≤cy:=by omega
  by_cases hcc:at_+1=cy
  ·have HC9:=hid (HCN1.out hcc)
   subst hcc
   go_wp2_with fail
   refine HC9.out.mono ?_
   rintro e1 w2 ⟨rfl,rfl⟩
   by_cases hmany:true∈BL.drop (at_+1)
   ·rw[decide_eq_true hmany]
    have HMY:=hid hmany
    clear hmany
    go_wp2
    go_ret2
    exact⟨HBW.out,.inr ⟨by rw[HBLE.out,HAT.out];exact HMY.out,rfl⟩⟩
   ·rw[decide_eq_false hmany]
    obtain⟨hl9,hone9⟩:=HONE0.out (by rw[HBLE.out,HAT.out];exact hmany)
    have hatl:at_<(lstN n (cmsB n (rowQ X)) n).length:=by rw[←HCL9.out];exact hat
    have HONE:Hid (OneC n (rowQ X) (lstN n (cmsB n (rowQ X)) n)[at_]):=by
     have e9:fstT (clB n (rowQ X))=at_:=by rw[HBLE.out];exact HAT.out
     simp only[e9] at hone9
     exact hone9
    obtain⟨k0,hk0⟩:∃k,(lstN n (cmsB n (rowQ X)) n)[at_]=k:=⟨_,rfl⟩
    rw[hk0] at HONE
    have hatQ:at_<Q.length:=by rw[HQL.out];exact hatl
    have hq2:Q[at_].2=iL (clN n (cmsB n (rowQ X)) k0):=by
     have h8:(Q.map (·.2))[at_]? =((lstN n (cmsB n (rowQ X)) n).map fun k=>iL (clN n (cmsB n (rowQ X)) k))[at_]?:=by rw[HCSW.out.val]
     rw[List.getElem?_map,List.getElem?_map,List.getElem?_eq_getElem hatQ,List.getElem?_eq_getElem hatl,hk0] at h8
     exact Option.some.inj h8
    have hrw:=HCSW.out.row.2 Q[at_] (List.getElem_mem hatQ)
    rw[hq2] at hrw
    obtain⟨dl,cl,hqe,hil⟩:=RwI.ints hrw
    rw[iL_length] at hqe
    obtain⟨m,hme⟩:∃m,(clN n (cmsB n (rowQ X)) k0).length=m:=⟨_,rfl⟩
    rw[hme] at hqe
    have HXC:Hid (∃gx ox,dx=some ⟨gx,ox,none⟩∧gx<w2.heap.size∧w2.cell? ⟨gx,ox+at_,none⟩=some (.slice dl m cl)):=by
     rcases HCSW.out.row.1.2 with ⟨e8,e9⟩ |⟨g8,cap8,cur8,e8,_,e10,_⟩
     ·omega
     ·have h8:=HCSW.out.row.1
      rw[e8] at h8
      cases e8
      refine⟨g8,0,rfl,(Array.getElem?_eq_some_iff.1 e10).1,?_⟩
      rw[Nat.zero_add,World.ownsRow.cellAt h8 at_ (by omega)]
      simp[hatQ,hqe]
    have HSI:=hid (fun (U:World) (hU:Below w2.heap.size w2 U)=>chStill_in a dl ca cl n m X (clN n (cmsB n (rowQ X)) k0) U (HR.out.below (HBW.out.trans (hU.mono HBW.out.size))) (hil.below hU) hme HONE.out.cls HCM.out)
    have HSPR:Hid (∀(U:World),Below w2.heap.size w2 U→∀(d:Option Addr) (cd:Nat),FrS U d (lF m (stX (rowQ X) (clN n (cmsB n (rowQ X)) k0)))→Calls Tryz.prog 43 #[.int .i64 (n:Nat),.slice dl m cl,.slice d m cd] U fun e w'=>∃G,e=.returned (.slice (some ⟨G,0,none⟩) n n)∧U.heap.size≤G∧RowF w' G (lF n (stQ (rowQ X) (clN n (cmsB n (rowQ X)) k0)))∧Below U.heap.size U w'):=fun U hU d cd hx=>by
     have h8:=chSpread_any dl d cl cd n m (clN n (cmsB n (rowQ X)) k0) (stX (rowQ X) (clN n (cmsB n (rowQ X)) k0)) U (hil.below hU) hx hme (fun y hy=>(clN_mem.1 hy).1) h1 (by omega) (by have:=clN_le n (cmsB n (rowQ X)) k0;omega)
     rw[show sprQ (clN n (cmsB n (rowQ X)) k0) (stX (rowQ X) (clN n (cmsB n (rowQ X)) k0)) m=stQ (rowQ X) (clN n (cmsB n (rowQ X)) k0) by rw[←hme];rfl] at h8
     exact h8
    obtain⟨gx,ox,rfl,hgx,c0⟩:=HXC.out
    obtain⟨q,hqq⟩:∃q,Q.length=q:=⟨_,rfl⟩
    have hatq:at_<q:=by rw[←hqq];exact hatQ
    clear HXC hil hrw hq2 hone9 hl9 hk0 hqe HCN HCN1 HC9 HIX HCSW hmany hme hatQ
    simp only[hqq]
    clear hqq
    go_upto_region 7 with fail
    generalize hW:w2=W at *
    clear hW
    have HB:Hid (Below W.heap.size W W.drew):=(Below.refl _ _).drew
    have HELD:Hid (∀u,Below W.heap.size W u→u.cell? ⟨gx,ox+at_,none⟩=some (.slice dl m cl)):=fun u h=>(h.cell (p:=⟨gx,_,none⟩) hgx).trans c0
    clear c0
    refine wp_region_held_drew (S:=fun u=>u.cell? ⟨gx,ox+at_,none⟩=some (.slice dl m cl)) (by kernel_rfl) (HELD.out _ HB.out) (fun hSd=>?_)
    generalize W.drew=u0 at *
    refine tkB 0 (.slice a n ca) ?_
    try simp only[gE,aP]
    refine tkB 1 (.int .i64 (n:Nat)) ?_
    try simp only[gE,aP]
    refine tkB 2 (.slice (some ⟨gx,ox,none⟩) q cx) ?_
    try simp only[gE,aP]
    refine tkB 3 (.int .i64 (at_:Nat)) ?_
    try simp only[gE,aP]
    refine tkB 4 (.pointer (some ⟨gx,ox+at_,none⟩)) ?_
    try simp only[gE,aP]
    refine tkA 5 (.slice dl m cl) ?_ ?_
    ·intro u' hSu;try simp only[gE]
     obtain s0:=hSu
     go_simp
    try simp only[gE,aP]
    refine tkB 6 (.slice a n ca) ?_
    try simp only[gE,aP]
    refine tkB 7 (.slice (some ⟨gx,ox,none⟩) q cx) ?_
    try simp only[gE,aP]
    refine tkB 8 (.int .i64 (at_:Nat)) ?_
    try simp only[gE,aP]
    refine tkB 9 (.pointer (some ⟨gx,ox+at_,none⟩)) ?_
    try simp only[gE,aP]
    refine tkA 10 (.slice dl m cl) ?_ ?_
    ·intro u' hSu;try simp only[gE]
     obtain s0:=hSu
     go_simp
    try simp only[gE,aP]
    refine rdA [11] (cA ?_ AllReadyH.nil)
    ·intro K' hK'
     go_simp
     refine(HSI.out _ HB.out).mono ?_
     rintro e u1 ⟨S1,rfl,hS1,hr1,hb⟩
     replace HB:=hid (HB.out.trans (hb.mono HB.out.size))
     have HR1:=hid hr1
     refine hK'.out _ _ (HELD.out _ HB.out) (fun hSe=>?_)
     clear hK' K' hSd hb hr1 hS1
     have hSd:=hSe
     clear hSe
     try simp only[gE,aP]
     refine rdA [12] (cA ?_ AllReadyH.nil)
     ·intro K' hK'
      go_simp
      refine(HSPR.out _ HB.out (some ⟨S1,0,none⟩) m HR1.out.fr).mono ?_
      rintro e u2 ⟨G2,rfl,hG2,hr2,hb⟩
      have HG2:Hid (W.heap.size≤G2):=Nat.le_trans HB.out.size hG2
      replace HB:=hid (HB.out.trans (hb.mono HB.out.size))
      have HR2:=hid hr2
      refine hK'.out _ _ (HELD.out _ HB.out) (fun hSe=>?_)
      clear hK' K' hSd hb hr2 hG2
      have hSd:=hSe
      clear hSe
      try simp only[gE,aP]
      refine tkB 13 (.slice (some ⟨G2,0,none⟩) n n) ?_
      try simp only[gE,aP]
      refine tkB 14 (.int .i64 0) ?_
      try simp only[gE,aP]
      refine wpAnyH_done (by kernel_rfl) ?_ _
      clear hSd
      have HBF:=hid (HBW.out.trans (HB.out.mono HBW.out.size))
      have HGF:Hid (w.heap.size≤G2):=Nat.le_trans HBW.out.size HG2.out
      go_wp2
      go_ret2
      exact⟨HBF.out,.inl ⟨k0,G2,HONE.out,rfl,HGF.out,HR2.out⟩⟩
  ·have HC9:=HCN
   have hcc2:¬cy=at_+1:=fun e=>hcc e.symm
   go_wp2_with fail
   refine HC9.out.mono ?_
   rintro e1 w2 ⟨rfl,rfl⟩
   by_cases hmany:true∈BL.drop (at_+1)
   ·rw[decide_eq_true hmany]
    have HMY:=hid hmany
    clear hmany
    go_wp2
    go_ret2
    exact⟨HBW.out,.inr ⟨by rw[HBLE.out,HAT.out];exact HMY.out,rfl⟩⟩
   ·rw[decide_eq_false hmany]
    obtain⟨hl9,hone9⟩:=HONE0.out (by rw[HBLE.out,HAT.out];exact hmany)
    have hatl:at_<(lstN n (cmsB n (rowQ X)) n).length:=by rw[←HCL9.out];exact hat
    have HONE:Hid (OneC n (rowQ X) (lstN n (cmsB n (rowQ X)) n)[at_]):=by
     have e9:fstT (clB n (rowQ X))=at_:=by rw[HBLE.out];exact HAT.out
     simp only[e9] at hone9
     exact hone9
    obtain⟨k0,hk0⟩:∃k,(lstN n (cmsB n (rowQ X)) n)[at_]=k:=⟨_,rfl⟩
    rw[hk0] at HONE
    have hatQ:at_<Q.length:=by rw[HQL.out];exact hatl
    have hq2:Q[at_].2=iL (clN n (cmsB n (rowQ X)) k0):=by
     have h8:(Q.map (·.2))[at_]? =((lstN n (cmsB n (rowQ X)) n).map fun k=>iL (clN n (cmsB n (rowQ X)) k))[at_]?:=by rw[HCSW.out.val]
     rw[List.getElem?_map,List.getElem?_map,List.getElem?_eq_getElem hatQ,List.getElem?_eq_getElem hatl,hk0] at h8
     exact Option.some.inj h8
    have hrw:=HCSW.out.row.2 Q[at_] (List.getElem_mem hatQ)
    rw[hq2] at hrw
    obtain⟨dl,cl,hqe,hil⟩:=RwI.ints hrw
    rw[iL_length] at hqe
    obtain⟨m,hme⟩:∃m,(clN n (cmsB n (rowQ X)) k0).length=m:=⟨_,rfl⟩
    rw[hme] at hqe
    have HXC:Hid (∃gx ox,dx=some ⟨gx,ox,none⟩∧gx<w2.heap.size∧w2.cell? ⟨gx,ox+at_,none⟩=some (.slice dl m cl)):=by
     rcases HCSW.out.row.1.2 with ⟨e8,e9⟩ |⟨g8,cap8,cur8,e8,_,e10,_⟩
     ·omega
     ·have h8:=HCSW.out.row.1
      rw[e8] at h8
      cases e8
      refine⟨g8,0,rfl,(Array.getElem?_eq_some_iff.1 e10).1,?_⟩
      rw[Nat.zero_add,World.ownsRow.cellAt h8 at_ (by omega)]
      simp[hatQ,hqe]
    have HSI:=hid (fun (U:World) (hU:Below w2.heap.size w2 U)=>chStill_in a dl ca cl n m X (clN n (cmsB n (rowQ X)) k0) U (HR.out.below (HBW.out.trans (hU.mono HBW.out.size))) (hil.below hU) hme HONE.out.cls HCM.out)
    have HSPR:Hid (∀(U:World),Below w2.heap.size w2 U→∀(d:Option Addr) (cd:Nat),FrS U d (lF m (stX (rowQ X) (clN n (cmsB n (rowQ X)) k0)))→Calls Tryz.prog 43 #[.int .i64 (n:Nat),.slice dl m cl,.slice d m cd] U fun e w'=>∃G,e=.returned (.slice (some ⟨G,0,none⟩) n n)∧U.heap.size≤G∧RowF w' G (lF n (stQ (rowQ X) (clN n (cmsB n (rowQ X)) k0)))∧Below U.heap.size U w'):=fun U hU d cd hx=>by
     have h8:=chSpread_any dl d cl cd n m (clN n (cmsB n (rowQ X)) k0) (stX (rowQ X) (clN n (cmsB n (rowQ X)) k0)) U (hil.below hU) hx hme (fun y hy=>(clN_mem.1 hy).1) h1 (by omega) (by have:=clN_le n (cmsB n (rowQ X)) k0;omega)
     rw[show sprQ (clN n (cmsB n (rowQ X)) k0) (stX (rowQ X) (clN n (cmsB n (rowQ X)) k0)) m=stQ (rowQ X) (clN n (cmsB n (rowQ X)) k0) by rw[←hme];rfl] at h8
     exact h8
    obtain⟨gx,ox,rfl,hgx,c0⟩:=HXC.out
    obtain⟨q,hqq⟩:∃q,Q.length=q:=⟨_,rfl⟩
    have hatq:at_<q:=by rw[←hqq];exact hatQ
    clear HXC hil hrw hq2 hone9 hl9 hk0 hqe HCN HCN1 HC9 HIX HCSW hmany hme hatQ
    simp only[hqq]
    clear hqq
    go_upto_region 7 with fail
    generalize hW:w2=W at *
    clear hW
    have HB:Hid (Below W.heap.size W W.drew):=(Below.refl _ _).drew
    have HELD:Hid (∀u,Below W.heap.size W u→u.cell? ⟨gx,ox+at_,none⟩=some (.slice dl m cl)):=fun u h=>(h.cell (p:=⟨gx,_,none⟩) hgx).trans c0
    clear c0
    refine wp_region_held_drew (S:=fun u=>u.cell? ⟨gx,ox+at_,none⟩=some (.slice dl m cl)) (by kernel_rfl) (HELD.out _ HB.out) (fun hSd=>?_)
    generalize W.drew=u0 at *
    refine tkB 0 (.slice a n ca) ?_
    try simp only[gE,aP]
    refine tkB 1 (.int .i64 (n:Nat)) ?_
    try simp only[gE,aP]
    refine tkB 2 (.slice (some ⟨gx,ox,none⟩) q cx) ?_
    try simp only[gE,aP]
    refine tkB 3 (.int .i64 (at_:Nat)) ?_
    try simp only[gE,aP]
    refine tkB 4 (.pointer (some ⟨gx,ox+at_,none⟩)) ?_
    try simp only[gE,aP]
    refine tkA 5 (.slice dl m cl) ?_ ?_
    ·intro u' hSu;try simp only[gE]
     obtain s0:=hSu
     go_simp
    try simp only[gE,aP]
    refine tkB 6 (.slice a n ca) ?_
    try simp only[gE,aP]
    refine tkB 7 (.slice (some ⟨gx,ox,none⟩) q cx) ?_
    try simp only[gE,aP]
    refine tkB 8 (.int .i64 (at_:Nat)) ?_
    try simp only[gE,aP]
    refine tkB 9 (.pointer (some ⟨gx,ox+at_,none⟩)) ?_
    try simp only[gE,aP]
    refine tkA 10 (.slice dl m cl) ?_ ?_
    ·intro u' hSu;try simp only[gE]
     obtain s0:=hSu
     go_simp
    try simp only[gE,aP]
    refine rdA [11] (cA ?_ AllReadyH.nil)
    ·intro K' hK'
     go_simp
     refine(HSI.out _ HB.out).mono ?_
     rintro e u1 ⟨S1,rfl,hS1,hr1,hb⟩
     replace HB:=hid (HB.out.trans (hb.mono HB.out.size))
     have HR1:=hid hr1
     refine hK'.out _ _ (HELD.out _ HB.out) (fun hSe=>?_)
     clear hK' K' hSd hb hr1 hS1
     have hSd:=hSe
     clear hSe
     try simp only[gE,aP]
     refine rdA [12] (cA ?_ AllReadyH.nil)
     ·intro K' hK'
      go_simp
      refine(HSPR.out _ HB.out (some ⟨S1,0,none⟩) m HR1.out.fr).mono ?_
      rintro e u2 ⟨G2,rfl,hG2,hr2,hb⟩
      have HG2:Hid (W.heap.size≤G2):=Nat.le_trans HB.out.size hG2
      replace HB:=hid (HB.out.trans (hb.mono HB.out.size))
      have HR2:=hid hr2
      refine hK'.out _ _ (HELD.out _ HB.out) (fun hSe=>?_)
      clear hK' K' hSd hb hr2 hG2
      have hSd:=hSe
      clear hSe
      try simp only[gE,aP]
      refine tkB 13 (.slice (some ⟨G2,0,none⟩) n n) ?_
      try simp only[gE,aP]
      refine tkB 14 (.int .i64 0) ?_
      try simp only[gE,aP]
      refine wpAnyH_done (by kernel_rfl) ?_ _
      clear hSd
      have HBF:=hid (HBW.out.trans (HB.out.mono HBW.out.size))
      have HGF:Hid (w.heap.size≤G2):=Nat.le_trans HBW.out.size HG2.out
      go_wp2
      go_ret2
      exact⟨HBF.out,.inl ⟨k0,G2,HONE.out,rfl,HGF.out,HR2.out⟩⟩
end Go.Proofs.YtmbjmiioggfneaaGreatDoor

/- Chains, plainly: equations have one solution; a chain that was evened turns; where as much goes each way, a round is as likely one way round as the other. -/
namespace Go.Proofs.YtmbjmiioggfneaaGreatDoor
theorem elmS_for {n k:Nat} {M:Nat→Nat→Rat} {x:Nat→Rat} (hk:k<n) (h:Sol n M x):Sol n (elmS k M) x:=by
 have hkk:=h k hk
 intro i hi
 by_cases e:i=k
 ·subst e
  simp only[elmS,if_pos]
  rw[←hkk,Rat.div_def,←sumR_mulR]
  exact sumR_congr fun j _=>by rw[Rat.div_def];grind
 ·simp only[elmS,if_neg e]
  have h2:sumR (fun j=>(M i j - M k j/M k k*M i k)*x j) n=sumR (fun j=>M i j*x j) n - M i k/M k k*sumR (fun j=>M k j*x j) n:=by
   rw[←sumR_mul,←sumR_sub]
   exact sumR_congr fun j _=>by rw[Rat.div_def,Rat.div_def];grind
  rw[h2,hkk,h i hi,Rat.div_def,Rat.div_def]
  grind
theorem elm_for {n:Nat} {M:Nat→Nat→Rat} {x:Nat→Rat}:∀k,k≤n→Sol n M x→Sol n (elm M k) x
 |0,_,h=>h
 |k+1,hk,h=>elmS_for (by omega) (elm_for k (by omega) h)
theorem elm_only {n:Nat} {M:Nat→Nat→Rat} {x:Nat→Rat} (hp:∀j,j<n→elm M j j j≠0) (h:Sol n M x) {i:Nat} (hi:i<n):x i=elm M n i n:=by
 have hu:=elm_unit n (Nat.le_refl _) hp
 have h1:=elm_for n (Nat.le_refl _) h i hi
 rw[sumR_congr (g:=fun j=>(if i=j then 1 else 0)*x j) fun j hj=>by rw[hu i hi j hj],sumR_one x hi] at h1
 exact h1
theorem Cls.sole {n:Nat} {P:Nat→Nat→Rat} {l:List Nat} (h:Cls n P l) (hc:Chn n P) {x:Nat→Rat} (hs:sumR x l.length=1) (he:∀k,k<l.length→sumR (fun c=>x c*P (l.getD c 0) (l.getD k 0)) l.length=x k) {k:Nat} (hk:k<l.length):x k=stX P l k:=by
 refine elm_only (h.piv hc) (fun i hi=>?_) hk
 by_cases e:i=l.length - 1
 ·have e1:∀j,sM P l i j=1:=fun j=>if_pos e
  rw[e1,←hs]
  exact sumR_congr fun j _=>by rw[e1,Rat.one_mul]
 ·have e1:sM P l i l.length=0:=by
   show (if i=l.length - 1 then _ else if l.length<l.length then _ else _)=_
   rw[if_neg e,if_neg (Nat.lt_irrefl _)]
  have e2:sumR (fun j=>sM P l i j*x j) l.length=sumR (fun c=>x c*P (l.getD c 0) (l.getD i 0)) l.length - x i:=by
   have e4:=sumR_sub (fun c=>x c*P (l.getD c 0) (l.getD i 0)) (fun j=>(if i=j then 1 else 0)*x j) l.length
   rw[sumR_one x hi] at e4
   rw[←e4]
   refine sumR_congr fun c hcl=>?_
   have e3:sM P l i c=P (l.getD c 0) (l.getD i 0) - (if i=c then 1 else 0):=by
    show (if i=l.length - 1 then _ else if c<l.length then _ else _)=_
    rw[if_neg e,if_pos hcl]
   rw[e3]
   grind
  rw[e1,e2,he i hi]
  grind
def trB (n:Nat) (v:Nat→Rat) (P:Nat→Nat→Rat):Bool:=(List.range n).all fun i=>(List.range i).all fun j=>decide (v i*P i j=v j*P j i)
theorem trB_iff {n:Nat} {v:Nat→Rat} {P:Nat→Nat→Rat}:trB n v P=true↔∀i j,i<n→j<n→v i*P i j=v j*P j i:=by
 rw[trB,List.all_eq_true]
 constructor
 ·intro h
  have low:∀i j,i<n→j<i→v i*P i j=v j*P j i:=fun i j hi hj=>by
   have h1:=h i (List.mem_range.2 hi)
   rw[List.all_eq_true] at h1
   exact of_decide_eq_true (h1 j (List.mem_range.2 hj))
  intro i j hi hj
  rcases Nat.lt_trichotomy i j with h1 |h1 |h1
  ·exact(low j i hj h1).symm
  ·subst h1;rfl
  ·exact low i j hi h1
 ·intro h i hi
  rw[List.all_eq_true]
  intro j hj
  have h1:=List.mem_range.1 hi
  exact decide_eq_true (h i j h1 (Nat.lt_trans (List.mem_range.1 hj) h1))
end Go.Proofs.YtmbjmiioggfneaaGreatDoor

/- Turns of package chain. -/
namespace Go.Proofs.YtmbjmiioggfneaaGreatDoor
open Go.RowKit Go.Shelf
theorem fCmpQ (p q:Rat) (U:World) (hp:qw p≤50000) (hq:qw q≤50000):Calls Tryz.prog 60 #[.agg #[.bool (qF p).1,.string (qF p).2.1,.string (qF p).2.2],.agg #[.bool (qF q).1,.string (qF q).2.1,.string (qF q).2.2]] U fun e w'=>e=.returned (.int .i64 (cmpQ p q))∧Below U.heap.size U w':=
 fCmp_q (cmpQ p q) (val_own p) (val_own q) rfl (by show (nu p).size+(de p).size≤_;rw[own_size];omega) (by show (nu q).size+(de q).size≤_;rw[own_size];omega)
theorem cmpQ_three (p q:Rat):(cmpQ p q= -1∧p≠q)∨(cmpQ p q=0∧p=q)∨(cmpQ p q=1∧p≠q):=by
 rcases (by by_cases h1:p<q;exact .inl h1;by_cases h2:p=q;exact .inr (.inl h2);exact .inr (.inr (by grind)):p<q∨p=q∨q<p) with h |h |h
 ·exact .inl ⟨if_pos h,fun e=>Rat.lt_irrefl (e▸h)⟩
 ·exact .inr (.inl ⟨by rw[cmpQ,if_neg (by grind),if_pos h],h⟩)
 ·exact .inr (.inr ⟨by rw[cmpQ,if_neg (by grind),if_neg (by grind)],fun e=>Rat.lt_irrefl (e▸h)⟩)
theorem fMulR (p:Rat) (f:Fr) (U:World) (hp:qw p≤50000) (hq:fz f≤50000):Calls Tryz.prog 61 #[.agg #[.bool (qF p).1,.string (qF p).2.1,.string (qF p).2.2],.agg #[.bool f.1,.string f.2.1,.string f.2.2]] U fun e w'=>e=.returned (.agg #[.bool (qF (p*frQ f)).1,.string (qF (p*frQ f)).2.1,.string (qF (p*frQ f)).2.2])∧Below U.heap.size U w':=
 fMul_q (p*frQ f) (val_own p) rfl rfl (by show (nu p).size+(de p).size≤_;rw[own_size];omega) (Nat.le_trans hq (by decide))
set_option maxRecDepth 100000 in
set_option maxHeartbeats 4000000 in
theorem chTurns_any (a:Option Addr) (ca n:Nat) (X:Nat→Nat→Fr) (w:World) (hR:FsS w a (mF n X)) (hm:ChX n X):
  Calls Tryz.prog 24 #[.slice a n ca] w fun e w'=>Below w.heap.size w w'∧((∃k,OneC n (rowQ X) k∧e=.returned (.tuple #[.bool (trB n (stQ (rowQ X) (clN n (cmsB n (rowQ X)) k)) (rowQ X)),.int .i64 0]))∨(true∈(clB n (rowQ X)).drop (fstT (clB n (rowQ X))+1)∧e=.returned (.tuple #[.bool false,.int .i64 13]))):=by
 have h1:=hm.one
 have h5:=hm.five
 have HST:=hid (chStill_any a ca n X w hR hm)
 have HCM:=hid hm
 have HR:=hid hR
 clear hR hm
 go_enter Tryz.func24,Tryz.ntmps24
 go_wp2_with fail
 refine HST.out.mono ?_
 rintro e1 W ⟨hbW,h9⟩
 have HBW:=hid hbW
 clear hbW HST
 rcases h9 with ⟨k0,G,hone,rfl,hG,hrow⟩ |⟨hmany,rfl⟩
 ·have HONE:=hid hone
  have HFV:=hid (stQ_fit hone.cls HCM.out)
  obtain⟨v,hv⟩:∃v,stQ (rowQ X) (clN n (cmsB n (rowQ X)) k0)=v:=⟨_,rfl⟩
  rw[hv] at hrow HFV
  have HV:=hid hv
  have HRW:=hid hrow
  have HRF:=hid (HR.out.below HBW.out)
  have hGl:=hrow.lt
  clear hv hrow hone
  go_wp2_with fail
  go_loopw [18] (fun iv wr=>∃i:Nat,i≤n∧iv=.int .i64 i∧Hid (∀s t,s<i→t<s→v s*(rowQ X) s t=v t*(rowQ X) t s)∧Hid (Below W.heap.size W wr)) (fun iv _=>n - (intOf iv).toNat)
  case atStart=>exact⟨0,Nat.zero_le _,rfl,fun s t hs=>absurd hs (by omega),Below.refl _ _⟩
  case round=>
   obtain⟨i,hi,rfl,HI,HB⟩:=hrel
   by_cases hlt:i<n
   ·have HJ0:Hid (∀t,t<0→v i*(rowQ X) i t=v t*(rowQ X) t i):=fun t ht=>absurd ht (by omega)
    go_wp2_with fail
    go_loopw [22] (fun jv wr=>∃j:Nat,j≤i∧jv=.int .i64 j∧Hid (∀t,t<j→v i*(rowQ X) i t=v t*(rowQ X) t i)∧Hid (Below W.heap.size W wr)) (fun jv _=>i - (intOf jv).toNat)
    case atStart=>exact⟨0,Nat.zero_le _,rfl,HJ0,HB⟩
    case round=>
     clear HJ0 HB
     obtain⟨j,hj,rfl,HJ,HB⟩:=hrel
     by_cases hlj:j<i
     ·have hjn:j<n:=by omega
      obtain⟨g,o,gi,oi,ci,hae,hg,hgi,x0,x1,x2,x3⟩:=(HRF.out.below HB.out).at hlt hjn
      subst hae
      obtain⟨g',o',gj,oj,cj,hae,hg',hgj,y0,y1,y2,y3⟩:=(HRF.out.below HB.out).at hjn hlt
      cases hae
      have hrw:=HRW.out.below HB.out hGl
      have hGw:=hrw.lt
      obtain⟨z0,z1,z2⟩:=hrw.cells i (by rw[lF_length];exact hlt)
      obtain⟨t0,t1,t2⟩:=hrw.cells j (by rw[lF_length];exact hjn)
      simp only[lF_get] at z0 z1 z2 t0 t1 t2
      have q1:=HFV.out i
      have q2:=HFV.out j
      have q3:=HCM.out.fit hlt hjn
      have r3:=HCM.out.few i j hlt hjn
      have q4:=HCM.out.fit hjn hlt
      have r4:=HCM.out.few j i hjn hlt
      have HM1:Hid (∀U:World,Calls Tryz.prog 61 #[.agg #[.bool (qF (v i)).1,.string (qF (v i)).2.1,.string (qF (v i)).2.2],.agg #[.bool (X i j).1,.string (X i j).2.1,.string (X i j).2.2]] U fun e w'=>e=.returned (.agg #[.bool (qF (v i*rowQ X i j)).1,.string (qF (v i*rowQ X i j)).2.1,.string (qF (v i*rowQ X i j)).2.2])∧Below U.heap.size U w'):=fun U=>fMulR (v i) (X i j) U (by have:=fits_qw q1;omega) (by omega)
      have HM2:Hid (∀U:World,Calls Tryz.prog 61 #[.agg #[.bool (qF (v j)).1,.string (qF (v j)).2.1,.string (qF (v j)).2.2],.agg #[.bool (X j i).1,.string (X j i).2.1,.string (X j i).2.2]] U fun e w'=>e=.returned (.agg #[.bool (qF (v j*rowQ X j i)).1,.string (qF (v j*rowQ X j i)).2.1,.string (qF (v j*rowQ X j i)).2.2])∧Below U.heap.size U w'):=fun U=>fMulR (v j) (X j i) U (by have:=fits_qw q2;omega) (by omega)
      have HCP:=hid (fun U:World=>fCmpQ (v i*(rowQ X) i j) (v j*(rowQ X) j i) U (by have:=fits_qw (fits_tim q1 q3);omega) (by have:=fits_qw (fits_tim q2 q4);omega))
      have HTH:=hid (cmpQ_three (v i*(rowQ X) i j) (v j*(rowQ X) j i))
      clear q1 q2 q3 q4 r3 r4 hrw
      generalize cmpQ (v i*(rowQ X) i j) (v j*(rowQ X) j i)=cv at *
      generalize qF (v i*(rowQ X) i j)=m1 at *
      generalize qF (v j*(rowQ X) j i)=m2 at *
      obtain⟨en,ex,ey⟩:=m1
      obtain⟨fn,fx,fy⟩:=m2
      generalize qF (v i)=k1 at *
      generalize X i j=k2 at *
      generalize qF (v j)=k3 at *
      generalize X j i=k4 at *
      obtain⟨an,ax,ay⟩:=k1
      obtain⟨bn,bx,by_⟩:=k2
      obtain⟨cn,cx,cy⟩:=k3
      obtain⟨dn,dx,dy⟩:=k4
      simp only at x1 x2 x3 y1 y2 y3 z0 z1 z2 t0 t1 t2 HM1 HM2 HCP
      go_upto_region 10 with fail
      have HELD:Hid (∀u,Below wr.heap.size wr u→u.cell? ⟨G,i*3,none⟩=some (.bool an)∧u.cell? ⟨G,i*3+1,none⟩=some (.string ax)∧u.cell? ⟨G,i*3+2,none⟩=some (.string ay)∧u.cell? ⟨g,o+i,none⟩=some (.slice (some ⟨gi,oi,none⟩) n ci)∧u.cell? ⟨gi,oi+j*3,none⟩=some (.bool bn)∧u.cell? ⟨gi,oi+j*3+1,none⟩=some (.string bx)∧u.cell? ⟨gi,oi+j*3+2,none⟩=some (.string by_)∧u.cell? ⟨G,j*3,none⟩=some (.bool cn)∧u.cell? ⟨G,j*3+1,none⟩=some (.string cx)∧u.cell? ⟨G,j*3+2,none⟩=some (.string cy)∧u.cell? ⟨g,o+j,none⟩=some (.slice (some ⟨gj,oj,none⟩) n cj)∧u.cell? ⟨gj,oj+i*3,none⟩=some (.bool dn)∧u.cell? ⟨gj,oj+i*3+1,none⟩=some (.string dx)∧u.cell? ⟨gj,oj+i*3+2,none⟩=some (.string dy)):=fun u h=>⟨(h.cell (p:=⟨G,_,none⟩) hGw).trans z0,(h.cell (p:=⟨G,_,none⟩) hGw).trans z1,(h.cell (p:=⟨G,_,none⟩) hGw).trans z2,(h.cell (p:=⟨g,_,none⟩) hg).trans x0,(h.cell (p:=⟨gi,_,none⟩) hgi).trans x1,(h.cell (p:=⟨gi,_,none⟩) hgi).trans x2,(h.cell (p:=⟨gi,_,none⟩) hgi).trans x3,(h.cell (p:=⟨G,_,none⟩) hGw).trans t0,(h.cell (p:=⟨G,_,none⟩) hGw).trans t1,(h.cell (p:=⟨G,_,none⟩) hGw).trans t2,(h.cell (p:=⟨g,_,none⟩) hg).trans y0,(h.cell (p:=⟨gj,_,none⟩) hgj).trans y1,(h.cell (p:=⟨gj,_,none⟩) hgj).trans y2,(h.cell (p:=⟨gj,_,none⟩) hgj).trans y3⟩
      have HU:Hid (Below wr.heap.size wr wr.drew):=(Below.refl _ _).drew
      clear x0 x1 x2 x3 y0 y1 y2 y3 z0 z1 z2 t0 t1 t2
      refine wp_region_held_drew (S:=fun u=>u.cell? ⟨G,i*3,none⟩=some (.bool an)∧u.cell? ⟨G,i*3+1,none⟩=some (.string ax)∧u.cell? ⟨G,i*3+2,none⟩=some (.string ay)∧u.cell? ⟨g,o+i,none⟩=some (.slice (some ⟨gi,oi,none⟩) n ci)∧u.cell? ⟨gi,oi+j*3,none⟩=some (.bool bn)∧u.cell? ⟨gi,oi+j*3+1,none⟩=some (.string bx)∧u.cell? ⟨gi,oi+j*3+2,none⟩=some (.string by_)∧u.cell? ⟨G,j*3,none⟩=some (.bool cn)∧u.cell? ⟨G,j*3+1,none⟩=some (.string cx)∧u.cell? ⟨G,j*3+2,none⟩=some (.string cy)∧u.cell? ⟨g,o+j,none⟩=some (.slice (some ⟨gj,oj,none⟩) n cj)∧u.cell? ⟨gj,oj+i*3,none⟩=some (.bool dn)∧u.cell? ⟨gj,oj+i*3+1,none⟩=some (.string dx)∧u.cell? ⟨gj,oj+i*3+2,none⟩=some (.string dy)) (by kernel_rfl) (HELD.out _ HU.out) (fun hSd=>?_)
      generalize wr.drew=u0 at *
      refine tkB 0 (.slice (some ⟨G,0,none⟩) n n) ?_
      try simp only[gE,aP]
      refine tkB 1 (.int .i64 (i:Nat)) ?_
      try simp only[gE,aP]
      refine tkB 2 (.pointer (some ⟨G,i*3,none⟩)) ?_
      try simp only[gE,aP]
      refine tkA 3 (.agg #[.bool an,.string ax,.string ay]) ?_ ?_
      ·intro u' hSu
       obtain⟨s0,s1,s2,s3,s4,s5,s6,s7,s8,s9,s10,s11,s12,s13⟩:=hSu
       go_simp
      try simp only[gE,aP]
      refine tkB 4 (.slice (some ⟨g,o,none⟩) n ca) ?_
      try simp only[gE,aP]
      refine tkB 5 (.int .i64 (i:Nat)) ?_
      try simp only[gE,aP]
      refine tkB 6 (.pointer (some ⟨g,o+i,none⟩)) ?_
      try simp only[gE,aP]
      refine tkA 7 (.slice (some ⟨gi,oi,none⟩) n ci) ?_ ?_
      ·intro u' hSu
       obtain⟨s0,s1,s2,s3,s4,s5,s6,s7,s8,s9,s10,s11,s12,s13⟩:=hSu
       go_simp
      try simp only[gE,aP]
      refine tkB 8 (.int .i64 (j:Nat)) ?_
      try simp only[gE,aP]
      refine tkB 9 (.pointer (some ⟨gi,oi+j*3,none⟩)) ?_
      try simp only[gE,aP]
      refine tkA 10 (.agg #[.bool bn,.string bx,.string by_]) ?_ ?_
      ·intro u' hSu
       obtain⟨s0,s1,s2,s3,s4,s5,s6,s7,s8,s9,s10,s11,s12,s13⟩:=hSu
       go_simp
      try simp only[gE,aP]
      refine tkB 12 (.slice (some ⟨G,0,none⟩) n n) ?_
      try simp only[gE,aP]
      refine tkB 13 (.int .i64 (j:Nat)) ?_
      try simp only[gE,aP]
      refine tkB 14 (.pointer (some ⟨G,j*3,none⟩)) ?_
      try simp only[gE,aP]
      refine tkA 15 (.agg #[.bool cn,.string cx,.string cy]) ?_ ?_
      ·intro u' hSu
       obtain⟨s0,s1,s2,s3,s4,s5,s6,s7,s8,s9,s10,s11,s12,s13⟩:=hSu
       go_simp
      try simp only[gE,aP]
      refine tkB 16 (.slice (some ⟨g,o,none⟩) n ca) ?_
      try simp only[gE,aP]
      refine tkB 17 (.int .i64 (j:Nat)) ?_
      try simp only[gE,aP]
      refine tkB 18 (.pointer (some ⟨g,o+j,none⟩)) ?_
      try simp only[gE,aP]
      refine tkA 19 (.slice (some ⟨gj,oj,none⟩) n cj) ?_ ?_
      ·intro u' hSu
       obtain⟨s0,s1,s2,s3,s4,s5,s6,s7,s8,s9,s10,s11,s12,s13⟩:=hSu
       go_simp
      try simp only[gE,aP]
      refine tkB 20 (.int .i64 (i:Nat)) ?_
      try simp only[gE,aP]
      refine tkB 21 (.pointer (some ⟨gj,oj+i*3,none⟩)) ?_
      try simp only[gE,aP]
      refine tkA 22 (.agg #[.bool dn,.string dx,.string dy]) ?_ ?_
      ·intro u' hSu
       obtain⟨s0,s1,s2,s3,s4,s5,s6,s7,s8,s9,s10,s11,s12,s13⟩:=hSu
       go_simp
      try simp only[gE,aP]
      refine rdA [11] (cA ?_ AllReadyH.nil)
      ·intro K' hK'
       go_simp
       refine(HM1.out _).mono ?_
       rintro e u1 ⟨rfl,hb⟩
       replace HU:=hid (HU.out.trans (hb.mono HU.out.size))
       refine hK'.out _ _ (HELD.out _ HU.out) (fun hSe=>?_)
       clear hK' K' hSd hb
       have hSd:=hSe
       clear hSe
       try simp only[gE,aP]
       refine rdA [23] (cA ?_ AllReadyH.nil)
       ·intro K' hK'
        go_simp
        refine(HM2.out _).mono ?_
        rintro e u2 ⟨rfl,hb⟩
        replace HU:=hid (HU.out.trans (hb.mono HU.out.size))
        refine hK'.out _ _ (HELD.out _ HU.out) (fun hSe=>?_)
        clear hK' K' hSd hb
        have hSd:=hSe
        clear hSe
        try simp only[gE,aP]
        refine rdA [24] (cA ?_ AllReadyH.nil)
        ·intro K' hK'
         go_simp
         refine(HCP.out _).mono ?_
         rintro e u3 ⟨rfl,hb⟩
         replace HU:=hid (HU.out.trans (hb.mono HU.out.size))
         refine hK'.out _ _ (HELD.out _ HU.out) (fun hSe=>?_)
         clear hK' K' hSd hb
         have hSd:=hSe
         clear hSe
         try simp only[gE,aP]
         rcases HTH.out with ⟨rfl,h9⟩ |⟨rfl,h9⟩ |⟨rfl,h9⟩
         ·have HNE:=hid h9
          clear h9
          refine tkB 25 (.bool true) ?_
          try simp only[gE,aP]
          refine wpAnyH_done (by kernel_rfl) ?_ _
          clear hSd
          have HBN:=hid (HB.out.trans (HU.out.mono HB.out.size))
          have HE9:Hid (trB n v (rowQ X)=false):=by
           cases q:trB n v (rowQ X) with
           |false=>rfl
           |true=>exact absurd (trB_iff.1 q i j hlt (by omega)) HNE.out
          go_wp2
          go_ret2
          exact⟨HBW.out.trans (HBN.out.mono HBW.out.size),.inl ⟨k0,HONE.out,by rw[HV.out,HE9.out];try rfl⟩⟩
         ·have HEQ:=hid h9
          clear h9
          refine tkB 25 (.bool false) ?_
          try simp only[gE,aP]
          refine wpAnyH_done (by kernel_rfl) ?_ _
          clear hSd
          have HBN:=hid (HB.out.trans (HU.out.mono HB.out.size))
          have HJN:Hid (∀t,t<j+1→v i*(rowQ X) i t=v t*(rowQ X) t i):=fun t ht=>by
           rcases Nat.lt_succ_iff_lt_or_eq.1 ht with h |h
           ·exact HJ.out t h
           ·subst h;exact HEQ.out
          go_wp2
          go_roundw
          case rel=>exact⟨j+1,by omega,by go_num,HJN,HBN⟩
          case measure=>simp[intOf];omega
         ·have HNE:=hid h9
          clear h9
          refine tkB 25 (.bool true) ?_
          try simp only[gE,aP]
          refine wpAnyH_done (by kernel_rfl) ?_ _
          clear hSd
          have HBN:=hid (HB.out.trans (HU.out.mono HB.out.size))
          have HE9:Hid (trB n v (rowQ X)=false):=by
           cases q:trB n v (rowQ X) with
           |false=>rfl
           |true=>exact absurd (trB_iff.1 q i j hlt (by omega)) HNE.out
          go_wp2
          go_ret2
          exact⟨HBW.out.trans (HBN.out.mono HBW.out.size),.inl ⟨k0,HONE.out,by rw[HV.out,HE9.out];try rfl⟩⟩
     ·obtain rfl:i=j:=by omega
      have HIN:Hid (∀s t,s<i+1→t<s→v s*(rowQ X) s t=v t*(rowQ X) t s):=fun s t hs ht=>by
       rcases Nat.lt_succ_iff_lt_or_eq.1 hs with h |h
       ·exact HI.out s t h ht
       ·subst h;exact HJ.out t ht
      go_wp2
      go_roundw
      case rel=>exact⟨i+1,by omega,by go_num,HIN,HB⟩
      case measure=>simp[intOf];omega
   ·obtain rfl:n=i:=by omega
    have HE9:Hid (trB n v (rowQ X)=true):=trB_iff.2 fun s t hs ht=>by
     rcases Nat.lt_trichotomy s t with h |h |h
     ·exact(HI.out t s ht h).symm
     ·subst h;rfl
     ·exact HI.out s t hs h
    go_wp2
    go_ret2
    exact⟨HBW.out.trans (HB.out.mono HBW.out.size),.inl ⟨k0,HONE.out,by rw[HV.out,HE9.out];try rfl⟩⟩
 ·have HMY:=hid hmany
  clear hmany
  go_wp2
  go_ret2
  exact⟨HBW.out,.inr ⟨HMY.out,rfl⟩⟩
end Go.Proofs.YtmbjmiioggfneaaGreatDoor

/- The law's comes: all states that are come to from one. -/
namespace Go.Proofs.YtmbjmiioggfneaaGreatDoor
open Go.RowKit Go.Shelf
theorem rMulQ (p q:Rat) (U:World) (hp:qw p≤50000) (hq:qw q≤50000):Calls Tryz.prog 59 #[.agg #[.bool (qF p).1,.string (qF p).2.1,.string (qF p).2.2],.agg #[.bool (qF q).1,.string (qF q).2.1,.string (qF q).2.2]] U fun e w'=>e=.returned (.agg #[.bool (qF (p*q)).1,.string (qF (p*q)).2.1,.string (qF (p*q)).2.2])∧Below U.heap.size U w':=by
 have h:=rMulF_any (sgn p) (sgn q) (nu p) (de p) (nu q) (de q) U (by rw[own_size];exact hp) (by rw[own_size];exact hq)
 rw[val_own,val_own] at h
 exact h
theorem rAddQ (p q:Rat) (U:World) (hp:qw p≤50000) (hq:qw q≤50000):Calls Tryz.prog 55 #[.agg #[.bool (qF p).1,.string (qF p).2.1,.string (qF p).2.2],.agg #[.bool (qF q).1,.string (qF q).2.1,.string (qF q).2.2]] U fun e w'=>e=.returned (.agg #[.bool (qF (p+q)).1,.string (qF (p+q)).2.1,.string (qF (p+q)).2.2])∧Below U.heap.size U w':=by
 have h:=rAddF_any (sgn p) (sgn q) (nu p) (de p) (nu q) (de q) U (by rw[own_size];exact hp) (by rw[own_size];exact hq)
 rw[val_own,val_own] at h
 exact h
structure BfS (n:Nat) (P:Nat→Nat→Rat) (i:Nat) (S:List Nat) (L:List Nat) (k j:Nat):Prop where
 nd:L.Nodup
 lt:∀x∈L,x<n
 cm:∀x∈L,cmsB n P i x=true
 me:i∈L
 hd:L.head? =some i
 off:∀t (h:t<L.length),t<k→L[t]∉S
 shut:∀t (h:t<L.length),t<k→∀y,y<n→0<P L[t] y→y∈L
 cur:∀(h:k<L.length) (y:Nat),y<j→y<n→0<P L[k] y→y∈L
theorem BfS.start {n:Nat} {P:Nat→Nat→Rat} {i:Nat} (S:List Nat) (hi:i<n):BfS n P i S [i] 0 0:=⟨by simp,fun x hx=>by rw[List.mem_singleton.1 hx];exact hi,fun x hx=>by rw[List.mem_singleton.1 hx];exact cms_self _ _ _,List.mem_singleton.2 rfl,rfl,fun t _ h=>absurd h (by omega),fun t _ h=>absurd h (by omega),fun _ y h=>absurd h (by omega)⟩
theorem BfS.push {n:Nat} {P:Nat→Nat→Rat} {i:Nat} {S L:List Nat} {k j:Nat} (h:BfS n P i S L k j) (hk:k<L.length) (hj:j<n) (hp:0<P L[k] j) (hn:j∉L):BfS n P i S (L++[j]) k (j+1):=by
 refine⟨?_,fun x hx=>?_,fun x hx=>?_,List.mem_append_left _ h.me,by rw[List.head?_append,h.hd];rfl,fun t ht htk=>?_,fun t ht htk y hy hpy=>?_,fun hk' y hy hyn hpy=>?_⟩
 ·rw[List.nodup_append]
  exact⟨h.nd,by simp,fun x hx y hy e=>hn (by rw[←List.mem_singleton.1 hy,←e];exact hx)⟩
 ·rcases List.mem_append.1 hx with hx |hx
  ·exact h.lt x hx
  ·rw[List.mem_singleton.1 hx];exact hj
 ·rcases List.mem_append.1 hx with hx |hx
  ·exact h.cm x hx
  ·rw[List.mem_singleton.1 hx]
   exact cms_trans (h.lt _ (List.getElem_mem hk)) (h.cm _ (List.getElem_mem hk)) (cms_step n P hp)
 ·rw[List.getElem_append_left (by omega)]
  exact h.off t (by omega) htk
 ·rw[List.getElem_append_left (by omega)] at hpy
  exact List.mem_append_left _ (h.shut t (by omega) htk y hy hpy)
 ·rw[List.getElem_append_left hk] at hpy
  by_cases e:y=j
  ·subst e;exact List.mem_append_right _ (List.mem_singleton.2 rfl)
  ·exact List.mem_append_left _ (h.cur hk y (by omega) hyn hpy)
theorem BfS.pass {n:Nat} {P:Nat→Nat→Rat} {i:Nat} {S L:List Nat} {k j:Nat} (h:BfS n P i S L k j) (hn:∀(hk:k<L.length),0<P L[k] j→j∈L):BfS n P i S L k (j+1):=⟨h.nd,h.lt,h.cm,h.me,h.hd,h.off,h.shut,fun hk y hy hyn hp=>by
 by_cases e:y=j
 ·subst e;exact hn hk hp
 ·exact h.cur hk y (by omega) hyn hp⟩
theorem BfS.next {n:Nat} {P:Nat→Nat→Rat} {i:Nat} {S L:List Nat} {k:Nat} (h:BfS n P i S L k n) (hk:k<L.length) (hs:L[k]∉S):BfS n P i S L (k+1) 0:=⟨h.nd,h.lt,h.cm,h.me,h.hd,fun t ht htk=>by
 by_cases e:t=k
 ·subst e;exact hs
 ·exact h.off t ht (by omega),fun t ht htk y hy hp=>by
 by_cases e:t=k
 ·subst e;exact h.cur hk y hy hy hp
 ·exact h.shut t ht (by omega) y hy hp,fun _ y hy=>absurd hy (by omega)⟩
theorem inB_chn (x:Nat) (L:List Nat):inB (x:Int) (iL L)=decide (x∈L):=(inB_iL L (by omega)).trans (by simp)
end Go.Proofs.YtmbjmiioggfneaaGreatDoor

/- The answer's comes: all states that are come to from one. -/
namespace Go.Proofs.YtmbjmiioggfneaaGreatDoor
open Go.RowKit Go.Shelf
structure CmL (n:Nat) (P:Nat→Nat→Rat) (i:Nat) (L:List Nat):Prop where
 nd:L.Nodup
 all:∀x,x∈L↔x<n∧cmsB n P i x=true
 hd:L.head? =some i
theorem BfS.done {n:Nat} {P:Nat→Nat→Rat} {i:Nat} {S L:List Nat} (h:BfS n P i S L L.length 0) (hi:i<n):CmL n P i L:=
 ⟨h.nd,fun x=>⟨fun hx=>⟨h.lt x hx,h.cm x hx⟩,fun ⟨hx,hc⟩=>cms_shut (S:=fun y=>y∈L) (fun a b _ hb ha hp=>by
  obtain⟨t,ht,e⟩:=List.mem_iff_getElem.1 ha
  exact h.shut t ht ht b hb (by rw[e];exact hp)) hi hx h.me hc⟩,h.hd⟩
theorem rCmpR (f:Fr) (q:Rat) (U:World) (hp:fz f≤50000) (hq:qw q≤50000):Calls Tryz.prog 75 #[.agg #[.bool f.1,.string f.2.1,.string f.2.2],.agg #[.bool (qF q).1,.string (qF q).2.1,.string (qF q).2.2]] U fun e w'=>e=.returned (.int .i64 (cmpQ (frQ f) q))∧Below U.heap.size U w':=by
 have h:=rCmpF_any f.1 (sgn q) f.2.1 f.2.2 (nu q) (de q) U hp (by rw[own_size];exact hq)
 rw[val_own] at h
 exact h
set_option maxRecDepth 100000 in
set_option maxHeartbeats 4000000 in
theorem rComes_any (a:Option Addr) (ca n i:Nat) (X:Nat→Nat→Fr) (w:World) (hR:FsS w a (mF n X)) (hm:ChX n X) (hi:i<n):
  Calls Tryz.prog 38 #[.slice a n ca,.int .i64 (i:Nat)] w fun e w'=>∃v L,e=.returned v∧RwI w' w.heap.size v (iL L)∧CmL n (rowQ X) i L∧Below w.heap.size w w':=by
 have h5:=hm.five
 have HR:=hid hR
 have HFEW:=hid hm.few
 have HO0:=hid (fun V:World=>rOf_zero V)
 clear hR hm
 have HI0:Hid (RwI (w.alloc (.cells #[.int .i64 (i:Nat)] 3)) w.heap.size (.slice (some ⟨w.heap.size,0,none⟩) 1 1) (iL [i])):=World.ownsRow_lit w #[.int .i64 (i:Nat)] 1 (Nat.le_refl _) (by decide) rfl
 have HB0:=hid ((Below.refl w.heap.size w).alloc (Nat.le_refl _) (.cells #[.int .i64 (i:Nat)] 3))
 go_enter Tryz.func38,Tryz.ntmps38
 go_wp2_with fail
 generalize (w.alloc (.cells #[.int .i64 (i:Nat)] 3))=w1 at *
 go_loopw [5,6] (fun lv kv wr=>∃(k:Nat) (L:List Nat),kv=.int .i64 k∧k≤L.length∧Hid (BfS n (rowQ X) i [] L k 0)∧Hid (RwI wr w.heap.size lv (iL L))∧Hid (Below w.heap.size w wr)) (fun _ kv _=>n - (intOf kv).toNat)
 case atStart=>exact⟨0,[i],rfl,Nat.zero_le _,BfS.start [] hi,HI0,HB0⟩
 case round=>
  obtain⟨k,L,rfl,hkl,HF,HRI,HB⟩:=hrel
  clear HI0 HB0
  obtain⟨dl,cl,rfl,hii⟩:=RwI.ints HRI.out
  rw[iL_length] at HRI⊢
  by_cases hkL:k<L.length
  ·have hlkn:=HF.out.lt _ (List.getElem_mem hkL)
   have hLn:=nod_most HF.out.nd HF.out.lt
   obtain⟨lk,hlk⟩:∃x,L[k]=x:=⟨_,rfl⟩
   rw[hlk] at hlkn
   have HLQ0:Hid (L[k]? =some lk):=by show _=_;rw[List.getElem?_eq_getElem hkL,hlk]
   clear hlk hii
   go_wp2_with fail
   go_loopw [5,7] (fun lv jv wr=>∃(j:Nat) (L:List Nat),j≤n∧jv=.int .i64 j∧Hid (BfS n (rowQ X) i [] L k j)∧Hid (L[k]? =some lk)∧Hid (RwI wr w.heap.size lv (iL L))∧Hid (Below w.heap.size w wr)) (fun _ jv _=>n - (intOf jv).toNat)
   case atStart=>exact⟨0,L,Nat.zero_le _,rfl,HF,HLQ0,HRI,HB⟩
   case round=>
    clear HF HRI HB hkL hLn hkl HLQ0
    obtain⟨j,L,hj,rfl,HF,HLL,HRI,HB⟩:=hrel
    obtain⟨hkL,hLKe⟩:=List.getElem?_eq_some_iff.1 HLL.out
    obtain⟨dl,cl,rfl,hii⟩:=RwI.ints HRI.out
    rw[iL_length] at HRI⊢
    have hLn:=nod_most HF.out.nd HF.out.lt
    have HLK:=hid hLKe
    by_cases hlj:j<n
    ·have hki:k<(iL L).length:=by rw[iL_length];exact hkL
     obtain⟨gl,ol,rfl,hgl,c0⟩:=hii k hki
     rw[iL_get hkL,hLKe] at c0
     obtain⟨g,o,gr,or_,cr,hae,hg,hgr,x0,x1,x2,x3⟩:=(HR.out.below HB.out).at hlkn hlj
     subst hae
     have hpl:fz (X lk j)≤50000:=Nat.le_trans (HFEW.out lk j hlkn hlj) (by decide)
     have HCM:Hid (∀U:World,Calls Tryz.prog 75 #[.agg #[.bool (X lk j).1,.string (X lk j).2.1,.string (X lk j).2.2],.agg #[.bool (sgn 0),.string (nu 0),.string (de 0)]] U fun e w'=>e=.returned (.int .i64 (cmpQ ((rowQ X) lk j) 0))∧Below U.heap.size U w'):=fun U=>rCmpR (X lk j) 0 U hpl (by have:=qw_zero;omega)
     have HIN:Hid (∀U:World,Below wr.heap.size wr U→Calls Tryz.prog 39 #[.int .i64 (j:Nat),.slice (some ⟨gl,ol,none⟩) L.length cl] U fun e w'=>e=.returned (.bool (decide (j∈L)))∧w'=U):=fun U hU=>by
      have h:=rIn_any ((j:Nat):Int) (some ⟨gl,ol,none⟩) cl (iL L) U (hii.below hU) (by rw[iL_length];omega)
      rw[inB_chn,iL_length] at h
      exact h
     have HPOS:=hid (cmpQ_pos (p:=(rowQ X) lk j) (q:=0))
     have HCV3:Hid (cmpQ ((rowQ X) lk j) 0= -1∨cmpQ ((rowQ X) lk j) 0=0∨cmpQ ((rowQ X) lk j) 0=1):=by
      rcases cmpQ_three ((rowQ X) lk j) 0 with ⟨h, -⟩ |⟨h, -⟩ |⟨h, -⟩
      ·exact .inl h
      ·exact .inr (.inl h)
      ·exact .inr (.inr h)
     clear hpl
     generalize cmpQ ((rowQ X) lk j) 0=cv at *
     generalize hzz:X lk j=zz at *
     obtain⟨an,ax,ay⟩:=zz
     simp only at x1 x2 x3 HCM
     obtain⟨iv,hiv⟩:∃b,decide (j∈L)=b:=⟨_,rfl⟩
     have HIV:=hid hiv
     rw[hiv] at HIN
     clear hiv hii hzz hLKe
     obtain⟨m,hme⟩:∃m,L.length=m:=⟨_,rfl⟩
     have HME:=hid hme
     rw[hme] at hLn
     simp only[hme] at HIN HRI⊢
     clear hme
     have hkm:k<m:=by rw[←HME.out];exact hkL
     generalize sgn 0=zn at *
     generalize nu 0=zx at *
     generalize de 0=zy at *
     go_upto_region 8 with fail
     have HELD:Hid (∀u,Below wr.heap.size wr u→u.cell? ⟨gl,ol+k,none⟩=some (.int .i64 (lk:Nat))∧u.cell? ⟨g,o+lk,none⟩=some (.slice (some ⟨gr,or_,none⟩) n cr)∧u.cell? ⟨gr,or_+j*3,none⟩=some (.bool an)∧u.cell? ⟨gr,or_+j*3+1,none⟩=some (.string ax)∧u.cell? ⟨gr,or_+j*3+2,none⟩=some (.string ay)):=fun u h=>⟨(h.cell (p:=⟨gl,_,none⟩) hgl).trans c0,(h.cell (p:=⟨g,_,none⟩) hg).trans x0,(h.cell (p:=⟨gr,_,none⟩) hgr).trans x1,(h.cell (p:=⟨gr,_,none⟩) hgr).trans x2,(h.cell (p:=⟨gr,_,none⟩) hgr).trans x3⟩
     have HU:Hid (Below wr.heap.size wr wr.drew):=(Below.refl _ _).drew
     clear c0 x0 x1 x2 x3
     refine wp_region_held_drew (S:=fun u=>u.cell? ⟨gl,ol+k,none⟩=some (.int .i64 (lk:Nat))∧u.cell? ⟨g,o+lk,none⟩=some (.slice (some ⟨gr,or_,none⟩) n cr)∧u.cell? ⟨gr,or_+j*3,none⟩=some (.bool an)∧u.cell? ⟨gr,or_+j*3+1,none⟩=some (.string ax)∧u.cell? ⟨gr,or_+j*3+2,none⟩=some (.string ay)) (by kernel_rfl) (HELD.out _ HU.out) (fun hSd=>?_)
     generalize wr.drew=u0 at *
     refine wpAnyH_take (i:=0) (oi:=_) (v:=.slice (some ⟨g,o,none⟩) n ca) rfl (by kernel_rfl) (by kernel_rfl) (by kernel_rfl) (fun _ _ _ h=>h) (Or.inl ⟨by rfl,?_⟩) (by assumption) ?_
     ·intro u' hSu
      (try simp only[List.getElem_toArray,List.getElem_cons_zero])
      go_simp
     (try simp only[List.getElem_toArray,List.getElem_cons_zero])
     (try simp only[Act.put,List.setIfInBounds_toArray,List.set_cons_zero,List.set_cons_succ])
     refine wpAnyH_take (i:=1) (oi:=_) (v:=.slice (some ⟨gl,ol,none⟩) m cl) rfl (by kernel_rfl) (by kernel_rfl) (by kernel_rfl) (fun _ _ _ h=>h) (Or.inl ⟨by rfl,?_⟩) (by assumption) ?_
     ·intro u' hSu
      (try simp only[List.getElem_toArray,List.getElem_cons_zero,List.getElem_cons_succ])
      go_simp
     (try simp only[List.getElem_toArray,List.getElem_cons_zero,List.getElem_cons_succ])
     (try simp only[Act.put,List.setIfInBounds_toArray,List.set_cons_zero,List.set_cons_succ])
     refine wpAnyH_take (i:=2) (oi:=_) (v:=.int .i64 (k:Nat)) rfl (by kernel_rfl) (by kernel_rfl) (by kernel_rfl) (fun _ _ _ h=>h) (Or.inl ⟨by rfl,?_⟩) (by assumption) ?_
     ·intro u' hSu
      (try simp only[List.getElem_toArray,List.getElem_cons_zero,List.getElem_cons_succ])
      go_simp
     (try simp only[List.getElem_toArray,List.getElem_cons_zero,List.getElem_cons_succ])
     (try simp only[Act.put,List.setIfInBounds_toArray,List.set_cons_zero,List.set_cons_succ])
     refine wpAnyH_take (i:=3) (oi:=_) (v:=.pointer (some ⟨gl,ol+k,none⟩)) rfl (by kernel_rfl) (by kernel_rfl) (by kernel_rfl) (fun _ _ _ h=>h) (Or.inl ⟨by rfl,?_⟩) (by assumption) ?_
     ·intro u' hSu
      (try simp only[List.getElem_toArray,List.getElem_cons_zero,List.getElem_cons_succ])
      go_simp
     (try simp only[List.getElem_toArray,List.getElem_cons_zero,List.getElem_cons_succ])
     (try simp only[Act.put,List.setIfInBounds_toArray,List.set_cons_zero,List.set_cons_succ])
     refine wpAnyH_take (i:=4) (oi:=_) (v:=.int .i64 (lk:Nat)) rfl (by kernel_rfl) (by kernel_rfl) (by kernel_rfl) (fun _ _ _ h=>h) (Or.inl ⟨by rfl,?_⟩) (by assumption) ?_
     ·intro u' hSu
      (try simp only[List.getElem_toArray,List.getElem_cons_zero,List.getElem_cons_succ])
      obtain⟨s0,s1,s2,s3,s4⟩:=hSu
      go_simp
     (try simp only[List.getElem_toArray,List.getElem_cons_zero,List.getElem_cons_succ])
     (try simp only[Act.put,List.setIfInBounds_toArray,List.set_cons_zero,List.set_cons_succ])
     refine wpAnyH_take (i:=5) (oi:=_) (v:=.pointer (some ⟨g,o+lk,none⟩)) rfl (by kernel_rfl) (by kernel_rfl) (by kernel_rfl) (fun _ _ _ h=>h) (Or.inl ⟨by rfl,?_⟩) (by assumption) ?_
     ·intro u' hSu
      (try simp only[List.getElem_toArray,List.getElem_cons_zero,List.getElem_cons_succ])
      go_simp
     (try simp only[List.getElem_toArray,List.getElem_cons_zero,List.getElem_cons_succ])
     (try simp only[Act.put,List.setIfInBounds_toArray,List.set_cons_zero,List.set_cons_succ])
     refine wpAnyH_take (i:=6) (oi:=_) (v:=.slice (some ⟨gr,or_,none⟩) n cr) rfl (by kernel_rfl) (by kernel_rfl) (by kernel_rfl) (fun _ _ _ h=>h) (Or.inl ⟨by rfl,?_⟩) (by assumption) ?_
     ·intro u' hSu
      (try simp only[List.getElem_toArray,List.getElem_cons_zero,List.getElem_cons_succ])
      obtain⟨s0,s1,s2,s3,s4⟩:=hSu
      go_simp
     (try simp only[List.getElem_toArray,List.getElem_cons_zero,List.getElem_cons_succ])
     (try simp only[Act.put,List.setIfInBounds_toArray,List.set_cons_zero,List.set_cons_succ])
     refine wpAnyH_take (i:=7) (oi:=_) (v:=.int .i64 (j:Nat)) rfl (by kernel_rfl) (by kernel_rfl) (by kernel_rfl) (fun _ _ _ h=>h) (Or.inl ⟨by rfl,?_⟩) (by assumption) ?_
     ·intro u' hSu
      (try simp only[List.getElem_toArray,List.getElem_cons_zero,List.getElem_cons_succ])
      go_simp
     (try simp only[List.getElem_toArray,List.getElem_cons_zero,List.getElem_cons_succ])
     (try simp only[Act.put,List.setIfInBounds_toArray,List.set_cons_zero,List.set_cons_succ])
     refine wpAnyH_take (i:=8) (oi:=_) (v:=.pointer (some ⟨gr,or_+j*3,none⟩)) rfl (by kernel_rfl) (by kernel_rfl) (by kernel_rfl) (fun _ _ _ h=>h) (Or.inl ⟨by rfl,?_⟩) (by assumption) ?_
     ·intro u' hSu
      (try simp only[List.getElem_toArray,List.getElem_cons_zero,List.getElem_cons_succ])
      go_simp
     (try simp only[List.getElem_toArray,List.getElem_cons_zero,List.getElem_cons_succ])
     (try simp only[Act.put,List.setIfInBounds_toArray,List.set_cons_zero,List.set_cons_succ])
     refine wpAnyH_take (i:=9) (oi:=_) (v:=.agg #[.bool an,.string ax,.string ay]) rfl (by kernel_rfl) (by kernel_rfl) (by kernel_rfl) (fun _ _ _ h=>h) (Or.inl ⟨by rfl,?_⟩) (by assumption) ?_
     ·intro u' hSu
      (try simp only[List.getElem_toArray,List.getElem_cons_zero,List.getElem_cons_succ])
      obtain⟨s0,s1,s2,s3,s4⟩:=hSu
      go_simp
     (try simp only[List.getElem_toArray,List.getElem_cons_zero,List.getElem_cons_succ])
     (try simp only[Act.put,List.setIfInBounds_toArray,List.set_cons_zero,List.set_cons_succ])
     refine wpAnyH_ready (rs:=[10]) (by kernel_rfl) (by simp) (AllReadyH.cons rfl ?_ (AllReadyH.nil))
     ·intro K' hK'
      (try simp only[List.getElem_toArray,List.getElem_cons_zero,List.getElem_cons_succ])
      go_simp
      refine(HO0.out _).mono ?_
      rintro e u1 ⟨rfl,hb⟩
      replace HU:=hid (HU.out.trans (hb.mono HU.out.size))
      refine hK'.out _ _ (HELD.out _ HU.out) (fun hSe=>?_)
      clear hK' K' hSd hb
      have hSd:=hSe
      clear hSe
      (try simp only[List.getElem_toArray,List.getElem_cons_zero,List.getElem_cons_succ])
      (try simp only[Act.put,List.setIfInBounds_toArray,List.set_cons_zero,List.set_cons_succ])
      refine wpAnyH_ready (rs:=[11]) (by kernel_rfl) (by simp) (AllReadyH.cons rfl ?_ (AllReadyH.nil))
      ·intro K' hK'
       (try simp only[List.getElem_toArray,List.getElem_cons_zero,List.getElem_cons_succ])
       go_simp
       refine(HCM.out _).mono ?_
       rintro e u2 ⟨rfl,hb⟩
       replace HU:=hid (HU.out.trans (hb.mono HU.out.size))
       refine hK'.out _ _ (HELD.out _ HU.out) (fun hSe=>?_)
       clear hK' K' hSd hb
       have hSd:=hSe
       clear hSe
       (try simp only[List.getElem_toArray,List.getElem_cons_zero,List.getElem_cons_succ])
       (try simp only[Act.put,List.setIfInBounds_toArray,List.set_cons_zero,List.set_cons_succ])
       refine wpAnyH_take (i:=12) (oi:=_) (v:=.int .i64 cv) rfl (by kernel_rfl) (by kernel_rfl) (by kernel_rfl) (fun _ _ _ h=>h) (Or.inl ⟨by rfl,?_⟩) (by assumption) ?_
       ·intro u' hSu
        (try simp only[List.getElem_toArray,List.getElem_cons_zero,List.getElem_cons_succ])
        go_simp
       (try simp only[List.getElem_toArray,List.getElem_cons_zero,List.getElem_cons_succ])
       (try simp only[Act.put,List.setIfInBounds_toArray,List.set_cons_zero,List.set_cons_succ])
       refine wpAnyH_done (by kernel_rfl) ?_ _
       clear hSd
       go_wp2_with fail
       refine(HIN.out _ HU.out).mono ?_
       rintro e u3 ⟨rfl,rfl⟩
       rcases HCV3.out with rfl |rfl |rfl
       ·have HFN:=hid (HF.out.pass fun _ hp=>absurd (HPOS.out.2 (by rw[HLK.out] at hp;exact hp)) (by decide))
        have HRN:=hid (HRI.out.below HU.out)
        have HBN:=hid (HB.out.trans (HU.out.mono HB.out.size))
        go_wp2
        go_roundw
        case rel=>exact⟨j+1,L,by omega,by go_num,HFN,HLL,HRN,HBN⟩
        case measure=>simp[intOf];omega
       ·have HFN:=hid (HF.out.pass fun _ hp=>absurd (HPOS.out.2 (by rw[HLK.out] at hp;exact hp)) (by decide))
        have HRN:=hid (HRI.out.below HU.out)
        have HBN:=hid (HB.out.trans (HU.out.mono HB.out.size))
        go_wp2
        go_roundw
        case rel=>exact⟨j+1,L,by omega,by go_num,HFN,HLL,HRN,HBN⟩
        case measure=>simp[intOf];omega
       ·cases iv with
        |true=>
         have HFN:=hid (HF.out.pass fun _ _=>of_decide_eq_true HIV.out)
         have HRN:=hid (HRI.out.below HU.out)
         have HBN:=hid (HB.out.trans (HU.out.mono HB.out.size))
         go_wp2
         go_roundw
         case rel=>exact⟨j+1,L,by omega,by go_num,HFN,HLL,HRN,HBN⟩
         case measure=>simp[intOf];omega
        |false=>
         have HRN:=hid (HRI.out.below HU.out)
         have HBN:=hid (HB.out.trans (HU.out.mono HB.out.size))
         have HFN:=hid (HF.out.push hkL hlj (by rw[HLK.out];exact HPOS.out.1 (by decide)) (of_decide_eq_false HIV.out))
         have HOWN:=hid HRN.out.own
         have HRA:Hid (RwI (u3.alloc (.cells #[.int .i64 (j:Nat)] 3)) w.heap.size _ (iL L)):=World.ownsRow.alloc HRN.out _
         have HBA:=hid (HBN.out.alloc HBN.out.size (.cells #[.int .i64 (j:Nat)] 3))
         have HIA:=hid (new_int u3 (j:Nat))
         have HLA:Hid (iL (L++[j])=iL L++[((j:Nat):Int)]):=by show _=_;rw[iL_append];rfl
         go_wp2_with (at_builtin;refine wpList_append_ints rfl _ _ rfl w.heap.size _ (iL L) [((j:Nat):Int)] rfl HRA.out (some ⟨u3.heap.size,0,none⟩) 1 rfl HIA.out (fun e=>by cases e) (by rw[iL_length,HME.out];simp;omega) HBA.out.size ?_;intro v' w3 hr3 hg3;have HB3:=hid (HBA.out.grown hg3 HBA.out.size HOWN.out);have HR3:Hid (RwI w3 w.heap.size v' (iL (L++[j]))):=(by rw[HLA.out];exact hr3))
         go_roundw
         case rel=>exact⟨j+1,L++[j],by omega,by go_num,HFN,by show _=_;rw[List.getElem?_append_left hkL];exact HLL.out,HR3,HB3⟩
         case measure=>simp[intOf];omega
    ·obtain rfl:n=j:=by omega
     have HFN:=hid (HF.out.next hkL (by simp))
     clear hii hLKe
     go_wp2
     go_roundw
     case rel=>exact⟨k+1,L,by go_num,by omega,HFN,HRI,HB⟩
     case measure=>simp[intOf];omega
  ·obtain rfl:k=L.length:=by omega
   have HDN:=hid (HF.out.done hi)
   go_wp2
   go_ret
   exact⟨_,L,rfl,HRI.out,HDN.out,HB.out⟩
end Go.Proofs.YtmbjmiioggfneaaGreatDoor

/- The answer's ChainCheck, of a chain that may be. -/
namespace Go.Proofs.YtmbjmiioggfneaaGreatDoor
open Go.RowKit Go.Shelf
set_option maxRecDepth 100000 in
set_option maxHeartbeats 1000000 in
theorem rSquare_yes (c:Option Addr) (cc n:Nat) (R:List (List Fr)) (w:World) (hR:FsS w c R) (h:RwsOK n n R) (hn:n≤6):
  Calls Tryz.prog 33 #[.slice c n cc] w fun e w'=>e=.returned (.int .i64 0)∧Below w.heap.size w w':=by
 have HFR:=hid hR
 have HO:=hid h
 clear hR h
 go_enter Tryz.func33,Tryz.ntmps33
 go_wp2_with fail
 go_loopw [3] (fun iv wr=>∃i:Nat,i≤n∧iv=.int .i64 i∧w=wr) (fun iv _=>n - (intOf iv).toNat)
 case atStart=>exact⟨0,Nat.zero_le _,rfl,rfl⟩
 case round=>
  obtain⟨i,hi,rfl,rfl⟩:=hrel
  by_cases hlt:i<n
  ·have hiR:i<R.length:=by rw[HO.out.len];exact hlt
   obtain⟨gc,oc,bc,cr,rfl,hgc,c0, -, -⟩:=HFR.out i hiR
   rw[HO.out.each i hiR] at c0
   go_wp2
   go_roundw
   case rel=>exact⟨i+1,by omega,by go_num,trivial⟩
   case measure=>simp[intOf];omega
  ·obtain rfl:i=n:=by omega
   go_wp2_with fail
   go_loopw [4] (fun kv wr=>∃k:Nat,k≤i∧kv=.int .i64 k∧Hid (Below w.heap.size w wr)) (fun kv _=>i - (intOf kv).toNat)
   case atStart=>exact⟨0,Nat.zero_le _,rfl,Below.refl _ _⟩
   case round=>
    obtain⟨k,hk,rfl,HB⟩:=hrel
    by_cases hlt2:k<i
    ·have hkR:k<R.length:=by rw[HO.out.len];exact hlt2
     obtain⟨gc,oc,bc,cr,rfl,hgc,c0,hfr, -⟩:=(HFR.out.below HB.out) k hkR
     have hel:=HO.out.each k hkR
     have HRO:=hid (chances_any bc cr R[k] wr hfr (HO.out.fw k hkR) (by omega))
     rw[HO.out.row k hkR] at HRO
     clear hfr hel
     generalize R[k].length=rl at *
     go_wp2_with fail
     refine HRO.out.mono ?_
     rintro e w2 ⟨rfl,hb2⟩
     have HB2:=hid (HB.out.trans (hb2.mono HB.out.size))
     clear hb2
     go_wp2
     go_roundw
     case rel=>exact⟨k+1,by omega,by go_num,HB2⟩
     case measure=>simp[intOf];omega
    ·obtain rfl:k=i:=by omega
     go_wp2
     go_ret
     exact⟨rfl,HB.out⟩
set_option maxRecDepth 100000 in
set_option maxHeartbeats 1000000 in
theorem rChain_yes (c:Option Addr) (cc n:Nat) (R:List (List Fr)) (w:World) (hR:FsS w c R) (h:RwsOK n n R) (h1:1≤n) (hn:n≤6):
  Calls Tryz.prog 10 #[.slice c n cc] w fun e w'=>e=.returned (.int .i64 0)∧Below w.heap.size w w':=by
 have HSQ:=hid (rSquare_yes c cc n R w hR h hn)
 clear hR h
 go_enter Tryz.func10,Tryz.ntmps10
 go_wp2_with fail
 refine HSQ.out.mono ?_
 rintro e w2 ⟨rfl,hb⟩
 go_wp2
 go_ret
 exact⟨rfl,hb⟩
end Go.Proofs.YtmbjmiioggfneaaGreatDoor
