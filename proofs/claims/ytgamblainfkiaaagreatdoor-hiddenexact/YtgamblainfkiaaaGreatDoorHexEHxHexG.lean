/- The answer's wayOf. -/
import Derived.Test.YtgamblainfkiaaaGreatDoorRegTHxHexB
import Derived.Test.YtgamblainfkiaaaGreatDoorHidEHx
import Derived.Test.YtgamblainfkiaaaGreatDoorRefSHxFillA
import Derived.Test.YtgamblainfkiaaaGreatDoorFillBHxHidQ
import Derived.Test.YtgamblainfkiaaaGreatDoorHexLHxHexD
import Derived.Test.YtgamblainfkiaaaGreatDoorHidFHxHidG
namespace Go.Proofs.YtgamblainfkiaaaGreatDoor
open Go.RowKit Go.Shelf
structure WoS (W:World) (gp:Nat) (q:Rat) (U:World):Prop where
 px:Box U gp (sgn q) (nu q) (de q)
 bel:Below W.heap.size W U
theorem WoS.step {W U U':World} {gp:Nat} {q:Rat} (h:WoS W gp q U) (hb:Below U.heap.size U U'):WoS W gp q U':=⟨h.px.below hb h.px.lt,h.bel.trans (hb.mono h.bel.size)⟩
theorem WoS.far {W U:World} {gp g:Nat} {q:Rat} (h:WoS W gp q U) (hne:gp≠g) (hg:W.heap.size≤g) (x y z:Value):WoS W gp q (((U.setCell ⟨g,0,none⟩ x).setCell ⟨g,1,none⟩ y).setCell ⟨g,2,none⟩ z):=⟨h.px.far3 hne x y z,below_put h.bel hg x y z⟩
set_option maxRecDepth 100000 in
set_option maxHeartbeats 4000000 in
theorem rWay_any (a b c d dw:Option Addr) (ca cb cc cd cw n L LL m:Nat) (l:List Fr) (R1 R2:List (List Fr)) (Q V:List Nat) (h:HC) (v:Nat→Nat) (w:World) (hI:HidI w a b c n m l R1 R2) (hst2:Lst n h.st l) (hr1:R1.length=n) (he1:∀i (hi:i<R1.length),R1[i].length=n) (hmv:∀i (hi:i<R1.length),Lst n (h.mv i) R1[i]) (hr2:R2.length=n) (he2:∀i (hi:i<R2.length),R2[i].length=m) (hsh:∀t (ht:t<Q.length) i (hi:i<R2.length),∃hx:Q[t]<R2[i].length,frQ R2[i][Q[t]]=h.sh t i∧R2[i][Q[t]].2.1.size+R2[i][Q[t]].2.2.size≤30010) (hq2:∀x∈Q,x<m) (hqL:Q.length=LL) (hLL:L≤LL) (_hn4:n≤4) (hL8:LL≤8) (_hm4:m≤4) (hQ:IntS w d (iL Q)) (hW:IntS w dw (iL V)) (hVl:V.length=L) (hvv:∀t (ht:t<V.length),v t=V[t]) (hvn:∀t,v t<n) (hls:∀t,t≤L→qw (h.lik v t)≤30010) (hlr:∀t i,t<L→i<n→qw (h.lik v t*h.row v t i)≤30010):
  Calls Tryz.prog 35 #[.agg #[.slice a n ca,.slice b n cb,.slice c n cc],.slice dw L cw,.slice d LL cd] w fun e w'=>e=.returned (frV (qF (h.lik v L)))∧Below w.heap.size w w':=by
 have HLS:=hid hls
 have HLR:=hid hlr
 have HR1:=hid hr1
 have HE1:=hid he1
 have HR2:=hid hr2
 have HE2:=hid he2
 have HQL:=hid hqL
 have HQM:=hid hq2
 have HMV:=hid hmv
 have HST:=hid hst2
 have HSHV:=hid hsh
 have HI:=hid hI
 have HQ:=hid hQ
 have HWY:=hid hW
 have HVL:=hid hVl
 have HVV:=hid hvv
 have HVN:Hid (∀x∈V,x<n):=fun x hx=>by
  obtain⟨i,hi,rfl⟩:=List.getElem_of_mem hx
  rw[←hvv i hi]
  exact hvn i
 have HO1:Hid (∀V:World,Calls Tryz.prog 33 #[.int .i64 1] V fun e w'=>e=.returned (.agg #[.bool (sgn 1),.string (nu 1),.string (de 1)])∧Below V.heap.size V w'):=fun V=>rOf_one V
 have hA0:=(Below.refl w.heap.size w).alloc (Nat.le_refl _) (HC3 (.slice a n ca) (.slice b n cb) (.slice c n cc))
 have hHB0:=HBox.new w (.slice a n ca) (.slice b n cb) (.slice c n cc)
 have hA:=hA0.alloc hA0.size (FC false ⟨#[]⟩ ⟨#[]⟩)
 have hst:=(Below.refl (w.alloc (HC3 (.slice a n ca) (.slice b n cb) (.slice c n cc))).heap.size (w.alloc (HC3 (.slice a n ca) (.slice b n cb) (.slice c n cc)))).alloc (Nat.le_refl _) (FC false ⟨#[]⟩ ⟨#[]⟩)
 have hHB:=hHB0.below hst hHB0.lt
 have hX:Box ((w.alloc (HC3 (.slice a n ca) (.slice b n cb) (.slice c n cc))).alloc (FC false ⟨#[]⟩ ⟨#[]⟩)) (w.heap.size+1) false ⟨#[]⟩ ⟨#[]⟩:=by
  have h9:=Box.new (w.alloc (HC3 (.slice a n ca) (.slice b n cb) (.slice c n cc))) false ⟨#[]⟩ ⟨#[]⟩
  rwa [World.size_alloc] at h9
 clear hI hQ hW hVl hvv hvn hqL hq2 hst2 hmv hsh hA0 hHB0 hst hls hlr hr1 he1 hr2 he2
 go_enter Tryz.func35,Tryz.ntmps35
 go_wp2_with fail
 generalize ((w.alloc (HC3 (.slice a n ca) (.slice b n cb) (.slice c n cc))).alloc (FC false ⟨#[]⟩ ⟨#[]⟩))=W at *
 refine(HO1.out _).mono ?_
 rintro e W0 ⟨rfl,hb0⟩
 have HW0:=hid (hA.trans (hb0.mono hA.size))
 have HHB:=hid (hHB.below hb0 hHB.lt)
 have HRB:=hid (hX.below hb0 hX.lt)
 have hW0s:w.heap.size+1<W0.heap.size:=HRB.out.lt
 have HP0:Hid (WoS W0 W0.heap.size (h.lik v 0) (W0.alloc (FC (sgn 1) (nu 1) (de 1)))):=⟨Box.new W0 _ _ _,(Below.refl _ W0).alloc (Nat.le_refl _) _⟩
 clear hA hHB hX hb0
 go_wp2_with fail
 generalize (W0.alloc (FC (sgn 1) (nu 1) (de 1)))=w2 at *
 generalize hgpe:W0.heap.size=gp at HP0⊢
 have hgp:W0.heap.size≤gp:=Nat.le_of_eq hgpe
 clear hgpe
 go_loopw [8] (fun iv wr=>∃t:Nat,t≤L∧iv=.int .i64 t∧Hid (WoS W0 gp (h.lik v t) wr)) (fun iv _=>L - (intOf iv).toNat)
 case atStart=>exact⟨0,Nat.zero_le _,rfl,HP0⟩
 case round=>
  obtain⟨t,ht,rfl,HP⟩:=hrel
  clear HP0
  by_cases hlt:t<L
  ·have htLL:t<LL:=by omega
   have htQ:t<Q.length:=by rw[HQL.out];exact htLL
   have htV:t<V.length:=by rw[HVL.out];exact hlt
   obtain⟨gq,oq,rfl,hgq,q00⟩:=HQ.out t (by rw[iL_length];exact htQ)
   have eq:(iL Q)[t]'(by rw[iL_length];exact htQ)=((Q[t]:Nat):Int):=by simp[iL]
   rw[eq] at q00
   obtain⟨gy,oy,rfl,hgy,y00⟩:=HWY.out t (by rw[iL_length];exact htV)
   have ev:(iL V)[t]'(by rw[iL_length];exact htV)=((V[t]:Nat):Int):=by simp[iL]
   rw[ev] at y00
   have hvtn:V[t]<n:=HVN.out _ (List.getElem_mem htV)
   have hq4:Q[t]<m:=HQM.out _ (List.getElem_mem htQ)
   have hvl:V[t]<l.length:=by rw[HST.out.len];exact hvtn
   obtain⟨ga,oa,rfl,hga,s00,s01,s02⟩:=HI.out.st V[t] hvl
   have hvR:V[t]<R2.length:=by rw[HR2.out];exact hvtn
   obtain⟨gs,os,bs,ck,rfl,hgs,k00,hkf, -⟩:=HI.out.sh V[t] hvR
   obtain⟨hqx,hqe,hqs⟩:=HSHV.out t htQ V[t] hvR
   obtain⟨gk,ok_,rfl,hgk,k10,k11,k12⟩:=hkf Q[t] hqx
   rw[HE2.out V[t] hvR] at k00
   have HSQ:Hid (frQ l[V[t]]=h.st V[t]∧l[V[t]].2.1.size+l[V[t]].2.2.size≤30010):=⟨HST.out.is _ hvl,HST.out.size _ hvl⟩
   have hl1:=HLS.out t ht
   have HLQ:Hid (qw (h.lik v t)≤30010):=hl1
   have HM2:Hid (∀U:World,Calls Tryz.prog 75 #[.agg #[.bool (sgn (h.lik v t*h.row v t V[t])),.string (nu (h.lik v t*h.row v t V[t])),.string (de (h.lik v t*h.row v t V[t]))],.agg #[.bool R2[V[t]][Q[t]].1,.string R2[V[t]][Q[t]].2.1,.string R2[V[t]][Q[t]].2.2]] U fun e w'=>e=.returned (.agg #[.bool (sgn (h.lik v (t+1))),.string (nu (h.lik v (t+1))),.string (de (h.lik v (t+1)))])∧Below U.heap.size U w'):=fun U=>by
    have z1:=own_size (h.lik v t*h.row v t V[t])
    have z2:=HLR.out t V[t] hlt hvtn
    have h9:=rMulF_any (sgn (h.lik v t*h.row v t V[t])) R2[V[t]][Q[t]].1 (nu (h.lik v t*h.row v t V[t])) (de (h.lik v t*h.row v t V[t])) R2[V[t]][Q[t]].2.1 R2[V[t]][Q[t]].2.2 U (by omega) (by omega)
    rw[val_own,show val R2[V[t]][Q[t]].1 R2[V[t]][Q[t]].2.1 R2[V[t]][Q[t]].2.2=h.sh t V[t] from hqe,Rat.mul_assoc] at h9
    have e9:h.lik v (t+1)=h.lik v t*(h.row v t V[t]*h.sh t V[t]):=by rw[HC.lik,HVV.out t htV]
    rw[e9]
    exact h9
   have HS1:Hid True:=trivial
   have HQ0:=hid q00
   have HY0:=hid y00
   have HK0:=hid k00
   have HK1:=hid k10
   have HK2:=hid k11
   have HK3:=hid k12
   have HS00:=hid s00
   have HS01:=hid s01
   have HS02:=hid s02
   clear q00 y00 k00 k10 k11 k12 s00 s01 s02 hkf eq ev hqe hqs hl1
   generalize R2[V[t]][Q[t]]=hf at *
   generalize l[V[t]]=sf at *
   generalize Q[t]=qt at *
   generalize hvte:V[t]=vt at *
   clear hvte
   go_upto_region 5 with fail
   have HELD5:Hid (∀u,Below W0.heap.size W0 u→u.cell? ⟨w.heap.size,0,none⟩=some (.slice (some ⟨ga,oa,none⟩) n ca)∧u.cell? ⟨gy,oy+t,none⟩=some (.int .i64 (vt:Nat))∧u.cell? ⟨ga,oa+vt*3,none⟩=some (.bool sf.1)∧u.cell? ⟨ga,oa+vt*3+1,none⟩=some (.string sf.2.1)∧u.cell? ⟨ga,oa+vt*3+2,none⟩=some (.string sf.2.2)):=fun u hu=>by
    have hwu:=HW0.out.trans (hu.mono HW0.out.size)
    exact⟨(HHB.out.below hu HHB.out.lt).cells.1,(hwu.cell (p:=⟨gy,_,none⟩) hgy).trans HY0.out,(hwu.cell (p:=⟨ga,_,none⟩) hga).trans HS00.out,(hwu.cell (p:=⟨ga,_,none⟩) hga).trans HS01.out,(hwu.cell (p:=⟨ga,_,none⟩) hga).trans HS02.out⟩
   refine wp_region_held_drew (S:=fun u=>u.cell? ⟨w.heap.size,0,none⟩=some (.slice (some ⟨ga,oa,none⟩) n ca)∧u.cell? ⟨gy,oy+t,none⟩=some (.int .i64 (vt:Nat))∧u.cell? ⟨ga,oa+vt*3,none⟩=some (.bool sf.1)∧u.cell? ⟨ga,oa+vt*3+1,none⟩=some (.string sf.2.1)∧u.cell? ⟨ga,oa+vt*3+2,none⟩=some (.string sf.2.2)) (by kernel_rfl) (HELD5.out _ HP.out.bel.drew) (fun hSd=>?_)
   replace HP:=hid (HP.out.step (Below.refl _ _).drew)
   generalize wr.drew=u0 at *
   refine tkB 0 (.pointer (some ⟨w.heap.size,0,none⟩)) ?_
   try simp only[gE,aP]
   refine tkB 1 (.slice (some ⟨ga,oa,none⟩) n ca) ?_
   try simp only[gE,aP]
   refine tkB 2 (.slice (some ⟨gy,oy,none⟩) L cw) ?_
   try simp only[gE,aP]
   refine tkB 3 (.int .i64 (t:Nat)) ?_
   try simp only[gE,aP]
   refine tkB 4 (.pointer (some ⟨gy,oy+t,none⟩)) ?_
   try simp only[gE,aP]
   refine tkB 5 (.int .i64 (vt:Nat)) ?_
   try simp only[gE,aP]
   refine tkB 6 (.pointer (some ⟨ga,oa+vt*3,none⟩)) ?_
   try simp only[gE,aP]
   refine tkB 7 (.agg #[.bool sf.1,.string sf.2.1,.string sf.2.2]) ?_
   try simp only[gE,aP]
   refine rdA [8] (cA ?_ AllReadyH.nil)
   ·intro K' hK'
    go_simp
    have hbn:=(Below.refl u0.heap.size u0).alloc (Nat.le_refl _) (FC false ⟨#[]⟩ ⟨#[]⟩)
    have HFX:=hid (Box.new u0 false ⟨#[]⟩ ⟨#[]⟩)
    have hgf:W0.heap.size≤u0.heap.size:=HP.out.bel.size
    have hgpf:gp≠u0.heap.size:=Nat.ne_of_lt HP.out.px.lt
    replace HP:=hid (HP.out.step hbn)
    refine hK'.out _ _ (HELD5.out _ HP.out.bel) (fun hSe=>?_)
    clear hK' K' hSd hbn
    obtain⟨gf,hgfe⟩:∃x,u0.heap.size=x:=⟨_,rfl⟩
    obtain⟨u1,hV⟩:∃x,u0.alloc (FC false ⟨#[]⟩ ⟨#[]⟩)=x:=⟨_,rfl⟩
    rw[hV] at HFX HP
    rw[hgfe] at HFX hgf hgpf
    simp only[hV] at hSe⊢
    simp only[hgfe]
    clear hgfe hV
    try simp only[gE,aP]
    obtain⟨k0,k1,k2,f0,f1,f2⟩:=HFX.out.facts
    refine rdA [9] (cA ?_ AllReadyH.nil)
    ·intro K' hK'
     go_simp
     have HFN:=hid (HFX.out.put sf.1 sf.2.1 sf.2.2)
     have HPN:=hid (HP.out.far hgpf hgf (.bool sf.1) (.string sf.2.1) (.string sf.2.2))
     refine hK'.out _ _ (HELD5.out _ HPN.out.bel) (fun _=>wpAnyH_done (by kernel_rfl) ?_ _)
     clear hK' K' hSe k0 k1 k2 f0 f1 f2 HP HFX
     generalize (((u1.setCell ⟨gf,0,none⟩ (.bool sf.1)).setCell ⟨gf,1,none⟩ (.string sf.2.1)).setCell ⟨gf,2,none⟩ (.string sf.2.2))=Wb at *
     have hsm1:=HS1.out
     by_cases ht0:t=0
     ·have hti:¬(0:Int)<(t:Int):=by omega
      have HM1:Hid (∀V:World,Calls Tryz.prog 75 #[.agg #[.bool (sgn (h.lik v t)),.string (nu (h.lik v t)),.string (de (h.lik v t))],.agg #[.bool sf.1,.string sf.2.1,.string sf.2.2]] V fun e w'=>e=.returned (.agg #[.bool (sgn (h.lik v t*h.row v t vt)),.string (nu (h.lik v t*h.row v t vt)),.string (de (h.lik v t*h.row v t vt))])∧Below V.heap.size V w'):=fun V=>by
       have z1:=own_size (h.lik v t)
       have h9:=rMulF_any (sgn (h.lik v t)) sf.1 (nu (h.lik v t)) (de (h.lik v t)) sf.2.1 sf.2.2 V (by have:=HLQ.out;omega) (by have:=HSQ.out.2;omega)
       rw[val_own,show val sf.1 sf.2.1 sf.2.2=h.row v t vt by subst ht0;exact HSQ.out.1] at h9
       exact h9
      clear ht0
      obtain⟨k0,k1,k2, -⟩:=HPN.out.px.facts
      obtain⟨j0,j1,j2, -⟩:=HFN.out.facts
      go_wp2_with fail
      refine(HM1.out _).mono ?_
      rintro e q1 ⟨rfl,hb⟩
      replace HPN:=hid (HPN.out.step hb)
      clear hb k0 k1 k2 j0 j1 j2 HFN
      obtain⟨k0,k1,k2,f0,f1,f2⟩:=HPN.out.px.facts
      have HPY:Hid (WoS W0 gp (h.lik v t*h.row v t vt) (((q1.setCell ⟨gp,0,none⟩ (.bool (sgn (h.lik v t*h.row v t vt)))).setCell ⟨gp,1,none⟩ (.string (nu (h.lik v t*h.row v t vt)))).setCell ⟨gp,2,none⟩ (.string (de (h.lik v t*h.row v t vt))))):=⟨HPN.out.px.put _ _ _,below_put HPN.out.bel hgp _ _ _⟩
      go_upto_region 9 with fail
      clear k0 k1 k2 f0 f1 f2 HPN
      generalize (((q1.setCell ⟨gp,0,none⟩ (.bool (sgn (h.lik v t*h.row v t vt)))).setCell ⟨gp,1,none⟩ (.string (nu (h.lik v t*h.row v t vt)))).setCell ⟨gp,2,none⟩ (.string (de (h.lik v t*h.row v t vt))))=Wy at *
      have HELD9:Hid (∀u,Below W0.heap.size W0 u→u.cell? ⟨w.heap.size,2,none⟩=some (.slice (some ⟨gs,os,none⟩) n cc)∧u.cell? ⟨gy,oy+t,none⟩=some (.int .i64 (vt:Nat))∧u.cell? ⟨gs,os+vt,none⟩=some (.slice (some ⟨gk,ok_,none⟩) m ck)∧u.cell? ⟨gq,oq+t,none⟩=some (.int .i64 (qt:Nat))∧u.cell? ⟨gk,ok_+qt*3,none⟩=some (.bool hf.1)∧u.cell? ⟨gk,ok_+qt*3+1,none⟩=some (.string hf.2.1)∧u.cell? ⟨gk,ok_+qt*3+2,none⟩=some (.string hf.2.2)):=fun u hu=>by
       have hwu:=HW0.out.trans (hu.mono HW0.out.size)
       exact⟨(HHB.out.below hu HHB.out.lt).cells.2.2,(hwu.cell (p:=⟨gy,_,none⟩) hgy).trans HY0.out,(hwu.cell (p:=⟨gs,_,none⟩) hgs).trans HK0.out,(hwu.cell (p:=⟨gq,_,none⟩) hgq).trans HQ0.out,(hwu.cell (p:=⟨gk,_,none⟩) hgk).trans HK1.out,(hwu.cell (p:=⟨gk,_,none⟩) hgk).trans HK2.out,(hwu.cell (p:=⟨gk,_,none⟩) hgk).trans HK3.out⟩
      refine wp_region_held_drew (S:=fun u=>u.cell? ⟨w.heap.size,2,none⟩=some (.slice (some ⟨gs,os,none⟩) n cc)∧u.cell? ⟨gy,oy+t,none⟩=some (.int .i64 (vt:Nat))∧u.cell? ⟨gs,os+vt,none⟩=some (.slice (some ⟨gk,ok_,none⟩) m ck)∧u.cell? ⟨gq,oq+t,none⟩=some (.int .i64 (qt:Nat))∧u.cell? ⟨gk,ok_+qt*3,none⟩=some (.bool hf.1)∧u.cell? ⟨gk,ok_+qt*3+1,none⟩=some (.string hf.2.1)∧u.cell? ⟨gk,ok_+qt*3+2,none⟩=some (.string hf.2.2)) (by kernel_rfl) (HELD9.out _ HPY.out.bel.drew) (fun hSd=>?_)
      replace HPY:=hid (HPY.out.step (Below.refl _ _).drew)
      generalize Wy.drew=q0 at *
      refine tkB 1 (.pointer (some ⟨w.heap.size,2,none⟩)) ?_
      try simp only[gE,aP]
      refine tkB 2 (.slice (some ⟨gs,os,none⟩) n cc) ?_
      try simp only[gE,aP]
      refine tkB 3 (.slice (some ⟨gy,oy,none⟩) L cw) ?_
      try simp only[gE,aP]
      refine tkB 4 (.int .i64 (t:Nat)) ?_
      try simp only[gE,aP]
      refine tkB 5 (.pointer (some ⟨gy,oy+t,none⟩)) ?_
      try simp only[gE,aP]
      refine tkB 6 (.int .i64 (vt:Nat)) ?_
      try simp only[gE,aP]
      refine tkB 7 (.pointer (some ⟨gs,os+vt,none⟩)) ?_
      try simp only[gE,aP]
      refine tkB 8 (.slice (some ⟨gk,ok_,none⟩) m ck) ?_
      try simp only[gE,aP]
      refine tkB 9 (.slice (some ⟨gq,oq,none⟩) LL cd) ?_
      try simp only[gE,aP]
      refine tkB 10 (.int .i64 (t:Nat)) ?_
      try simp only[gE,aP]
      refine tkB 11 (.pointer (some ⟨gq,oq+t,none⟩)) ?_
      try simp only[gE,aP]
      refine tkB 12 (.int .i64 (qt:Nat)) ?_
      try simp only[gE,aP]
      refine tkB 13 (.pointer (some ⟨gk,ok_+qt*3,none⟩)) ?_
      try simp only[gE,aP]
      refine tkB 14 (.agg #[.bool hf.1,.string hf.2.1,.string hf.2.2]) ?_
      try simp only[gE,aP]
      refine rdA [0] (cA ?_ AllReadyH.nil)
      ·intro K' hK'
       obtain⟨k0,k1,k2, -⟩:=HPY.out.px.facts
       go_simp
       refine hK'.out _ _ hSd (fun _=>?_)
       clear hK' K' k0 k1 k2
       try simp only[gE,aP]
       refine rdA [15] (cA ?_ AllReadyH.nil)
       ·intro K' hK'
        go_simp
        refine(HM2.out _).mono ?_
        rintro e q2 ⟨rfl,hb⟩
        replace HPY:=hid (HPY.out.step hb)
        refine hK'.out _ _ (HELD9.out _ HPY.out.bel) (fun hSf=>?_)
        clear hK' K' hSd hb
        try simp only[gE,aP]
        obtain⟨k0,k1,k2,f0,f1,f2⟩:=HPY.out.px.facts
        refine rdA [16] (cA ?_ AllReadyH.nil)
        ·intro K' hK'
         go_simp
         have HPZ:Hid (WoS W0 gp (h.lik v (t+1)) (((q2.setCell ⟨gp,0,none⟩ (.bool (sgn (h.lik v (t+1))))).setCell ⟨gp,1,none⟩ (.string (nu (h.lik v (t+1))))).setCell ⟨gp,2,none⟩ (.string (de (h.lik v (t+1)))))):=⟨HPY.out.px.put _ _ _,below_put HPY.out.bel hgp _ _ _⟩
         refine hK'.out _ _ (HELD9.out _ HPZ.out.bel) (fun _=>wpAnyH_done (by kernel_rfl) ?_ _)
         clear hK' K' hSf k0 k1 k2 f0 f1 f2 HPY
         go_wp2
         go_roundw
         case rel=>exact⟨t+1,by omega,by go_num,HPZ⟩
         case measure=>simp[intOf];omega
     ·obtain⟨tp,htp⟩:∃tp,tp+1=t:=⟨t - 1,by omega⟩
      have hti:(0:Int)<(t:Int):=by omega
      have htm:(t:Int) - 1=(tp:Int):=by omega
      have htw:IntKind.i64.wrap (tp:Int)=(tp:Int):=by rw[IntKind.wrap_i64];omega
      have htpL:tp<L:=by omega
      have hpV:tp<V.length:=by rw[HVL.out];exact htpL
      obtain⟨gy2,oy2,ey2,hgy2,y2⟩:=HWY.out tp (by rw[iL_length];exact hpV)
      cases ey2
      have ev2:(iL V)[tp]'(by rw[iL_length];exact hpV)=((V[tp]:Nat):Int):=by simp[iL]
      rw[ev2] at y2
      have hvpn:V[tp]<n:=HVN.out _ (List.getElem_mem hpV)
      have hpR:V[tp]<R1.length:=by rw[HR1.out];exact hvpn
      obtain⟨gm,om,bm,cm,rfl,hgm,m0,hmf, -⟩:=HI.out.mv V[tp] hpR
      rw[HE1.out V[tp] hpR] at m0
      have hmr:vt<R1[V[tp]].length:=by rw[HE1.out V[tp] hpR];exact hvtn
      obtain⟨gr,or_,rfl,hgr,g0,g1,g2⟩:=hmf vt hmr
      have HMQ:Hid (frQ R1[V[tp]][vt]=h.row v t vt∧R1[V[tp]][vt].2.1.size+R1[V[tp]][vt].2.2.size≤30010):=by
       refine⟨?_,(HMV.out V[tp] hpR).size vt hmr⟩
       rw[(HMV.out V[tp] hpR).is vt hmr,←htp,HC.row,←HVV.out tp hpV]
      have HM0:=hid m0
      have HY2:=hid y2
      have HG0:=hid g0
      have HG1:=hid g1
      have HG2:=hid g2
      generalize R1[V[tp]][vt]=mf at *
      generalize V[tp]=vp at *
      have HM1:Hid (∀V:World,Calls Tryz.prog 75 #[.agg #[.bool (sgn (h.lik v t)),.string (nu (h.lik v t)),.string (de (h.lik v t))],.agg #[.bool mf.1,.string mf.2.1,.string mf.2.2]] V fun e w'=>e=.returned (.agg #[.bool (sgn (h.lik v t*h.row v t vt)),.string (nu (h.lik v t*h.row v t vt)),.string (de (h.lik v t*h.row v t vt))])∧Below V.heap.size V w'):=fun V=>by
       have z1:=own_size (h.lik v t)
       have h9:=rMulF_any (sgn (h.lik v t)) mf.1 (nu (h.lik v t)) (de (h.lik v t)) mf.2.1 mf.2.2 V (by have:=HLQ.out;omega) (by have:=HMQ.out.2;omega)
       rw[val_own,show val mf.1 mf.2.1 mf.2.2=h.row v t vt from HMQ.out.1] at h9
       exact h9
      clear ev2 y2 m0 hmf g0 g1 g2 htp ht0 hmr
      go_upto_region 7 with fail
      have HELD7:Hid (∀u,Below W0.heap.size W0 u→u.cell? ⟨w.heap.size,1,none⟩=some (.slice (some ⟨gm,om,none⟩) n cb)∧u.cell? ⟨gy,oy+tp,none⟩=some (.int .i64 (vp:Nat))∧u.cell? ⟨gm,om+vp,none⟩=some (.slice (some ⟨gr,or_,none⟩) n cm)∧u.cell? ⟨gy,oy+t,none⟩=some (.int .i64 (vt:Nat))∧u.cell? ⟨gr,or_+vt*3,none⟩=some (.bool mf.1)∧u.cell? ⟨gr,or_+vt*3+1,none⟩=some (.string mf.2.1)∧u.cell? ⟨gr,or_+vt*3+2,none⟩=some (.string mf.2.2)):=fun u hu=>by
       have hwu:=HW0.out.trans (hu.mono HW0.out.size)
       exact⟨(HHB.out.below hu HHB.out.lt).cells.2.1,(hwu.cell (p:=⟨gy,_,none⟩) hgy).trans HY2.out,(hwu.cell (p:=⟨gm,_,none⟩) hgm).trans HM0.out,(hwu.cell (p:=⟨gy,_,none⟩) hgy).trans HY0.out,(hwu.cell (p:=⟨gr,_,none⟩) hgr).trans HG0.out,(hwu.cell (p:=⟨gr,_,none⟩) hgr).trans HG1.out,(hwu.cell (p:=⟨gr,_,none⟩) hgr).trans HG2.out⟩
      refine wp_region_held_drew (S:=fun u=>u.cell? ⟨w.heap.size,1,none⟩=some (.slice (some ⟨gm,om,none⟩) n cb)∧u.cell? ⟨gy,oy+tp,none⟩=some (.int .i64 (vp:Nat))∧u.cell? ⟨gm,om+vp,none⟩=some (.slice (some ⟨gr,or_,none⟩) n cm)∧u.cell? ⟨gy,oy+t,none⟩=some (.int .i64 (vt:Nat))∧u.cell? ⟨gr,or_+vt*3,none⟩=some (.bool mf.1)∧u.cell? ⟨gr,or_+vt*3+1,none⟩=some (.string mf.2.1)∧u.cell? ⟨gr,or_+vt*3+2,none⟩=some (.string mf.2.2)) (by kernel_rfl) (HELD7.out _ HPN.out.bel.drew) (fun hSd=>?_)
      replace HPN:=hid (HPN.out.step (Below.refl _ _).drew)
      have HFd:Hid (Box Wb.drew gf sf.1 sf.2.1 sf.2.2):=HFN.out
      clear HFN
      have HFN:=HFd
      clear HFd
      generalize Wb.drew=z0 at *
      refine tkB 0 (.pointer (some ⟨w.heap.size,1,none⟩)) ?_
      try simp only[gE,aP]
      refine tkB 1 (.slice (some ⟨gm,om,none⟩) n cb) ?_
      try simp only[gE,aP]
      refine tkB 2 (.slice (some ⟨gy,oy,none⟩) L cw) ?_
      try simp only[gE,aP]
      refine tkB 3 (.int .i64 (t:Nat)) ?_
      try simp only[gE,aP]
      refine tkB 4 (.int .i64 (tp:Nat)) ?_
      try simp only[gE,aP]
      refine tkB 5 (.pointer (some ⟨gy,oy+tp,none⟩)) ?_
      try simp only[gE,aP]
      refine tkB 6 (.int .i64 (vp:Nat)) ?_
      try simp only[gE,aP]
      refine tkB 7 (.pointer (some ⟨gm,om+vp,none⟩)) ?_
      try simp only[gE,aP]
      refine tkB 8 (.slice (some ⟨gr,or_,none⟩) n cm) ?_
      try simp only[gE,aP]
      refine tkB 9 (.slice (some ⟨gy,oy,none⟩) L cw) ?_
      try simp only[gE,aP]
      refine tkB 10 (.int .i64 (t:Nat)) ?_
      try simp only[gE,aP]
      refine tkB 11 (.pointer (some ⟨gy,oy+t,none⟩)) ?_
      try simp only[gE,aP]
      refine tkB 12 (.int .i64 (vt:Nat)) ?_
      try simp only[gE,aP]
      refine tkB 13 (.pointer (some ⟨gr,or_+vt*3,none⟩)) ?_
      try simp only[gE,aP]
      refine tkB 14 (.agg #[.bool mf.1,.string mf.2.1,.string mf.2.2]) ?_
      try simp only[gE,aP]
      obtain⟨k0,k1,k2,f0,f1,f2⟩:=HFN.out.facts
      refine rdA [15] (cA ?_ AllReadyH.nil)
      ·intro K' hK'
       go_simp
       have HFM:=hid (HFN.out.put mf.1 mf.2.1 mf.2.2)
       have HPM:=hid (HPN.out.far hgpf hgf (.bool mf.1) (.string mf.2.1) (.string mf.2.2))
       refine hK'.out _ _ (HELD7.out _ HPM.out.bel) (fun _=>wpAnyH_done (by kernel_rfl) ?_ _)
       clear hK' K' hSd k0 k1 k2 f0 f1 f2 HPN HFN
       generalize (((z0.setCell ⟨gf,0,none⟩ (.bool mf.1)).setCell ⟨gf,1,none⟩ (.string mf.2.1)).setCell ⟨gf,2,none⟩ (.string mf.2.2))=Wc at *
       have HPN:=HPM
       have HFN:=HFM
       clear HPM HFM HELD7
       obtain⟨k0,k1,k2, -⟩:=HPN.out.px.facts
       obtain⟨j0,j1,j2, -⟩:=HFN.out.facts
       go_wp2_with fail
       refine(HM1.out _).mono ?_
       rintro e q1 ⟨rfl,hb⟩
       replace HPN:=hid (HPN.out.step hb)
       clear hb k0 k1 k2 j0 j1 j2 HFN
       obtain⟨k0,k1,k2,f0,f1,f2⟩:=HPN.out.px.facts
       have HPY:Hid (WoS W0 gp (h.lik v t*h.row v t vt) (((q1.setCell ⟨gp,0,none⟩ (.bool (sgn (h.lik v t*h.row v t vt)))).setCell ⟨gp,1,none⟩ (.string (nu (h.lik v t*h.row v t vt)))).setCell ⟨gp,2,none⟩ (.string (de (h.lik v t*h.row v t vt))))):=⟨HPN.out.px.put _ _ _,below_put HPN.out.bel hgp _ _ _⟩
       go_upto_region 9 with fail
       clear k0 k1 k2 f0 f1 f2 HPN
       generalize (((q1.setCell ⟨gp,0,none⟩ (.bool (sgn (h.lik v t*h.row v t vt)))).setCell ⟨gp,1,none⟩ (.string (nu (h.lik v t*h.row v t vt)))).setCell ⟨gp,2,none⟩ (.string (de (h.lik v t*h.row v t vt))))=Wy at *
       have HELD9:Hid (∀u,Below W0.heap.size W0 u→u.cell? ⟨w.heap.size,2,none⟩=some (.slice (some ⟨gs,os,none⟩) n cc)∧u.cell? ⟨gy,oy+t,none⟩=some (.int .i64 (vt:Nat))∧u.cell? ⟨gs,os+vt,none⟩=some (.slice (some ⟨gk,ok_,none⟩) m ck)∧u.cell? ⟨gq,oq+t,none⟩=some (.int .i64 (qt:Nat))∧u.cell? ⟨gk,ok_+qt*3,none⟩=some (.bool hf.1)∧u.cell? ⟨gk,ok_+qt*3+1,none⟩=some (.string hf.2.1)∧u.cell? ⟨gk,ok_+qt*3+2,none⟩=some (.string hf.2.2)):=fun u hu=>by
        have hwu:=HW0.out.trans (hu.mono HW0.out.size)
        exact⟨(HHB.out.below hu HHB.out.lt).cells.2.2,(hwu.cell (p:=⟨gy,_,none⟩) hgy).trans HY0.out,(hwu.cell (p:=⟨gs,_,none⟩) hgs).trans HK0.out,(hwu.cell (p:=⟨gq,_,none⟩) hgq).trans HQ0.out,(hwu.cell (p:=⟨gk,_,none⟩) hgk).trans HK1.out,(hwu.cell (p:=⟨gk,_,none⟩) hgk).trans HK2.out,(hwu.cell (p:=⟨gk,_,none⟩) hgk).trans HK3.out⟩
       refine wp_region_held_drew (S:=fun u=>u.cell? ⟨w.heap.size,2,none⟩=some (.slice (some ⟨gs,os,none⟩) n cc)∧u.cell? ⟨gy,oy+t,none⟩=some (.int .i64 (vt:Nat))∧u.cell? ⟨gs,os+vt,none⟩=some (.slice (some ⟨gk,ok_,none⟩) m ck)∧u.cell? ⟨gq,oq+t,none⟩=some (.int .i64 (qt:Nat))∧u.cell? ⟨gk,ok_+qt*3,none⟩=some (.bool hf.1)∧u.cell? ⟨gk,ok_+qt*3+1,none⟩=some (.string hf.2.1)∧u.cell? ⟨gk,ok_+qt*3+2,none⟩=some (.string hf.2.2)) (by kernel_rfl) (HELD9.out _ HPY.out.bel.drew) (fun hSd=>?_)
       replace HPY:=hid (HPY.out.step (Below.refl _ _).drew)
       generalize Wy.drew=q0 at *
       refine tkB 1 (.pointer (some ⟨w.heap.size,2,none⟩)) ?_
       try simp only[gE,aP]
       refine tkB 2 (.slice (some ⟨gs,os,none⟩) n cc) ?_
       try simp only[gE,aP]
       refine tkB 3 (.slice (some ⟨gy,oy,none⟩) L cw) ?_
       try simp only[gE,aP]
       refine tkB 4 (.int .i64 (t:Nat)) ?_
       try simp only[gE,aP]
       refine tkB 5 (.pointer (some ⟨gy,oy+t,none⟩)) ?_
       try simp only[gE,aP]
       refine tkB 6 (.int .i64 (vt:Nat)) ?_
       try simp only[gE,aP]
       refine tkB 7 (.pointer (some ⟨gs,os+vt,none⟩)) ?_
       try simp only[gE,aP]
       refine tkB 8 (.slice (some ⟨gk,ok_,none⟩) m ck) ?_
       try simp only[gE,aP]
       refine tkB 9 (.slice (some ⟨gq,oq,none⟩) LL cd) ?_
       try simp only[gE,aP]
       refine tkB 10 (.int .i64 (t:Nat)) ?_
       try simp only[gE,aP]
       refine tkB 11 (.pointer (some ⟨gq,oq+t,none⟩)) ?_
       try simp only[gE,aP]
       refine tkB 12 (.int .i64 (qt:Nat)) ?_
       try simp only[gE,aP]
       refine tkB 13 (.pointer (some ⟨gk,ok_+qt*3,none⟩)) ?_
       try simp only[gE,aP]
       refine tkB 14 (.agg #[.bool hf.1,.string hf.2.1,.string hf.2.2]) ?_
       try simp only[gE,aP]
       refine rdA [0] (cA ?_ AllReadyH.nil)
       ·intro K' hK'
        obtain⟨k0,k1,k2, -⟩:=HPY.out.px.facts
        go_simp
        refine hK'.out _ _ hSd (fun _=>?_)
        clear hK' K' k0 k1 k2
        try simp only[gE,aP]
        refine rdA [15] (cA ?_ AllReadyH.nil)
        ·intro K' hK'
         go_simp
         refine(HM2.out _).mono ?_
         rintro e q2 ⟨rfl,hb⟩
         replace HPY:=hid (HPY.out.step hb)
         refine hK'.out _ _ (HELD9.out _ HPY.out.bel) (fun hSf=>?_)
         clear hK' K' hSd hb
         try simp only[gE,aP]
         obtain⟨k0,k1,k2,f0,f1,f2⟩:=HPY.out.px.facts
         refine rdA [16] (cA ?_ AllReadyH.nil)
         ·intro K' hK'
          go_simp
          have HPZ:Hid (WoS W0 gp (h.lik v (t+1)) (((q2.setCell ⟨gp,0,none⟩ (.bool (sgn (h.lik v (t+1))))).setCell ⟨gp,1,none⟩ (.string (nu (h.lik v (t+1))))).setCell ⟨gp,2,none⟩ (.string (de (h.lik v (t+1)))))):=⟨HPY.out.px.put _ _ _,below_put HPY.out.bel hgp _ _ _⟩
          refine hK'.out _ _ (HELD9.out _ HPZ.out.bel) (fun _=>wpAnyH_done (by kernel_rfl) ?_ _)
          clear hK' K' hSf k0 k1 k2 f0 f1 f2 HPY
          go_wp2
          go_roundw
          case rel=>exact⟨t+1,by omega,by go_num,HPZ⟩
          case measure=>simp[intOf];omega
  ·obtain rfl:t=L:=by omega
   obtain⟨p0,p1,p2, -⟩:=HP.out.px.facts
   have hrb:=HRB.out.below HP.out.bel HRB.out.lt
   obtain⟨k0,k1,k2,f0,f1,f2⟩:=hrb.facts
   go_wp2
   refine bodyPost_ret ((hrb.put _ _ _).result rfl _ rfl) rfl ?_
   exact⟨rfl,below_put (HW0.out.trans (HP.out.bel.mono HW0.out.size)) (by omega) _ _ _⟩
end Go.Proofs.YtgamblainfkiaaaGreatDoor

/- Shares of dice, plainly: which share a die falls into, how many fall into each. -/
namespace Go.Proofs.YtgamblainfkiaaaGreatDoor
def wA (l:List Fr) (m:Nat):List Nat:=l.map fun f=>(frv f).num.natAbs*(m/(frv f).den)
end Go.Proofs.YtgamblainfkiaaaGreatDoor

/- Chains: equations and rows of bools in memory. -/
namespace Go.Proofs.YtgamblainfkiaaaGreatDoor
open Go.RowKit Go.Shelf
theorem lF_set {m:Nat} {f:Nat→Rat} (k:Nat) (q:Rat):(lF m f).set k (qF q)=lF m fun j=>if j=k then q else f j:=by
 refine List.ext_getElem (by rw[List.length_set,lF_length,lF_length]) fun j h1 h2=>?_
 rw[List.getElem_set,lF_get h2]
 by_cases e:k=j
 ·subst e;simp
 ·rw[if_neg e,lF_get,if_neg fun e'=>e e'.symm]
def EqR (U:World) (B g m c:Nat) (f:Nat→Rat):Prop:=U.ownsRow B 30 3 (.slice (some ⟨g,0,none⟩) m c) m (frC (lF m f))
theorem EqR.of {U:World} {B g m c:Nat} {f:Nat→Rat} (h:RwF U B (.slice (some ⟨g,0,none⟩) m c) (lF m f)):EqR U B g m c f:=by
 rw[RwF,lF_length] at h
 exact h
theorem EqR.congr {U:World} {B g m c:Nat} {f f':Nat→Rat} (h:EqR U B g m c f) (e:∀j,j<m→f j=f' j):EqR U B g m c f':=by
 rw[EqR,←lF_congr e]
 exact h
theorem EqR.block {U:World} {B g m c:Nat} {f:Nat→Rat} (h:EqR U B g m c f):B≤g∧m≤c∧∃cur:Array Value,U.heap[g]? =some (.cells cur 30 (0,0)):=by
 rcases h.2 with ⟨h',_⟩ |⟨g',cap,cur,h',h2,h3,h4,_⟩
 ·cases h'
 ·cases h'
  exact⟨h2,h4,_,h3⟩
theorem EqR.lt {U:World} {B g m c:Nat} {f:Nat→Rat} (h:EqR U B g m c f):g<U.heap.size:=by
 obtain⟨_,_,cur,h3⟩:=h.block
 exact(Array.getElem?_eq_some_iff.1 h3).1
theorem EqR.cells {U:World} {B g m c:Nat} {f:Nat→Rat} (h:EqR U B g m c f) {k:Nat} (hk:k<m):U.cell? ⟨g,k*3,none⟩=some (.bool (qF (f k)).1)∧U.cell? ⟨g,k*3+1,none⟩=some (.string (qF (f k)).2.1)∧U.cell? ⟨g,k*3+2,none⟩=some (.string (qF (f k)).2.2):=by
 have hl:k<(lF m f).length:=by rw[lF_length];exact hk
 obtain⟨h1,h2,h3⟩:=frC_get (lF m f) k hl
 rw[lF_get hl] at h1 h2 h3
 exact⟨(World.ownsRow.cellAt h _ (by omega)).trans h1,(World.ownsRow.cellAt h _ (by omega)).trans h2,(World.ownsRow.cellAt h _ (by omega)).trans h3⟩
theorem EqR.fz {U:World} {B g m c:Nat} {f:Nat→Rat} (h:EqR U B g m c f) (j:Nat):U.frozen? ⟨g,j,none⟩=false:=World.ownsRow.frozenAt h j
theorem EqR.fr {U:World} {B g m c:Nat} {f:Nat→Rat} (h:EqR U B g m c f):FrS U (some ⟨g,0,none⟩) (lF m f):=fun k hk=>by
 obtain⟨h1,h2,h3⟩:=h.cells (by rw[lF_length] at hk;exact hk)
 rw[lF_get hk]
 exact⟨g,0,rfl,h.lt,by rw[Nat.zero_add];exact h1,by rw[Nat.zero_add];exact h2,by rw[Nat.zero_add];exact h3⟩
theorem EqR.below {U U':World} {B g m c:Nat} {f:Nat→Rat} (h:EqR U B g m c f) (hb:Below U.heap.size U U'):EqR U' B g m c f:=owns_keep h (KeepT.below hb)
theorem EqR.kept {U U':World} {B g m c:Nat} {f:Nat→Rat} (h:EqR U B g m c f) {x:Nat} (hg:U.grownBy U' (some x)) (hne:g≠x):EqR U' B g m c f:=World.ownsRow.kept h hg (.inr fun e=>hne (by cases e;rfl))
theorem EqR.put {U:World} {B g m c:Nat} {f:Nat→Rat} (h:EqR U B g m c f) (k:Nat) (q:Rat):EqR (((U.setCell ⟨g,k*3,none⟩ (.bool (qF q).1)).setCell ⟨g,k*3+1,none⟩ (.string (qF q).2.1)).setCell ⟨g,k*3+2,none⟩ (.string (qF q).2.2)) B g m c (fun j=>if j=k then q else f j)∧U.grownBy (((U.setCell ⟨g,k*3,none⟩ (.bool (qF q).1)).setCell ⟨g,k*3+1,none⟩ (.string (qF q).2.1)).setCell ⟨g,k*3+2,none⟩ (.string (qF q).2.2)) (some g):=by
 obtain⟨a1,b1⟩:=World.ownsRow.stored h (k*3) (.bool (qF q).1)
 obtain⟨a2,b2⟩:=World.ownsRow.stored a1 (k*3+1) (.string (qF q).2.1)
 obtain⟨a3,b3⟩:=World.ownsRow.stored a2 (k*3+2) (.string (qF q).2.2)
 rw[frC_set,lF_set] at a3
 exact⟨a3,⟨b3.os.trans (b2.os.trans b1.os),b3.tape.trans (b2.tape.trans b1.tape),b3.output.trans (b2.output.trans b1.output),Nat.le_trans b1.size (Nat.le_trans b2.size b3.size),fun i hi hne=>(b3.block i (Nat.lt_of_lt_of_le hi (Nat.le_trans b1.size b2.size)) hne).trans ((b2.block i (Nat.lt_of_lt_of_le hi b1.size) hne).trans (b1.block i hi hne))⟩⟩
end Go.Proofs.YtgamblainfkiaaaGreatDoor

/- The answer's noughts and HiddenLikely. -/
namespace Go.Proofs.YtgamblainfkiaaaGreatDoor
open Go.RowKit Go.Shelf
theorem lF_more (n:Nat) (f:Nat→Rat):lF (n+1) f=lF n f++[qF (f n)]:=by simp[lF,List.range_succ]
set_option maxRecDepth 100000 in
set_option maxHeartbeats 400000 in
theorem noughts_any (n:Nat) (w:World) (h1:1≤n) (hn:n≤100):
  Calls Tryz.prog 44 #[.int .i64 (n:Nat)] w fun e w'=>∃g c,e=.returned (.slice (some ⟨g,0,none⟩) n c)∧EqR w' w.heap.size g n c (fun _=>0)∧Below w.heap.size w w':=by
 have HO0:=hid (fun V:World=>rOf_zero V)
 go_enter Tryz.func44,Tryz.ntmps44
 go_wp2_with fail
 go_loopw [3,4] (fun lv iv wr=>∃i:Nat,i≤n∧iv=.int .i64 i∧Hid (RwF wr w.heap.size lv (lF i fun _=>0))∧Hid (Below w.heap.size w wr)) (fun _ iv _=>n - (intOf iv).toNat)
 case atStart=>exact⟨0,Nat.zero_le _,rfl,RwF.empty _ _,Below.refl _ _⟩
 case round=>
  obtain⟨i,hi,rfl,HR,HB⟩:=hrel
  by_cases hlt:i<n
  ·go_wp2_with fail
   refine(HO0.out _).mono ?_
   rintro e w1 ⟨rfl,hb⟩
   have HR1:=hid (HR.out.below hb)
   have HB1:=hid (HB.out.trans (hb.mono HB.out.size))
   have hbA:=(Below.refl w1.heap.size w1).alloc (Nat.le_refl _) (FC (sgn 0) (nu 0) (de 0))
   have HX:=hid (Box.new w1 (sgn 0) (nu 0) (de 0))
   have HR2:=hid (HR1.out.below hbA)
   have HB2:=hid (HB1.out.trans (hbA.mono HB1.out.size))
   have HLN:Hid ((lF i fun _=>(0:Rat)).length+1≤100000):=by show _≤_;rw[lF_length];omega
   clear hb hbA HR1 HB1
   go_wp2_with (at_builtin;refine wpList_append_fr rfl _ _ rfl w.heap.size _ (lF i fun _=>0) (sgn 0,nu 0,de 0) rfl HR2.out w1.heap.size rfl HX.out HLN.out HB2.out.size ?_;intro v3 w3 hr3 hg3;have HR3:Hid (RwF w3 w.heap.size v3 (lF (i+1) fun _=>0)):=(by rw[lF_more];exact hr3);have HB3:=hid (HB2.out.grown hg3 HB2.out.size (fun x e=>HR2.out.own x e));clear hr3 hg3)
   go_roundw
   case rel=>exact⟨i+1,by omega,by go_num,HR3,HB3⟩
   case measure=>simp[intOf];omega
  ·obtain rfl:n=i:=by omega
   obtain⟨g,c,e, -, -, -⟩:=HR.out.some' (by rw[lF_length];exact h1)
   rw[lF_length] at e
   subst e
   have HE:=hid (EqR.of HR.out)
   go_wp2
   go_ret
   exact⟨g,c,rfl,HE.out,HB.out⟩
theorem part_sm {D k K N:Nat} {f:Nat→Rat} (h:∀i,i<N→Sm D k (f i)) (hk:k≤K) (hh:sumR f N≤((4^K:Nat):Rat)):∀j,j≤N→Sm D K (sumR f j):=fun j hj=>by
 have hmono:∀a b,a≤b→b≤N→sumR f a≤sumR f b:=fun a b hab hb=>by
  induction b with
  |zero=>
   obtain rfl:a=0:=by omega
   exact Rat.le_refl
  |succ b ih=>
   rcases Nat.lt_or_ge a (b+1) with h1 |h1
   ·have h2:=ih (by omega) (by omega)
    have h3:=(h b (by omega)).low
    show _≤sumR f b+f b
    grind
   ·obtain rfl:a=b+1:=by omega
    exact Rat.le_refl
 refine⟨sumR_low fun i hi=>(h i (by omega)).low,Rat.le_trans (hmono j N hj (Nat.le_refl _)) hh,?_⟩
 obtain⟨a,ha⟩:=sumR_wh (f:=f) (n:=j) (D:=D^k) fun i hi=>(h i (by omega)).whole
 obtain⟨d,rfl⟩:=Nat.exists_eq_add_of_le hk
 refine⟨a*D^d,?_⟩
 rw[Nat.pow_add,Rat.natCast_mul,Rat.natCast_mul,←Rat.mul_assoc,ha]
theorem HC.Sml.all {D:Nat} {h:HC} (m:h.Sml D) (hL:1≤h.L):Sm D (3*h.L) h.all:=(Sm.sum m.s4 fun i hi=>m.alp (h.L - 1) i (by omega) hi).up (by omega)
set_option maxRecDepth 100000 in
theorem rWay_of {D:Nat} (a b c d dw:Option Addr) (ca cb cc cd cw n L T i m:Nat) (l:List Fr) (R1 R2:List (List Fr)) (Q:List Nat) (h:HC) (w:World) (hI:HidI w a b c n m l R1 R2) (hV:HidV D h m l R1 R2 Q) (hsn:h.s=n) (hL:h.L=L) (hQ:IntS w d (iL Q)) (hT:T≤L) (hW:IntS w dw (iL (wyL n T i))):
  Calls Tryz.prog 35 #[.agg #[.slice a n ca,.slice b n cb,.slice c n cc],.slice dw T cw,.slice d L cd] w fun e w'=>e=.returned (frV (qF (h.lik (wyF n T i) T)))∧Below w.heap.size w w':=by
 have hok:=hV.okn hsn
 have hv:∀t,wyF n T i t<h.s:=fun t=>by rw[hsn];exact wyF_lt hok.n1 T i t
 have hmv:=hV.mv
 have hst:=hV.st
 rw[hsn] at hmv hst
 refine rWay_any a b c d dw ca cb cc cd cw n T L m l R1 R2 Q (wyL n T i) h (wyF n T i) w hI hst hok.mv.len hok.mv.each hmv hok.sh.len hok.sh.each hV.sh hV.q (hV.L.trans hL) hT hok.n4 (by rw[←hL];exact hV.sm.L8) hok.m4 hQ hW (wyL_length n T i) (fun t ht=>?_) (fun t=>wyF_lt hok.n1 T i t) (fun t ht=>hV.sm.qw (hV.sm.lik hv t (by omega)) (by omega)) fun t j ht hj=>hV.sm.qw ((hV.sm.lik hv t (by omega)).mul (hV.sm.row hv t j (by omega))) (by omega)
 rw[wyF,List.getD_eq_getElem?_getD,List.getElem?_eq_getElem ht]
 rfl
theorem HidV.toM {D:Nat} {h:HC} {m:Nat} {l:List Fr} {R1 R2:List (List Fr)} {Q:List Nat} {n:Nat} (v:HidV D h m l R1 R2 Q) (hsn:h.s=n):l.length=n∧R1.length=n∧R2.length=n∧Q.length=h.L:=⟨by rw[v.ok.len,hsn],by rw[v.ok.mv.len,hsn],by rw[v.ok.sh.len,hsn],v.L⟩
end Go.Proofs.YtgamblainfkiaaaGreatDoor

/- The answer's HiddenLikely. -/
namespace Go.Proofs.YtgamblainfkiaaaGreatDoor
open Go.RowKit Go.Shelf
structure BtS (W:World) (g:Nat) (U:World):Prop where
 os:U.os=W.os
 tape:U.tape=W.tape
 output:U.output=W.output
 size:W.heap.size≤U.heap.size
 block:∀k,k<W.heap.size→k≠g→U.heap[k]? =W.heap[k]?
theorem BtS.refl (W:World) (g:Nat):BtS W g W:=⟨rfl,rfl,rfl,Nat.le_refl _,fun _ _ _=>rfl⟩
theorem BtS.step {W U U':World} {g:Nat} (h:BtS W g U) (hb:Below U.heap.size U U'):BtS W g U':=⟨hb.os.trans h.os,hb.tape.trans h.tape,hb.output.trans h.output,Nat.le_trans h.size hb.size,fun k hk hn=>(hb.block k (Nat.lt_of_lt_of_le hk h.size)).trans (h.block k hk hn)⟩
theorem BtS.grown {W U U':World} {g:Nat} (h:BtS W g U) (hg:U.grownBy U' (some g)):BtS W g U':=⟨hg.os.trans h.os,hg.tape.trans h.tape,hg.output.trans h.output,Nat.le_trans h.size hg.size,fun k hk hn=>(hg.block k (Nat.lt_of_lt_of_le hk h.size) fun e=>hn (by cases e;rfl)).trans (h.block k hk hn)⟩
theorem BtS.set {W U:World} {g:Nat} (h:BtS W g U) (b j:Nat) (y:Value) (hb:b=g∨W.heap.size≤b):BtS W g (U.setCell ⟨b,j,none⟩ y):=by
 have h1:=(Below.refl 0 U).setCell (p:=⟨b,j,none⟩) (Nat.zero_le _) y
 refine⟨h1.os.trans h.os,h1.tape.trans h.tape,h1.output.trans h.output,Nat.le_trans h.size h1.size,fun k hk hn=>?_⟩
 exact(Below.heap_setCell U ⟨b,j,none⟩ y k (by show k≠b;rcases hb with rfl |hb<;>omega)).trans (h.block k hk hn)
theorem BtS.put3 {W U:World} {g:Nat} (h:BtS W g U) (b:Nat) (x y z:Value) (hb:b=g∨W.heap.size≤b):BtS W g (((U.setCell ⟨b,0,none⟩ x).setCell ⟨b,1,none⟩ y).setCell ⟨b,2,none⟩ z):=((h.set b 0 x hb).set b 1 y hb).set b 2 z hb
theorem BtS.cell {W U:World} {g:Nat} (h:BtS W g U) {p:Addr} (hp:p.block<W.heap.size) (hn:p.block≠g):U.cell? p=W.cell? p:=World.cell?_of_block (w:=W) (h.block p.block hp hn)
theorem BtS.below {w W U:World} {g:Nat} (h:BtS W g U) (hW:Below w.heap.size w W) (hg:w.heap.size≤g):Below w.heap.size w U:=⟨h.os.trans hW.os,h.tape.trans hW.tape,h.output.trans hW.output,Nat.le_trans hW.size h.size,fun k hk=>(h.block k (Nat.lt_of_lt_of_le hk hW.size) (by omega)).trans (hW.block k hk)⟩
theorem BtS.hbox {W U:World} {g G:Nat} {x y z:Value} (h:BtS W g U) (hb:HBox W G x y z) (hn:G≠g):HBox U G x y z:=(h.block G hb.lt hn).trans hb
theorem BtS.box {W U:World} {g G:Nat} {n:Bool} {x y:ByteArray} (h:BtS W g U) (hb:Box W G n x y) (hn:G≠g):Box U G n x y:=(h.block G hb.lt hn).trans hb
theorem OwL.atB {U:World} {B:Nat} {x:Value} {Q:List PL} (h:OwL U B x Q) {i:Nat} (hi:i<Q.length):∃gx cx d cd,x=.slice (some ⟨gx,0,none⟩) Q.length cx∧gx<U.heap.size∧B≤gx∧U.cell? ⟨gx,i,none⟩=some (.slice d Q[i].2.length cd)∧(∀k (hk:k<Q[i].2.length),∃g o,d=some ⟨g,o,none⟩∧g<U.heap.size∧B≤g∧U.cell? ⟨g,o+k,none⟩=some (.int .i64 Q[i].2[k])):=by
 obtain⟨gx,cx,d,cd,e1,e2,e3,e4,_⟩:=h.at hi
 have hB:B≤gx:=owns_from h.1 gx (by rw[e1];rfl)
 refine⟨gx,cx,d,cd,e1,e2,hB,e3,fun k hk=>?_⟩
 obtain⟨g,o,f1,f2,f3⟩:=e4 k hk
 refine⟨g,o,f1,f2,?_,f3⟩
 have hr:=h.2 Q[i] (List.getElem_mem hi)
 obtain⟨d2,cd2,e5,hi2⟩:=RwI.ints hr
 have e6:U.cell? ⟨gx,i,none⟩=some Q[i].1:=by
  have h8:=h.1
  rw[e1] at h8
  rw[World.ownsRow.cellAt h8 i (by omega)]
  simp[hi]
 rw[e3,e5] at e6
 injection e6 with e7
 injection e7 with e8 _ _
 refine owns_from hr g ?_
 rw[e5,←e8,f1]
 rfl
set_option maxRecDepth 100000 in
set_option maxHeartbeats 4000000 in
theorem rLikely_ok {D:Nat} (a b c d:Option Addr) (ca cb cc cd n L m:Nat) (l:List Fr) (R1 R2:List (List Fr)) (Q:List Nat) (h:HC) (w:World) (hI:HidI w a b c n m l R1 R2) (hV:HidV D h m l R1 R2 Q) (hsn:h.s=n) (hL:h.L=L) (hS:HidS l R1 R2) (hQ:IntS w d (iL Q)) (hse:SeeE l R1 R2 (iL Q) 0) (hNN:n^L≤300):
  Calls Tryz.prog 7 #[.agg #[.slice a n ca,.slice b n cb,.slice c n cc],.slice d L cd] w fun e w'=>e=.returned (.tuple #[frV (qF h.seen),.int .i64 0])∧Below w.heap.size w w':=by
 have hok:=hV.okn hsn
 have hn1:=hok.n1
 have hn4:=hok.n4
 have hL8:L≤8:=by rw[←hL];exact hV.sm.L8
 obtain⟨el,er1,er2,eq⟩:=hV.toM hsn
 have eqL:(iL Q).length=L:=by rw[iL_length,eq,hL]
 have HSEE:Hid (∀U:World,Below w.heap.size w U→Calls Tryz.prog 32 #[.agg #[.slice a n ca,.slice b n cb,.slice c n cc],.slice d L cd] U fun e w'=>e=.returned (.int .i64 0)∧Below U.heap.size U w'):=fun U hU=>by
  have h9:=rSeen_any a b c d ca cb cc cd l R1 R2 (iL Q) U ⟨hI.st.below hU,hI.mv.below hU,hI.sh.below hU⟩ hS (hQ.below hU) (by rw[eqL];omega)
  rw[el,er1,er2,eqL] at h9
  refine h9.mono ?_
  rintro e w' ⟨⟨x,rfl,hx⟩,hb⟩
  rw[hx.uniq hse]
  exact⟨rfl,hb⟩
 have HWS:=hid (fun U:World=>ways_any n L U hn1 hn4 hL8 hNN)
 have HWO:=hid (fun (i:Nat) (dq:Option Addr) (cq:Nat) (U:World) (hU:Below w.heap.size w U) (hW:IntS U dq (iL (wyL n L i)))=>rWay_of a b c d dq ca cb cc cd cq n L L i m l R1 R2 Q h U ⟨hI.st.below hU,hI.mv.below hU,hI.sh.below hU⟩ hV hsn hL (hQ.below hU) (Nat.le_refl _) hW)
 obtain⟨FW,hFW⟩:∃f:Nat→Rat,f=fun i=>h.lik (wyF n L i) L:=⟨_,rfl⟩
 have HFE:Hid (∀i,FW i=h.lik (wyF n L i) L):=fun i=>by rw[hFW]
 have HTOT:Hid (sumR FW (n^L)=h.seen):=by
  show _=_
  rw[HC.seen,hFW]
  by_cases h0:h.L=0
  ·rw[if_pos h0]
   have hL0:L=0:=by omega
   subst hL0
   rw[Nat.pow_zero]
   show 0+1=(1:Rat)
   grind
  ·rw[if_neg h0,←h.ways (by omega) (by omega),hsn,hL]
 have HSF:Hid (∀i,Sm D (2*L) (FW i)):=fun i=>by
  rw[hFW]
  exact hV.sm.lik (fun t=>by rw[hsn];exact wyF_lt hn1 L i t) L (by omega)
 have HSS:Hid (∀i,i≤n^L→qw (sumR FW i)≤30010):=fun i hi=>by
  refine hV.sm.qw (part_sm (K:=3*h.L) (fun j _=>HSF.out j) (by omega) ?_ i hi) (by omega)
  rw[HTOT.out,HC.seen]
  by_cases h0:h.L=0
  ·rw[if_pos h0,h0];decide
  ·rw[if_neg h0];exact(hV.sm.all (by omega)).high
 have HSQ:Hid (∀i,qw (FW i)≤30010):=fun i=>hV.sm.qw (HSF.out i) (by omega)
 have HO0:=hid (fun V:World=>rOf_zero V)
 have hA0:=(Below.refl w.heap.size w).alloc (Nat.le_refl _) (HC3 (.slice a n ca) (.slice b n cb) (.slice c n cc))
 have hHB0:=HBox.new w (.slice a n ca) (.slice b n cb) (.slice c n cc)
 have hA:=hA0.alloc hA0.size (FC false ⟨#[]⟩ ⟨#[]⟩)
 have hst:=(Below.refl (w.alloc (HC3 (.slice a n ca) (.slice b n cb) (.slice c n cc))).heap.size (w.alloc (HC3 (.slice a n ca) (.slice b n cb) (.slice c n cc)))).alloc (Nat.le_refl _) (FC false ⟨#[]⟩ ⟨#[]⟩)
 have hHB:=hHB0.below hst hHB0.lt
 have hX:Box ((w.alloc (HC3 (.slice a n ca) (.slice b n cb) (.slice c n cc))).alloc (FC false ⟨#[]⟩ ⟨#[]⟩)) (w.heap.size+1) false ⟨#[]⟩ ⟨#[]⟩:=by
  have h9:=Box.new (w.alloc (HC3 (.slice a n ca) (.slice b n cb) (.slice c n cc))) false ⟨#[]⟩ ⟨#[]⟩
  rwa [World.size_alloc] at h9
 clear hI hV hsn hL hS hQ hse hok el er1 er2 eq eqL hFW hA0 hHB0 hst
 obtain⟨e0,e1,e2⟩:=hHB.cells
 go_enter Tryz.func7,Tryz.ntmps7
 go_wp2_with fail
 generalize ((w.alloc (HC3 (.slice a n ca) (.slice b n cb) (.slice c n cc))).alloc (FC false ⟨#[]⟩ ⟨#[]⟩))=W at *
 refine(HSEE.out _ hA).mono ?_
 rintro e w1 ⟨rfl,hb⟩
 have HA1:=hid (hA.trans (hb.mono hA.size))
 have HH1:=hid (hHB.below hb hHB.lt)
 have HX1:=hid (hX.below hb hX.lt)
 clear hA hHB hX hb e0 e1 e2
 go_wp2_with fail
 refine(HO0.out _).mono ?_
 rintro e w2 ⟨rfl,hb⟩
 have HA2:=hid (HA1.out.trans (hb.mono HA1.out.size))
 have HH2:=hid (HH1.out.below hb HH1.out.lt)
 have HX2:=hid (HX1.out.below hb HX1.out.lt)
 clear HA1 HH1 HX1 hb
 have hbn:=(Below.refl w2.heap.size w2).alloc (Nat.le_refl _) (FC (sgn 0) (nu 0) (de 0))
 have HS2:=hid (Box.new w2 (sgn 0) (nu 0) (de 0))
 have HA3:=hid (HA2.out.trans (hbn.mono HA2.out.size))
 have HH3:=hid (HH2.out.below hbn HH2.out.lt)
 have HX3:=hid (HX2.out.below hbn HX2.out.lt)
 have HXS:Hid (w.heap.size+1<w2.heap.size):=HX2.out.lt
 obtain⟨e0,e1,e2⟩:=HH3.out.cells
 clear hbn HA2 HH2 HX2
 go_wp2_with fail
 generalize (w2.alloc (FC (sgn 0) (nu 0) (de 0)))=w3 at *
 obtain⟨gS,hgS⟩:∃x,w2.heap.size=x:=⟨_,rfl⟩
 rw[hgS] at HS2 HXS
 simp only[hgS]
 clear hgS
 refine(HWS.out _).mono ?_
 rintro e W0 ⟨x,P,rfl,hO,hPV,hb⟩
 have HOW:=hid hO
 have HB3:Hid (gS<w3.heap.size):=HS2.out.lt
 have HPV:=hid hPV
 have HW0:=hid (HA3.out.trans (hb.mono HA3.out.size))
 have HHB:=hid (HH3.out.below hb HH3.out.lt)
 have HRB:=hid (HX3.out.below hb HX3.out.lt)
 have HSB:=hid (HS2.out.below hb HS2.out.lt)
 clear hO hPV hb HA3 HH3 HX3 HS2 e0 e1 e2
 have HPL:Hid (P.length=n^L):=by
  have h9:=congrArg List.length HPV.out
  rw[wyI_length,List.length_map] at h9
  exact h9
 obtain⟨N,hN⟩:∃N,n^L=N:=⟨_,rfl⟩
 have HNE:=hid hN
 rw[hN] at HPL HPV HTOT HSS hNN
 have hN1:0<N:=by rw[←hN];exact Nat.pow_pos hn1
 clear hN
 obtain⟨gx,cx,d0,cd0,hxe,hgx0,hgxB, -, -⟩:=HOW.out.atB (show 0<P.length by rw[HPL.out];exact hN1)
 rw[HPL.out] at hxe
 subst hxe
 have HQ0:Hid (Box W0 gS (sgn (sumR FW 0)) (nu (sumR FW 0)) (de (sumR FW 0))):=HSB.out
 have HGL:Hid (gS<W0.heap.size):=HQ0.out.lt
 clear HSB
 go_wp2_with fail
 go_loopw [9] (fun iv wr=>∃i:Nat,i≤N∧iv=.int .i64 i∧Hid (Box wr gS (sgn (sumR FW i)) (nu (sumR FW i)) (de (sumR FW i)))∧Hid (BtS W0 gS wr)) (fun iv _=>N - (intOf iv).toNat)
 case atStart=>exact⟨0,Nat.zero_le _,rfl,HQ0,BtS.refl _ _⟩
 case round=>
  obtain⟨i,hi,rfl,HQ,HS⟩:=hrel
  clear HQ0
  by_cases hlt:i<N
  ·have hiP:i<P.length:=by rw[HPL.out];exact hlt
   obtain⟨gx',cx',dq,cq,hxe,hgx,hgxB',c0,hints⟩:=HOW.out.atB hiP
   rw[HPL.out] at hxe
   cases hxe
   have HPI:Hid (P[i].2=iL (wyL n L i)):=by
    have h9:(P.map (·.2))[i]? =(wyI n L N)[i]?:=by rw[HPV.out]
    rw[List.getElem?_map,List.getElem?_eq_getElem hiP] at h9
    simp[wyI,hlt] at h9
    exact h9
   have HLT:Hid (P[i].2.length=L):=by show _=_;rw[HPI.out,iL_length,wyL_length]
   rw[HLT.out] at c0
   have HINT:Hid (∀u,BtS W0 gS u→IntS u dq (iL (wyL n L i))):=fun u hu=>by
    rw[←HPI.out]
    intro k hk
    obtain⟨g,o,f1,f2,f3,f4⟩:=hints k hk
    exact⟨g,o,f1,Nat.lt_of_lt_of_le f2 hu.size,(hu.cell (p:=⟨g,_,none⟩) f2 (by show g≠gS;have:=HB3.out;omega)).trans f4⟩
   have HELD:Hid (∀u,BtS W0 gS u→(u.cell? ⟨w.heap.size,0,none⟩=some (.slice a n ca)∧u.cell? ⟨w.heap.size,1,none⟩=some (.slice b n cb)∧u.cell? ⟨w.heap.size,2,none⟩=some (.slice c n cc))∧u.cell? ⟨gx,i,none⟩=some (.slice dq L cq)):=fun u hu=>⟨(hu.hbox HHB.out (Nat.ne_of_lt (Nat.lt_trans (Nat.lt_succ_self _) HXS.out))).cells,(hu.cell (p:=⟨gx,_,none⟩) hgx (by show gx≠gS;have:=HB3.out;omega)).trans c0⟩
   have HWY:Hid (∀u,BtS W0 gS u→Calls Tryz.prog 35 #[.agg #[.slice a n ca,.slice b n cb,.slice c n cc],.slice dq L cq,.slice d L cd] u fun e w'=>e=.returned (.agg #[.bool (qF (FW i)).1,.string (qF (FW i)).2.1,.string (qF (FW i)).2.2])∧Below u.heap.size u w'):=fun u hu=>by
    have h9:=HWO.out i dq cq u (hu.below HW0.out (by have:=HXS.out;omega)) (HINT.out u hu)
    rw[←HFE.out] at h9
    exact h9
   have HAD:Hid (∀U:World,Calls Tryz.prog 36 #[.agg #[.bool (sgn (sumR FW i)),.string (nu (sumR FW i)),.string (de (sumR FW i))],.agg #[.bool (qF (FW i)).1,.string (qF (FW i)).2.1,.string (qF (FW i)).2.2]] U fun e w'=>e=.returned (.agg #[.bool (sgn (sumR FW (i+1))),.string (nu (sumR FW (i+1))),.string (de (sumR FW (i+1)))])∧Below U.heap.size U w'):=fun U=>by
    have h8:=rAddF_any (sgn (sumR FW i)) (sgn (FW i)) (nu (sumR FW i)) (de (sumR FW i)) (nu (FW i)) (de (FW i)) U (by rw[own_size];have:=HSS.out i hi;omega) (by rw[own_size];have:=HSQ.out i;omega)
    rw[val_own,val_own] at h8
    exact h8
   clear c0 hints HINT HPI HLT
   go_upto_region 9 with fail
   replace HS:=hid (HS.out.step (Below.refl _ _).drew)
   replace HQ:=hid HQ.out.drew
   refine wp_region_held_drew (S:=fun u=>(u.cell? ⟨w.heap.size,0,none⟩=some (.slice a n ca)∧u.cell? ⟨w.heap.size,1,none⟩=some (.slice b n cb)∧u.cell? ⟨w.heap.size,2,none⟩=some (.slice c n cc))∧u.cell? ⟨gx,i,none⟩=some (.slice dq L cq)) (by kernel_rfl) (HELD.out _ HS.out) (fun hSd=>?_)
   generalize wr.drew=u0 at *
   refine wpAnyH_take (i:=0) (oi:=_) (v:=.agg #[.slice a n ca,.slice b n cb,.slice c n cc]) rfl (by kernel_rfl) (by kernel_rfl) (by kernel_rfl) (fun _ _ _ h=>h) (Or.inl ⟨by rfl,?_⟩) (by assumption) ?_
   ·intro u' hSu
    (try simp only[List.getElem_toArray,List.getElem_cons_zero])
    obtain⟨⟨s0,s1,s2⟩,s3⟩:=hSu
    go_simp
   (try simp only[List.getElem_toArray,List.getElem_cons_zero])
   (try simp only[Act.put,List.setIfInBounds_toArray,List.set_cons_zero,List.set_cons_succ])
   refine wpAnyH_take (i:=1) (oi:=_) (v:=.slice (some ⟨gx,0,none⟩) N cx) rfl (by kernel_rfl) (by kernel_rfl) (by kernel_rfl) (fun _ _ _ h=>h) (Or.inl ⟨by rfl,?_⟩) (by assumption) ?_
   ·intro u' hSu
    (try simp only[List.getElem_toArray,List.getElem_cons_zero,List.getElem_cons_succ])
    go_simp
   (try simp only[List.getElem_toArray,List.getElem_cons_zero,List.getElem_cons_succ])
   (try simp only[Act.put,List.setIfInBounds_toArray,List.set_cons_zero,List.set_cons_succ])
   refine wpAnyH_take (i:=2) (oi:=_) (v:=.int .i64 (i:Nat)) rfl (by kernel_rfl) (by kernel_rfl) (by kernel_rfl) (fun _ _ _ h=>h) (Or.inl ⟨by rfl,?_⟩) (by assumption) ?_
   ·intro u' hSu
    (try simp only[List.getElem_toArray,List.getElem_cons_zero,List.getElem_cons_succ])
    go_simp
   (try simp only[List.getElem_toArray,List.getElem_cons_zero,List.getElem_cons_succ])
   (try simp only[Act.put,List.setIfInBounds_toArray,List.set_cons_zero,List.set_cons_succ])
   refine wpAnyH_take (i:=3) (oi:=_) (v:=.pointer (some ⟨gx,i,none⟩)) rfl (by kernel_rfl) (by kernel_rfl) (by kernel_rfl) (fun _ _ _ h=>h) (Or.inl ⟨by rfl,?_⟩) (by assumption) ?_
   ·intro u' hSu
    (try simp only[List.getElem_toArray,List.getElem_cons_zero,List.getElem_cons_succ])
    go_simp
   (try simp only[List.getElem_toArray,List.getElem_cons_zero,List.getElem_cons_succ])
   (try simp only[Act.put,List.setIfInBounds_toArray,List.set_cons_zero,List.set_cons_succ])
   refine wpAnyH_take (i:=4) (oi:=_) (v:=.slice dq L cq) rfl (by kernel_rfl) (by kernel_rfl) (by kernel_rfl) (fun _ _ _ h=>h) (Or.inl ⟨by rfl,?_⟩) (by assumption) ?_
   ·intro u' hSu
    (try simp only[List.getElem_toArray,List.getElem_cons_zero,List.getElem_cons_succ])
    obtain⟨⟨s0,s1,s2⟩,s3⟩:=hSu
    go_simp
   (try simp only[List.getElem_toArray,List.getElem_cons_zero,List.getElem_cons_succ])
   (try simp only[Act.put,List.setIfInBounds_toArray,List.set_cons_zero,List.set_cons_succ])
   refine wpAnyH_take (i:=5) (oi:=_) (v:=.slice d L cd) rfl (by kernel_rfl) (by kernel_rfl) (by kernel_rfl) (fun _ _ _ h=>h) (Or.inl ⟨by rfl,?_⟩) (by assumption) ?_
   ·intro u' hSu
    (try simp only[List.getElem_toArray,List.getElem_cons_zero,List.getElem_cons_succ])
    go_simp
   (try simp only[List.getElem_toArray,List.getElem_cons_zero,List.getElem_cons_succ])
   (try simp only[Act.put,List.setIfInBounds_toArray,List.set_cons_zero,List.set_cons_succ])
   refine wpAnyH_ready (rs:=[6,7]) (by kernel_rfl) (by simp) (AllReadyH.cons rfl ?_ (AllReadyH.cons rfl ?_ (AllReadyH.nil)))
   ·intro K' hK'
    (try simp only[List.getElem_toArray,List.getElem_cons_zero,List.getElem_cons_succ])
    go_simp
    refine(HWY.out _ HS.out).mono ?_
    rintro e u1 ⟨rfl,hb⟩
    replace HS:=hid (HS.out.step hb)
    replace HQ:=hid (HQ.out.below hb HQ.out.lt)
    refine hK'.out _ _ (HELD.out _ HS.out) (fun hSe=>?_)
    clear hK' K' hSd
    have hSd:=hSe
    clear hSe hb
    (try simp only[List.getElem_toArray,List.getElem_cons_zero,List.getElem_cons_succ])
    (try simp only[Act.put,List.setIfInBounds_toArray,List.set_cons_zero,List.set_cons_succ])
    refine wpAnyH_ready (rs:=[7]) (by kernel_rfl) (by simp) (AllReadyH.cons rfl ?_ (AllReadyH.nil))
    ·intro K' hK'
     (try simp only[List.getElem_toArray,List.getElem_cons_zero,List.getElem_cons_succ])
     go_simp
     have hbn:=(Below.refl u1.heap.size u1).alloc (Nat.le_refl _) (FC false ⟨#[]⟩ ⟨#[]⟩)
     have HFX:=hid (Box.new u1 false ⟨#[]⟩ ⟨#[]⟩)
     have HGF:Hid (W0.heap.size≤u1.heap.size):=HS.out.size
     replace HS:=hid (HS.out.step hbn)
     replace HQ:=hid (HQ.out.below hbn HQ.out.lt)
     refine hK'.out _ _ (HELD.out _ HS.out) (fun hSe=>?_)
     clear hK' K' hSd hbn
     have hSd:=hSe
     clear hSe
     obtain⟨gf,hgfe⟩:∃x,u1.heap.size=x:=⟨_,rfl⟩
     obtain⟨u2,hV⟩:∃x,u1.alloc (FC false ⟨#[]⟩ ⟨#[]⟩)=x:=⟨_,rfl⟩
     rw[hV] at HFX HS HQ hSd
     rw[hgfe] at HFX HGF
     simp only[hV]
     simp only[hgfe]
     clear hgfe hV
     (try simp only[List.getElem_toArray,List.getElem_cons_zero,List.getElem_cons_succ])
     (try simp only[Act.put,List.setIfInBounds_toArray,List.set_cons_zero,List.set_cons_succ])
     obtain⟨k0,k1,k2,f0,f1,f2⟩:=HFX.out.facts
     refine wpAnyH_ready (rs:=[8]) (by kernel_rfl) (by simp) (AllReadyH.cons rfl ?_ (AllReadyH.nil))
     ·intro K' hK'
      (try simp only[List.getElem_toArray,List.getElem_cons_zero,List.getElem_cons_succ])
      go_simp
      have HFN:=hid (HFX.out.put (qF (FW i)).1 (qF (FW i)).2.1 (qF (FW i)).2.2)
      have HQN:=hid (HQ.out.far3 (Nat.ne_of_lt (Nat.lt_of_lt_of_le HGL.out HGF.out)) (.bool (qF (FW i)).1) (.string (qF (FW i)).2.1) (.string (qF (FW i)).2.2))
      have HSN:=hid (HS.out.put3 gf (.bool (qF (FW i)).1) (.string (qF (FW i)).2.1) (.string (qF (FW i)).2.2) (.inr HGF.out))
      refine hK'.out _ _ (HELD.out _ HSN.out) (fun _=>wpAnyH_done (by kernel_rfl) ?_ _)
      clear hK' K' hSd k0 k1 k2 f0 f1 f2 HS HFX HQ
      generalize (((u2.setCell ⟨gf,0,none⟩ (.bool (qF (FW i)).1)).setCell ⟨gf,1,none⟩ (.string (qF (FW i)).2.1)).setCell ⟨gf,2,none⟩ (.string (qF (FW i)).2.2))=Wb at *
      obtain⟨k0,k1,k2, -⟩:=HQN.out.facts
      obtain⟨j0,j1,j2, -⟩:=HFN.out.facts
      go_wp2_with fail
      refine(HAD.out _).mono ?_
      rintro e q1 ⟨rfl,hb⟩
      replace HSN:=hid (HSN.out.step hb)
      replace HQN:=hid (HQN.out.below hb HQN.out.lt)
      clear hb k0 k1 k2 j0 j1 j2 HFN
      obtain⟨k0,k1,k2,f0,f1,f2⟩:=HQN.out.facts
      have HQY:=hid (HQN.out.put (sgn (sumR FW (i+1))) (nu (sumR FW (i+1))) (de (sumR FW (i+1))))
      have HSY:=hid (HSN.out.put3 gS (.bool (sgn (sumR FW (i+1)))) (.string (nu (sumR FW (i+1)))) (.string (de (sumR FW (i+1)))) (.inl rfl))
      clear HQN HSN
      go_wp2
      go_roundw
      case rel=>exact⟨i+1,by omega,by go_num,HQY,HSY⟩
      case measure=>simp[intOf];omega
   ·intro K' hK'
    (try simp only[List.getElem_toArray,List.getElem_cons_zero,List.getElem_cons_succ])
    go_simp
    have hbn:=(Below.refl u0.heap.size u0).alloc (Nat.le_refl _) (FC false ⟨#[]⟩ ⟨#[]⟩)
    have HFX:=hid (Box.new u0 false ⟨#[]⟩ ⟨#[]⟩)
    have HGF:Hid (W0.heap.size≤u0.heap.size):=HS.out.size
    replace HS:=hid (HS.out.step hbn)
    replace HQ:=hid (HQ.out.below hbn HQ.out.lt)
    refine hK'.out _ _ (HELD.out _ HS.out) (fun hSe=>?_)
    clear hK' K' hSd hbn
    have hSd:=hSe
    clear hSe
    obtain⟨gf,hgfe⟩:∃x,u0.heap.size=x:=⟨_,rfl⟩
    obtain⟨u1,hV⟩:∃x,u0.alloc (FC false ⟨#[]⟩ ⟨#[]⟩)=x:=⟨_,rfl⟩
    rw[hV] at HFX HS HQ hSd
    rw[hgfe] at HFX HGF
    simp only[hV]
    simp only[hgfe]
    clear hgfe hV
    (try simp only[List.getElem_toArray,List.getElem_cons_zero,List.getElem_cons_succ])
    (try simp only[Act.put,List.setIfInBounds_toArray,List.set_cons_zero,List.set_cons_succ])
    refine wpAnyH_ready (rs:=[6]) (by kernel_rfl) (by simp) (AllReadyH.cons rfl ?_ (AllReadyH.nil))
    ·intro K' hK'
     (try simp only[List.getElem_toArray,List.getElem_cons_zero,List.getElem_cons_succ])
     go_simp
     refine(HWY.out _ HS.out).mono ?_
     rintro e u2 ⟨rfl,hb⟩
     replace HFX:=hid (HFX.out.below hb HFX.out.lt)
     replace HS:=hid (HS.out.step hb)
     replace HQ:=hid (HQ.out.below hb HQ.out.lt)
     refine hK'.out _ _ (HELD.out _ HS.out) (fun hSe=>?_)
     clear hK' K' hSd
     have hSd:=hSe
     clear hSe hb
     (try simp only[List.getElem_toArray,List.getElem_cons_zero,List.getElem_cons_succ])
     (try simp only[Act.put,List.setIfInBounds_toArray,List.set_cons_zero,List.set_cons_succ])
     obtain⟨k0,k1,k2,f0,f1,f2⟩:=HFX.out.facts
     refine wpAnyH_ready (rs:=[8]) (by kernel_rfl) (by simp) (AllReadyH.cons rfl ?_ (AllReadyH.nil))
     ·intro K' hK'
      (try simp only[List.getElem_toArray,List.getElem_cons_zero,List.getElem_cons_succ])
      go_simp
      have HFN:=hid (HFX.out.put (qF (FW i)).1 (qF (FW i)).2.1 (qF (FW i)).2.2)
      have HQN:=hid (HQ.out.far3 (Nat.ne_of_lt (Nat.lt_of_lt_of_le HGL.out HGF.out)) (.bool (qF (FW i)).1) (.string (qF (FW i)).2.1) (.string (qF (FW i)).2.2))
      have HSN:=hid (HS.out.put3 gf (.bool (qF (FW i)).1) (.string (qF (FW i)).2.1) (.string (qF (FW i)).2.2) (.inr HGF.out))
      refine hK'.out _ _ (HELD.out _ HSN.out) (fun _=>wpAnyH_done (by kernel_rfl) ?_ _)
      clear hK' K' hSd k0 k1 k2 f0 f1 f2 HS HFX HQ
      generalize (((u2.setCell ⟨gf,0,none⟩ (.bool (qF (FW i)).1)).setCell ⟨gf,1,none⟩ (.string (qF (FW i)).2.1)).setCell ⟨gf,2,none⟩ (.string (qF (FW i)).2.2))=Wb at *
      obtain⟨k0,k1,k2, -⟩:=HQN.out.facts
      obtain⟨j0,j1,j2, -⟩:=HFN.out.facts
      go_wp2_with fail
      refine(HAD.out _).mono ?_
      rintro e q1 ⟨rfl,hb⟩
      replace HSN:=hid (HSN.out.step hb)
      replace HQN:=hid (HQN.out.below hb HQN.out.lt)
      clear hb k0 k1 k2 j0 j1 j2 HFN
      obtain⟨k0,k1,k2,f0,f1,f2⟩:=HQN.out.facts
      have HQY:=hid (HQN.out.put (sgn (sumR FW (i+1))) (nu (sumR FW (i+1))) (de (sumR FW (i+1))))
      have HSY:=hid (HSN.out.put3 gS (.bool (sgn (sumR FW (i+1)))) (.string (nu (sumR FW (i+1)))) (.string (de (sumR FW (i+1)))) (.inl rfl))
      clear HQN HSN
      go_wp2
      go_roundw
      case rel=>exact⟨i+1,by omega,by go_num,HQY,HSY⟩
      case measure=>simp[intOf];omega
  ·obtain rfl:N=i:=by omega
   rw[HTOT.out] at HQ
   have hrb:=HS.out.box HRB.out (by have:=HXS.out;omega)
   obtain⟨k0,k1,k2,f0,f1,f2⟩:=hrb.facts
   obtain⟨p0,p1,p2, -⟩:=HQ.out.facts
   have HBE:=hid (HS.out.below HW0.out (by have:=HXS.out;omega))
   go_wp2
   refine bodyPost_ret ((hrb.put _ _ _).result2 rfl _ rfl) rfl ?_
   exact⟨rfl,below_put HBE.out (by omega) _ _ _⟩
end Go.Proofs.YtgamblainfkiaaaGreatDoor
