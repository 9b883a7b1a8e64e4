/- The answer's Turns. -/
import Derived.Test.YtmbjmiioggfneaaGreatDoorRegTCxNum
import Derived.Test.YtmbjmiioggfneaaGreatDoorHexSCxCeyD
set_option linter.unusedVariables false
set_option linter.unusedSimpArgs false
namespace Go.Proofs.YtmbjmiioggfneaaGreatDoor
open Go.RowKit Go.Shelf
theorem bytes_likeT {a b:ByteArray} (h:a.toList=b.toList):a=b:=by
 rw[Go.Lib.toList_data,Go.Lib.toList_data] at h
 exact ByteArray.ext (Array.toList_inj.1 h)
theorem qF_sameT {p q:Rat} (h:qF p=qF q):p=q:=by
 have:=congrArg frQ h
 rwa [frQ_qF,frQ_qF] at this
set_option maxRecDepth 100000 in
set_option maxHeartbeats 4000000 in
theorem rTurns_any (a:Option Addr) (ca n:Nat) (X:Nat→Nat→Fr) (w:World) (hR:FsS w a (mF n X)) (hm:ChX n X):
  Calls Tryz.prog 25 #[.slice a n ca] w fun e w'=>Below w.heap.size w w'∧((∃k,OneC n (rowQ X) k∧e=.returned (.tuple #[.bool (trB n (stQ (rowQ X) (clN n (cmsB n (rowQ X)) k)) (rowQ X)),.int .i64 0]))∨(true∈(clB n (rowQ X)).drop (fstT (clB n (rowQ X))+1)∧e=.returned (.tuple #[.bool false,.int .i64 13]))):=by
 have h1:=hm.one
 have h5:=hm.five
 have HST:=hid (rStill_any a ca n X w hR hm)
 have HCM:=hid hm
 have HR:=hid hR
 clear hR hm
 go_enter Tryz.func25,Tryz.ntmps25
 go_wp2_with fail
 refine HST.out.mono ?_
 rintro e1 w1 ⟨hbW,h9⟩
 have HBW:=hid hbW
 clear hbW HST
 rcases h9 with ⟨k0,pv,hone,rfl,hrow⟩ |⟨hmany,rfl⟩
 ·have HONE:=hid hone
  have HFV:=hid (stQ_fit hone.cls HCM.out)
  obtain⟨v,hv⟩:∃v,stQ (rowQ X) (clN n (cmsB n (rowQ X)) k0)=v:=⟨_,rfl⟩
  rw[hv] at hrow HFV
  have HV:=hid hv
  obtain⟨pd,cp,hpv,hpf⟩:=hrow.fr
  subst hpv
  rw[lF_length]
  have HPF:=hid hpf
  have HRF:=hid (HR.out.below HBW.out)
  clear hv hrow hone hpf
  have HI0:Hid ((true=true)↔∀s t,s<0→t<n→v s*rowQ X s t=v t*rowQ X t s):=⟨fun _ s t hs=>absurd hs (by omega),fun _=>rfl⟩
  go_wp2_with fail
  go_loopw [6,7] (fun okv iv wr=>∃(i:Nat) (b:Bool),i≤n∧iv=.int .i64 i∧okv=.bool b∧Hid (b=true↔∀s t,s<i→t<n→v s*rowQ X s t=v t*rowQ X t s)∧Hid (Below w1.heap.size w1 wr)) (fun _ iv _=>n - (intOf iv).toNat)
  case atStart=>exact⟨0,true,Nat.zero_le _,rfl,rfl,⟨fun _=>HI0.out.1 trivial,fun _=>rfl⟩,Below.refl _ _⟩
  case round=>
   clear HI0
   obtain⟨i,b,hi,rfl,rfl,HI,HB⟩:=hrel
   by_cases hlt:i<n
   ·have HJ0:Hid (b=true↔(∀s t,s<i→t<n→v s*rowQ X s t=v t*rowQ X t s)∧∀t,t<0→v i*rowQ X i t=v t*rowQ X t i):=⟨fun h=>⟨HI.out.1 h,fun t ht=>absurd ht (by omega)⟩,fun h=>HI.out.2 h.1⟩
    clear HI
    go_wp2_with fail
    go_loopw [6,8] (fun okv kv wr=>∃(k:Nat) (b:Bool),k≤n∧kv=.int .i64 k∧okv=.bool b∧Hid (b=true↔(∀s t,s<i→t<n→v s*rowQ X s t=v t*rowQ X t s)∧∀t,t<k→v i*rowQ X i t=v t*rowQ X t i)∧Hid (Below w1.heap.size w1 wr)) (fun _ kv _=>n - (intOf kv).toNat)
    case atStart=>exact⟨0,b,Nat.zero_le _,rfl,rfl,HJ0,HB⟩
    case round=>
     clear HJ0 HB
     obtain⟨k,b,hk,rfl,rfl,HJ,HB⟩:=hrel
     by_cases hlk:k<n
     ·have HTT:Hid (b=true→v i*rowQ X i k=v k*rowQ X k i→(true=true↔(∀s t,s<i→t<n→v s*rowQ X s t=v t*rowQ X t s)∧∀t,t<k+1→v i*rowQ X i t=v t*rowQ X t i)):=fun h he=>⟨fun _=>⟨(HJ.out.1 h).1,fun t ht=>by
       by_cases e:t=k
       ·rw[e];exact he
       ·exact(HJ.out.1 h).2 t (by omega)⟩,fun _=>rfl⟩
      have HTF:Hid (b=false∨¬v i*rowQ X i k=v k*rowQ X k i→(false=true↔(∀s t,s<i→t<n→v s*rowQ X s t=v t*rowQ X t s)∧∀t,t<k+1→v i*rowQ X i t=v t*rowQ X t i)):=fun h=>⟨fun h9=>absurd h9 (by decide),fun h9=>by
       rcases h with h |h
       ·have h8:=HJ.out.2 ⟨h9.1,fun t ht=>h9.2 t (by omega)⟩
        rw[h] at h8
        exact h8
       ·exact absurd (h9.2 k (by omega)) h⟩
      obtain⟨g,o,gi,oi,ci,hae,hg,hgi,x0,x1,x2,x3⟩:=HRF.out.at hlt hlk
      subst hae
      obtain⟨g',o',gk,ok,ck,hae,hg',hgk,y0,y1,y2,y3⟩:=HRF.out.at hlk hlt
      cases hae
      obtain⟨gp,op,hpe,hgp,z0,z1,z2⟩:=HPF.out i (by rw[lF_length];exact hlt)
      subst hpe
      obtain⟨gp',op',hpe,hgp',t0,t1,t2⟩:=HPF.out k (by rw[lF_length];exact hlk)
      cases hpe
      simp only[lF_get] at z0 z1 z2 t0 t1 t2
      have q1:=HFV.out i
      have q2:=HFV.out k
      have r3:=HCM.out.few i k hlt hlk
      have r4:=HCM.out.few k i hlk hlt
      have HM1:Hid (∀U:World,Calls Tryz.prog 59 #[.agg #[.bool (qF (v i)).1,.string (qF (v i)).2.1,.string (qF (v i)).2.2],.agg #[.bool (X i k).1,.string (X i k).2.1,.string (X i k).2.2]] U fun e w'=>e=.returned (.agg #[.bool (qF (v i*rowQ X i k)).1,.string (qF (v i*rowQ X i k)).2.1,.string (qF (v i*rowQ X i k)).2.2])∧Below U.heap.size U w'):=fun U=>by
       have h9:=rMulFF (qF (v i)) (X i k) U (by rw[fz_q];have:=fits_qw q1;omega) (by omega)
       rw[frQ_qF] at h9
       exact h9
      have HM2:Hid (∀U:World,Calls Tryz.prog 59 #[.agg #[.bool (qF (v k)).1,.string (qF (v k)).2.1,.string (qF (v k)).2.2],.agg #[.bool (X k i).1,.string (X k i).2.1,.string (X k i).2.2]] U fun e w'=>e=.returned (.agg #[.bool (qF (v k*rowQ X k i)).1,.string (qF (v k*rowQ X k i)).2.1,.string (qF (v k*rowQ X k i)).2.2])∧Below U.heap.size U w'):=fun U=>by
       have h9:=rMulFF (qF (v k)) (X k i) U (by rw[fz_q];have:=fits_qw q2;omega) (by omega)
       rw[frQ_qF] at h9
       exact h9
      clear q1 q2 r3 r4 HJ
      obtain⟨XA,hXA⟩:∃x,v i*rowQ X i k=x:=⟨_,rfl⟩
      obtain⟨XB,hXB⟩:∃x,v k*rowQ X k i=x:=⟨_,rfl⟩
      rw[hXA] at HM1
      rw[hXB] at HM2
      simp only[hXA,hXB] at HTT HTF
      clear hXA hXB
      generalize qF (v i)=k1 at *
      generalize X i k=k2 at *
      generalize qF (v k)=k3 at *
      generalize X k i=k4 at *
      obtain⟨an,ax,ay⟩:=k1
      obtain⟨bn,bx,by_⟩:=k2
      obtain⟨cn,cx,cy⟩:=k3
      obtain⟨dn,dx,dy⟩:=k4
      simp only at x1 x2 x3 y1 y2 y3 z0 z1 z2 t0 t1 t2 HM1 HM2
      have HELD:Hid (∀u,Below w1.heap.size w1 u→u.cell? ⟨gp,op+i*3,none⟩=some (.bool an)∧u.cell? ⟨gp,op+i*3+1,none⟩=some (.string ax)∧u.cell? ⟨gp,op+i*3+2,none⟩=some (.string ay)∧u.cell? ⟨g,o+i,none⟩=some (.slice (some ⟨gi,oi,none⟩) n ci)∧u.cell? ⟨gi,oi+k*3,none⟩=some (.bool bn)∧u.cell? ⟨gi,oi+k*3+1,none⟩=some (.string bx)∧u.cell? ⟨gi,oi+k*3+2,none⟩=some (.string by_)):=fun u h=>⟨(h.cell (p:=⟨gp,_,none⟩) hgp).trans z0,(h.cell (p:=⟨gp,_,none⟩) hgp).trans z1,(h.cell (p:=⟨gp,_,none⟩) hgp).trans z2,(h.cell (p:=⟨g,_,none⟩) hg).trans x0,(h.cell (p:=⟨gi,_,none⟩) hgi).trans x1,(h.cell (p:=⟨gi,_,none⟩) hgi).trans x2,(h.cell (p:=⟨gi,_,none⟩) hgi).trans x3⟩
      have HELD2:Hid (∀u,Below w1.heap.size w1 u→u.cell? ⟨gp,op+k*3,none⟩=some (.bool cn)∧u.cell? ⟨gp,op+k*3+1,none⟩=some (.string cx)∧u.cell? ⟨gp,op+k*3+2,none⟩=some (.string cy)∧u.cell? ⟨g,o+k,none⟩=some (.slice (some ⟨gk,ok,none⟩) n ck)∧u.cell? ⟨gk,ok+i*3,none⟩=some (.bool dn)∧u.cell? ⟨gk,ok+i*3+1,none⟩=some (.string dx)∧u.cell? ⟨gk,ok+i*3+2,none⟩=some (.string dy)):=fun u h=>⟨(h.cell (p:=⟨gp,_,none⟩) hgp).trans t0,(h.cell (p:=⟨gp,_,none⟩) hgp).trans t1,(h.cell (p:=⟨gp,_,none⟩) hgp).trans t2,(h.cell (p:=⟨g,_,none⟩) hg).trans y0,(h.cell (p:=⟨gk,_,none⟩) hgk).trans y1,(h.cell (p:=⟨gk,_,none⟩) hgk).trans y2,(h.cell (p:=⟨gk,_,none⟩) hgk).trans y3⟩
      clear x0 x1 x2 x3 y0 y1 y2 y3 z0 z1 z2 t0 t1 t2
      go_upto_region 11 with fail
      replace HB:=hid HB.out.drew
      refine wp_region_held_drew (S:=fun u=>u.cell? ⟨gp,op+i*3,none⟩=some (.bool an)∧u.cell? ⟨gp,op+i*3+1,none⟩=some (.string ax)∧u.cell? ⟨gp,op+i*3+2,none⟩=some (.string ay)∧u.cell? ⟨g,o+i,none⟩=some (.slice (some ⟨gi,oi,none⟩) n ci)∧u.cell? ⟨gi,oi+k*3,none⟩=some (.bool bn)∧u.cell? ⟨gi,oi+k*3+1,none⟩=some (.string bx)∧u.cell? ⟨gi,oi+k*3+2,none⟩=some (.string by_)) (by kernel_rfl) (HELD.out _ HB.out) (fun hSd=>?_)
      generalize wr.drew=u0 at *
      refine tkB 0 (.slice (some ⟨gp,op,none⟩) n cp) ?_
      try simp only[gE,aP]
      refine tkB 1 (.int .i64 (i:Nat)) ?_
      try simp only[gE,aP]
      refine tkB 2 (.pointer (some ⟨gp,op+i*3,none⟩)) ?_
      try simp only[gE,aP]
      refine tkB 3 (.agg #[.bool an,.string ax,.string ay]) ?_
      try simp only[gE,aP]
      refine tkB 4 (.slice (some ⟨g,o,none⟩) n ca) ?_
      try simp only[gE,aP]
      refine tkB 5 (.int .i64 (i:Nat)) ?_
      try simp only[gE,aP]
      refine tkB 6 (.pointer (some ⟨g,o+i,none⟩)) ?_
      try simp only[gE,aP]
      refine tkB 7 (.slice (some ⟨gi,oi,none⟩) n ci) ?_
      try simp only[gE,aP]
      refine tkB 8 (.int .i64 (k:Nat)) ?_
      try simp only[gE,aP]
      refine tkB 9 (.pointer (some ⟨gi,oi+k*3,none⟩)) ?_
      try simp only[gE,aP]
      refine tkB 10 (.agg #[.bool bn,.string bx,.string by_]) ?_
      try simp only[gE,aP]
      refine rdA [11,12] (cA ?_ (cA ?_ AllReadyH.nil))
      ·intro K' hK'
       go_simp
       refine(HM1.out _).mono ?_
       rintro e q1 ⟨rfl,hb⟩
       replace HB:=hid (HB.out.trans (hb.mono HB.out.size))
       refine hK'.out _ _ (HELD.out _ HB.out) (fun hSe=>?_)
       clear hb
       clear hK' K' hSd
       have hSd:=hSe
       clear hSe
       try simp only[gE,aP]
       refine rdA [12] (cA ?_ AllReadyH.nil)
       ·intro K' hK'
        go_simp
        have hbA:=(Below.refl q1.heap.size q1).alloc (Nat.le_refl _) (FC false ⟨#[]⟩ ⟨#[]⟩)
        have HYA:=hid (Box.new q1 false ⟨#[]⟩ ⟨#[]⟩)
        have HYAG:Hid (w1.heap.size≤q1.heap.size):=HB.out.size
        replace HB:=hid (HB.out.trans (hbA.mono HYAG.out))
        refine hK'.out _ _ (HELD.out _ HB.out) (fun hSe=>?_)
        clear hbA
        clear hK' K' hSd
        have hSd:=hSe
        clear hSe
        obtain⟨gya,hgy⟩:∃x,q1.heap.size=x:=⟨_,rfl⟩
        obtain⟨Vy,hV⟩:∃x,q1.alloc (FC false ⟨#[]⟩ ⟨#[]⟩)=x:=⟨_,rfl⟩
        rw[hgy] at HYA HYAG
        rw[hV] at HYA HB hSd
        simp only[hV]
        simp only[hgy]
        clear hgy hV
        try simp only[gE,aP]
        obtain⟨k0,k1,k2⟩:=HYA.out.trio
        have f0:=HYA.out.fz 0
        have f1:=HYA.out.fz 1
        have f2:=HYA.out.fz 2
        refine rdA [13] (cA ?_ AllReadyH.nil)
        ·intro K' hK'
         go_simp
         replace HYA:=hid (HYA.out.put (qF (XA)).1 (qF (XA)).2.1 (qF (XA)).2.2)
         replace HB:=hid (((HB.out.setCell (p:=⟨gya,0,none⟩) HYAG.out (.bool (qF (XA)).1)).setCell (p:=⟨gya,1,none⟩) HYAG.out (.string (qF (XA)).2.1)).setCell (p:=⟨gya,2,none⟩) HYAG.out (.string (qF (XA)).2.2))
         refine hK'.out _ _ (HELD.out _ HB.out) (fun _=>wpAnyH_done (by kernel_rfl) ?_ _)
         clear hK' K' k0 k1 k2 f0 f1 f2 hSd
         clear HELD
         have HELD:=HELD2
         generalize (((Vy.setCell ⟨gya,0,none⟩ (.bool (qF (XA)).1)).setCell ⟨gya,1,none⟩ (.string (qF (XA)).2.1)).setCell ⟨gya,2,none⟩ (.string (qF (XA)).2.2))=w9 at *
         go_upto_region 12 with fail
         replace HYA:=hid HYA.out.drew
         replace HB:=hid HB.out.drew
         refine wp_region_held_drew (S:=fun u=>u.cell? ⟨gp,op+k*3,none⟩=some (.bool cn)∧u.cell? ⟨gp,op+k*3+1,none⟩=some (.string cx)∧u.cell? ⟨gp,op+k*3+2,none⟩=some (.string cy)∧u.cell? ⟨g,o+k,none⟩=some (.slice (some ⟨gk,ok,none⟩) n ck)∧u.cell? ⟨gk,ok+i*3,none⟩=some (.bool dn)∧u.cell? ⟨gk,ok+i*3+1,none⟩=some (.string dx)∧u.cell? ⟨gk,ok+i*3+2,none⟩=some (.string dy)) (by kernel_rfl) (HELD.out _ HB.out) (fun hSd=>?_)
         generalize w9.drew=u9 at *
         refine tkB 0 (.slice (some ⟨gp,op,none⟩) n cp) ?_
         try simp only[gE,aP]
         refine tkB 1 (.int .i64 (k:Nat)) ?_
         try simp only[gE,aP]
         refine tkB 2 (.pointer (some ⟨gp,op+k*3,none⟩)) ?_
         try simp only[gE,aP]
         refine tkB 3 (.agg #[.bool cn,.string cx,.string cy]) ?_
         try simp only[gE,aP]
         refine tkB 4 (.slice (some ⟨g,o,none⟩) n ca) ?_
         try simp only[gE,aP]
         refine tkB 5 (.int .i64 (k:Nat)) ?_
         try simp only[gE,aP]
         refine tkB 6 (.pointer (some ⟨g,o+k,none⟩)) ?_
         try simp only[gE,aP]
         refine tkB 7 (.slice (some ⟨gk,ok,none⟩) n ck) ?_
         try simp only[gE,aP]
         refine tkB 8 (.int .i64 (i:Nat)) ?_
         try simp only[gE,aP]
         refine tkB 9 (.pointer (some ⟨gk,ok+i*3,none⟩)) ?_
         try simp only[gE,aP]
         refine tkB 10 (.agg #[.bool dn,.string dx,.string dy]) ?_
         try simp only[gE,aP]
         refine rdA [11,12] (cA ?_ (cA ?_ AllReadyH.nil))
         ·intro K' hK'
          go_simp
          refine(HM2.out _).mono ?_
          rintro e q1 ⟨rfl,hb⟩
          replace HYA:=hid (HYA.out.below hb HYA.out.lt)
          replace HB:=hid (HB.out.trans (hb.mono HB.out.size))
          refine hK'.out _ _ (HELD.out _ HB.out) (fun hSe=>?_)
          clear hb
          clear hK' K' hSd
          have hSd:=hSe
          clear hSe
          try simp only[gE,aP]
          refine rdA [12] (cA ?_ AllReadyH.nil)
          ·intro K' hK'
           go_simp
           have hbA:=(Below.refl q1.heap.size q1).alloc (Nat.le_refl _) (FC false ⟨#[]⟩ ⟨#[]⟩)
           have HYB:=hid (Box.new q1 false ⟨#[]⟩ ⟨#[]⟩)
           have HYBG:Hid (w1.heap.size≤q1.heap.size):=HB.out.size
           have HYBHYA:Hid (gya≠q1.heap.size):=Nat.ne_of_lt HYA.out.lt
           replace HYA:=hid (HYA.out.below hbA HYA.out.lt)
           replace HB:=hid (HB.out.trans (hbA.mono HYBG.out))
           refine hK'.out _ _ (HELD.out _ HB.out) (fun hSe=>?_)
           clear hbA
           clear hK' K' hSd
           have hSd:=hSe
           clear hSe
           obtain⟨gyb,hgy⟩:∃x,q1.heap.size=x:=⟨_,rfl⟩
           obtain⟨Vy,hV⟩:∃x,q1.alloc (FC false ⟨#[]⟩ ⟨#[]⟩)=x:=⟨_,rfl⟩
           rw[hgy] at HYB HYBG HYBHYA
           rw[hV] at HYB HB hSd HYA
           simp only[hV]
           simp only[hgy]
           clear hgy hV
           try simp only[gE,aP]
           obtain⟨k0,k1,k2⟩:=HYB.out.trio
           have f0:=HYB.out.fz 0
           have f1:=HYB.out.fz 1
           have f2:=HYB.out.fz 2
           refine rdA [13] (cA ?_ AllReadyH.nil)
           ·intro K' hK'
            go_simp
            replace HYB:=hid (HYB.out.put (qF (XB)).1 (qF (XB)).2.1 (qF (XB)).2.2)
            replace HYA:=hid (((HYA.out.away gyb 0 (.bool (qF (XB)).1) HYBHYA.out).away gyb 1 (.string (qF (XB)).2.1) HYBHYA.out).away gyb 2 (.string (qF (XB)).2.2) HYBHYA.out)
            replace HB:=hid (((HB.out.setCell (p:=⟨gyb,0,none⟩) HYBG.out (.bool (qF (XB)).1)).setCell (p:=⟨gyb,1,none⟩) HYBG.out (.string (qF (XB)).2.1)).setCell (p:=⟨gyb,2,none⟩) HYBG.out (.string (qF (XB)).2.2))
            refine hK'.out _ _ (HELD.out _ HB.out) (fun _=>wpAnyH_done (by kernel_rfl) ?_ _)
            clear hK' K' k0 k1 k2 f0 f1 f2 hSd
            obtain⟨k0,k1,k2⟩:=HYA.out.trio
            obtain⟨y0,y1,y2⟩:=HYB.out.trio
            have HBE:=HB
            clear HB HELD2 HYBG HYBHYA HYAG
            by_cases hb:b=true
            ·subst hb
             by_cases hxy:XA=XB
             ·have HNX:=hid (HTT.out rfl hxy)
              subst hxy
              clear HTT HTF HYA HYB
              go_wp2
              go_roundw
              case rel=>exact⟨k+1,true,by omega,by go_num,rfl,⟨fun _=>HNX.out.1 trivial,fun _=>rfl⟩,HBE⟩
              case measure=>simp[intOf];omega
             ·have HNX:=hid (HTF.out (.inr hxy))
              have hq:¬(qF XA=qF XB):=fun h=>hxy (qF_sameT h)
              generalize qF XA=z1 at *
              generalize qF XB=z2 at *
              obtain⟨zn,zx,zy⟩:=z1
              obtain⟨vn,vx,vy⟩:=z2
              have hq2:¬(zn=vn∧zx=vx∧zy=vy):=fun h=>hq (by rw[h.1,h.2.1,h.2.2])
              have HQ2:=hid hq2
              clear HTT HTF HYA HYB hq hxy hq2
              simp only at k0 k1 k2 y0 y1 y2
              by_cases e1:zn=vn
              ·subst e1
               by_cases e2:zx.toList=vx.toList
               ·by_cases e3:zy.toList=vy.toList
                ·exact absurd ⟨rfl,bytes_likeT e2,bytes_likeT e3⟩ HQ2.out
                ·clear HQ2
                 go_wp2
                 go_roundw
                 case rel=>exact⟨k+1,false,by omega,by go_num,rfl,HNX,HBE⟩
                 case measure=>simp[intOf];omega
               ·clear HQ2
                go_wp2
                go_roundw
                case rel=>exact⟨k+1,false,by omega,by go_num,rfl,HNX,HBE⟩
                case measure=>simp[intOf];omega
              ·clear HQ2
               go_wp2
               go_roundw
               case rel=>exact⟨k+1,false,by omega,by go_num,rfl,HNX,HBE⟩
               case measure=>simp[intOf];omega
            ·have hbf:b=false:=by cases b with
              |false=>rfl
              |true=>exact absurd rfl hb
             subst hbf
             have HNX:=hid (HTF.out (.inl rfl))
             clear HTT HTF HYA HYB hb k0 k1 k2 y0 y1 y2
             go_wp2
             go_roundw
             case rel=>exact⟨k+1,false,by omega,by go_num,rfl,HNX,HBE⟩
             case measure=>simp[intOf];omega
         ·intro K' hK'
          go_simp
          have hbA:=(Below.refl u9.heap.size u9).alloc (Nat.le_refl _) (FC false ⟨#[]⟩ ⟨#[]⟩)
          have HYB:=hid (Box.new u9 false ⟨#[]⟩ ⟨#[]⟩)
          have HYBG:Hid (w1.heap.size≤u9.heap.size):=HB.out.size
          have HYBHYA:Hid (gya≠u9.heap.size):=Nat.ne_of_lt HYA.out.lt
          replace HYA:=hid (HYA.out.below hbA HYA.out.lt)
          replace HB:=hid (HB.out.trans (hbA.mono HYBG.out))
          refine hK'.out _ _ (HELD.out _ HB.out) (fun hSe=>?_)
          clear hbA
          clear hK' K' hSd
          have hSd:=hSe
          clear hSe
          obtain⟨gyb,hgy⟩:∃x,u9.heap.size=x:=⟨_,rfl⟩
          obtain⟨Vy,hV⟩:∃x,u9.alloc (FC false ⟨#[]⟩ ⟨#[]⟩)=x:=⟨_,rfl⟩
          rw[hgy] at HYB HYBG HYBHYA
          rw[hV] at HYB HB hSd HYA
          simp only[hV]
          simp only[hgy]
          clear hgy hV
          try simp only[gE,aP]
          refine rdA [11] (cA ?_ AllReadyH.nil)
          ·intro K' hK'
           go_simp
           refine(HM2.out _).mono ?_
           rintro e q1 ⟨rfl,hb⟩
           replace HYA:=hid (HYA.out.below hb HYA.out.lt)
           replace HYB:=hid (HYB.out.below hb HYB.out.lt)
           replace HB:=hid (HB.out.trans (hb.mono HB.out.size))
           refine hK'.out _ _ (HELD.out _ HB.out) (fun hSe=>?_)
           clear hb
           clear hK' K' hSd
           have hSd:=hSe
           clear hSe
           try simp only[gE,aP]
           obtain⟨k0,k1,k2⟩:=HYB.out.trio
           have f0:=HYB.out.fz 0
           have f1:=HYB.out.fz 1
           have f2:=HYB.out.fz 2
           refine rdA [13] (cA ?_ AllReadyH.nil)
           ·intro K' hK'
            go_simp
            replace HYB:=hid (HYB.out.put (qF (XB)).1 (qF (XB)).2.1 (qF (XB)).2.2)
            replace HYA:=hid (((HYA.out.away gyb 0 (.bool (qF (XB)).1) HYBHYA.out).away gyb 1 (.string (qF (XB)).2.1) HYBHYA.out).away gyb 2 (.string (qF (XB)).2.2) HYBHYA.out)
            replace HB:=hid (((HB.out.setCell (p:=⟨gyb,0,none⟩) HYBG.out (.bool (qF (XB)).1)).setCell (p:=⟨gyb,1,none⟩) HYBG.out (.string (qF (XB)).2.1)).setCell (p:=⟨gyb,2,none⟩) HYBG.out (.string (qF (XB)).2.2))
            refine hK'.out _ _ (HELD.out _ HB.out) (fun _=>wpAnyH_done (by kernel_rfl) ?_ _)
            clear hK' K' k0 k1 k2 f0 f1 f2 hSd
            obtain⟨k0,k1,k2⟩:=HYA.out.trio
            obtain⟨y0,y1,y2⟩:=HYB.out.trio
            have HBE:=HB
            clear HB HELD2 HYBG HYBHYA HYAG
            by_cases hb:b=true
            ·subst hb
             by_cases hxy:XA=XB
             ·have HNX:=hid (HTT.out rfl hxy)
              subst hxy
              clear HTT HTF HYA HYB
              go_wp2
              go_roundw
              case rel=>exact⟨k+1,true,by omega,by go_num,rfl,⟨fun _=>HNX.out.1 trivial,fun _=>rfl⟩,HBE⟩
              case measure=>simp[intOf];omega
             ·have HNX:=hid (HTF.out (.inr hxy))
              have hq:¬(qF XA=qF XB):=fun h=>hxy (qF_sameT h)
              generalize qF XA=z1 at *
              generalize qF XB=z2 at *
              obtain⟨zn,zx,zy⟩:=z1
              obtain⟨vn,vx,vy⟩:=z2
              have hq2:¬(zn=vn∧zx=vx∧zy=vy):=fun h=>hq (by rw[h.1,h.2.1,h.2.2])
              have HQ2:=hid hq2
              clear HTT HTF HYA HYB hq hxy hq2
              simp only at k0 k1 k2 y0 y1 y2
              by_cases e1:zn=vn
              ·subst e1
               by_cases e2:zx.toList=vx.toList
               ·by_cases e3:zy.toList=vy.toList
                ·exact absurd ⟨rfl,bytes_likeT e2,bytes_likeT e3⟩ HQ2.out
                ·clear HQ2
                 go_wp2
                 go_roundw
                 case rel=>exact⟨k+1,false,by omega,by go_num,rfl,HNX,HBE⟩
                 case measure=>simp[intOf];omega
               ·clear HQ2
                go_wp2
                go_roundw
                case rel=>exact⟨k+1,false,by omega,by go_num,rfl,HNX,HBE⟩
                case measure=>simp[intOf];omega
              ·clear HQ2
               go_wp2
               go_roundw
               case rel=>exact⟨k+1,false,by omega,by go_num,rfl,HNX,HBE⟩
               case measure=>simp[intOf];omega
            ·have hbf:b=false:=by cases b with
              |false=>rfl
              |true=>exact absurd rfl hb
             subst hbf
             have HNX:=hid (HTF.out (.inl rfl))
             clear HTT HTF HYA HYB hb k0 k1 k2 y0 y1 y2
             go_wp2
             go_roundw
             case rel=>exact⟨k+1,false,by omega,by go_num,rfl,HNX,HBE⟩
             case measure=>simp[intOf];omega
      ·intro K' hK'
       go_simp
       have hbA:=(Below.refl u0.heap.size u0).alloc (Nat.le_refl _) (FC false ⟨#[]⟩ ⟨#[]⟩)
       have HYA:=hid (Box.new u0 false ⟨#[]⟩ ⟨#[]⟩)
       have HYAG:Hid (w1.heap.size≤u0.heap.size):=HB.out.size
       replace HB:=hid (HB.out.trans (hbA.mono HYAG.out))
       refine hK'.out _ _ (HELD.out _ HB.out) (fun hSe=>?_)
       clear hbA
       clear hK' K' hSd
       have hSd:=hSe
       clear hSe
       obtain⟨gya,hgy⟩:∃x,u0.heap.size=x:=⟨_,rfl⟩
       obtain⟨Vy,hV⟩:∃x,u0.alloc (FC false ⟨#[]⟩ ⟨#[]⟩)=x:=⟨_,rfl⟩
       rw[hgy] at HYA HYAG
       rw[hV] at HYA HB hSd
       simp only[hV]
       simp only[hgy]
       clear hgy hV
       try simp only[gE,aP]
       refine rdA [11] (cA ?_ AllReadyH.nil)
       ·intro K' hK'
        go_simp
        refine(HM1.out _).mono ?_
        rintro e q1 ⟨rfl,hb⟩
        replace HYA:=hid (HYA.out.below hb HYA.out.lt)
        replace HB:=hid (HB.out.trans (hb.mono HB.out.size))
        refine hK'.out _ _ (HELD.out _ HB.out) (fun hSe=>?_)
        clear hb
        clear hK' K' hSd
        have hSd:=hSe
        clear hSe
        try simp only[gE,aP]
        obtain⟨k0,k1,k2⟩:=HYA.out.trio
        have f0:=HYA.out.fz 0
        have f1:=HYA.out.fz 1
        have f2:=HYA.out.fz 2
        refine rdA [13] (cA ?_ AllReadyH.nil)
        ·intro K' hK'
         go_simp
         replace HYA:=hid (HYA.out.put (qF (XA)).1 (qF (XA)).2.1 (qF (XA)).2.2)
         replace HB:=hid (((HB.out.setCell (p:=⟨gya,0,none⟩) HYAG.out (.bool (qF (XA)).1)).setCell (p:=⟨gya,1,none⟩) HYAG.out (.string (qF (XA)).2.1)).setCell (p:=⟨gya,2,none⟩) HYAG.out (.string (qF (XA)).2.2))
         refine hK'.out _ _ (HELD.out _ HB.out) (fun _=>wpAnyH_done (by kernel_rfl) ?_ _)
         clear hK' K' k0 k1 k2 f0 f1 f2 hSd
         clear HELD
         have HELD:=HELD2
         generalize (((q1.setCell ⟨gya,0,none⟩ (.bool (qF (XA)).1)).setCell ⟨gya,1,none⟩ (.string (qF (XA)).2.1)).setCell ⟨gya,2,none⟩ (.string (qF (XA)).2.2))=w9 at *
         go_upto_region 12 with fail
         replace HYA:=hid HYA.out.drew
         replace HB:=hid HB.out.drew
         refine wp_region_held_drew (S:=fun u=>u.cell? ⟨gp,op+k*3,none⟩=some (.bool cn)∧u.cell? ⟨gp,op+k*3+1,none⟩=some (.string cx)∧u.cell? ⟨gp,op+k*3+2,none⟩=some (.string cy)∧u.cell? ⟨g,o+k,none⟩=some (.slice (some ⟨gk,ok,none⟩) n ck)∧u.cell? ⟨gk,ok+i*3,none⟩=some (.bool dn)∧u.cell? ⟨gk,ok+i*3+1,none⟩=some (.string dx)∧u.cell? ⟨gk,ok+i*3+2,none⟩=some (.string dy)) (by kernel_rfl) (HELD.out _ HB.out) (fun hSd=>?_)
         generalize w9.drew=u9 at *
         refine tkB 0 (.slice (some ⟨gp,op,none⟩) n cp) ?_
         try simp only[gE,aP]
         refine tkB 1 (.int .i64 (k:Nat)) ?_
         try simp only[gE,aP]
         refine tkB 2 (.pointer (some ⟨gp,op+k*3,none⟩)) ?_
         try simp only[gE,aP]
         refine tkB 3 (.agg #[.bool cn,.string cx,.string cy]) ?_
         try simp only[gE,aP]
         refine tkB 4 (.slice (some ⟨g,o,none⟩) n ca) ?_
         try simp only[gE,aP]
         refine tkB 5 (.int .i64 (k:Nat)) ?_
         try simp only[gE,aP]
         refine tkB 6 (.pointer (some ⟨g,o+k,none⟩)) ?_
         try simp only[gE,aP]
         refine tkB 7 (.slice (some ⟨gk,ok,none⟩) n ck) ?_
         try simp only[gE,aP]
         refine tkB 8 (.int .i64 (i:Nat)) ?_
         try simp only[gE,aP]
         refine tkB 9 (.pointer (some ⟨gk,ok+i*3,none⟩)) ?_
         try simp only[gE,aP]
         refine tkB 10 (.agg #[.bool dn,.string dx,.string dy]) ?_
         try simp only[gE,aP]
         refine rdA [11,12] (cA ?_ (cA ?_ AllReadyH.nil))
         ·intro K' hK'
          go_simp
          refine(HM2.out _).mono ?_
          rintro e q1 ⟨rfl,hb⟩
          replace HYA:=hid (HYA.out.below hb HYA.out.lt)
          replace HB:=hid (HB.out.trans (hb.mono HB.out.size))
          refine hK'.out _ _ (HELD.out _ HB.out) (fun hSe=>?_)
          clear hb
          clear hK' K' hSd
          have hSd:=hSe
          clear hSe
          try simp only[gE,aP]
          refine rdA [12] (cA ?_ AllReadyH.nil)
          ·intro K' hK'
           go_simp
           have hbA:=(Below.refl q1.heap.size q1).alloc (Nat.le_refl _) (FC false ⟨#[]⟩ ⟨#[]⟩)
           have HYB:=hid (Box.new q1 false ⟨#[]⟩ ⟨#[]⟩)
           have HYBG:Hid (w1.heap.size≤q1.heap.size):=HB.out.size
           have HYBHYA:Hid (gya≠q1.heap.size):=Nat.ne_of_lt HYA.out.lt
           replace HYA:=hid (HYA.out.below hbA HYA.out.lt)
           replace HB:=hid (HB.out.trans (hbA.mono HYBG.out))
           refine hK'.out _ _ (HELD.out _ HB.out) (fun hSe=>?_)
           clear hbA
           clear hK' K' hSd
           have hSd:=hSe
           clear hSe
           obtain⟨gyb,hgy⟩:∃x,q1.heap.size=x:=⟨_,rfl⟩
           obtain⟨Vy,hV⟩:∃x,q1.alloc (FC false ⟨#[]⟩ ⟨#[]⟩)=x:=⟨_,rfl⟩
           rw[hgy] at HYB HYBG HYBHYA
           rw[hV] at HYB HB hSd HYA
           simp only[hV]
           simp only[hgy]
           clear hgy hV
           try simp only[gE,aP]
           obtain⟨k0,k1,k2⟩:=HYB.out.trio
           have f0:=HYB.out.fz 0
           have f1:=HYB.out.fz 1
           have f2:=HYB.out.fz 2
           refine rdA [13] (cA ?_ AllReadyH.nil)
           ·intro K' hK'
            go_simp
            replace HYB:=hid (HYB.out.put (qF (XB)).1 (qF (XB)).2.1 (qF (XB)).2.2)
            replace HYA:=hid (((HYA.out.away gyb 0 (.bool (qF (XB)).1) HYBHYA.out).away gyb 1 (.string (qF (XB)).2.1) HYBHYA.out).away gyb 2 (.string (qF (XB)).2.2) HYBHYA.out)
            replace HB:=hid (((HB.out.setCell (p:=⟨gyb,0,none⟩) HYBG.out (.bool (qF (XB)).1)).setCell (p:=⟨gyb,1,none⟩) HYBG.out (.string (qF (XB)).2.1)).setCell (p:=⟨gyb,2,none⟩) HYBG.out (.string (qF (XB)).2.2))
            refine hK'.out _ _ (HELD.out _ HB.out) (fun _=>wpAnyH_done (by kernel_rfl) ?_ _)
            clear hK' K' k0 k1 k2 f0 f1 f2 hSd
            obtain⟨k0,k1,k2⟩:=HYA.out.trio
            obtain⟨y0,y1,y2⟩:=HYB.out.trio
            have HBE:=HB
            clear HB HELD2 HYBG HYBHYA HYAG
            by_cases hb:b=true
            ·subst hb
             by_cases hxy:XA=XB
             ·have HNX:=hid (HTT.out rfl hxy)
              subst hxy
              clear HTT HTF HYA HYB
              go_wp2
              go_roundw
              case rel=>exact⟨k+1,true,by omega,by go_num,rfl,⟨fun _=>HNX.out.1 trivial,fun _=>rfl⟩,HBE⟩
              case measure=>simp[intOf];omega
             ·have HNX:=hid (HTF.out (.inr hxy))
              have hq:¬(qF XA=qF XB):=fun h=>hxy (qF_sameT h)
              generalize qF XA=z1 at *
              generalize qF XB=z2 at *
              obtain⟨zn,zx,zy⟩:=z1
              obtain⟨vn,vx,vy⟩:=z2
              have hq2:¬(zn=vn∧zx=vx∧zy=vy):=fun h=>hq (by rw[h.1,h.2.1,h.2.2])
              have HQ2:=hid hq2
              clear HTT HTF HYA HYB hq hxy hq2
              simp only at k0 k1 k2 y0 y1 y2
              by_cases e1:zn=vn
              ·subst e1
               by_cases e2:zx.toList=vx.toList
               ·by_cases e3:zy.toList=vy.toList
                ·exact absurd ⟨rfl,bytes_likeT e2,bytes_likeT e3⟩ HQ2.out
                ·clear HQ2
                 go_wp2
                 go_roundw
                 case rel=>exact⟨k+1,false,by omega,by go_num,rfl,HNX,HBE⟩
                 case measure=>simp[intOf];omega
               ·clear HQ2
                go_wp2
                go_roundw
                case rel=>exact⟨k+1,false,by omega,by go_num,rfl,HNX,HBE⟩
                case measure=>simp[intOf];omega
              ·clear HQ2
               go_wp2
               go_roundw
               case rel=>exact⟨k+1,false,by omega,by go_num,rfl,HNX,HBE⟩
               case measure=>simp[intOf];omega
            ·have hbf:b=false:=by cases b with
              |false=>rfl
              |true=>exact absurd rfl hb
             subst hbf
             have HNX:=hid (HTF.out (.inl rfl))
             clear HTT HTF HYA HYB hb k0 k1 k2 y0 y1 y2
             go_wp2
             go_roundw
             case rel=>exact⟨k+1,false,by omega,by go_num,rfl,HNX,HBE⟩
             case measure=>simp[intOf];omega
         ·intro K' hK'
          go_simp
          have hbA:=(Below.refl u9.heap.size u9).alloc (Nat.le_refl _) (FC false ⟨#[]⟩ ⟨#[]⟩)
          have HYB:=hid (Box.new u9 false ⟨#[]⟩ ⟨#[]⟩)
          have HYBG:Hid (w1.heap.size≤u9.heap.size):=HB.out.size
          have HYBHYA:Hid (gya≠u9.heap.size):=Nat.ne_of_lt HYA.out.lt
          replace HYA:=hid (HYA.out.below hbA HYA.out.lt)
          replace HB:=hid (HB.out.trans (hbA.mono HYBG.out))
          refine hK'.out _ _ (HELD.out _ HB.out) (fun hSe=>?_)
          clear hbA
          clear hK' K' hSd
          have hSd:=hSe
          clear hSe
          obtain⟨gyb,hgy⟩:∃x,u9.heap.size=x:=⟨_,rfl⟩
          obtain⟨Vy,hV⟩:∃x,u9.alloc (FC false ⟨#[]⟩ ⟨#[]⟩)=x:=⟨_,rfl⟩
          rw[hgy] at HYB HYBG HYBHYA
          rw[hV] at HYB HB hSd HYA
          simp only[hV]
          simp only[hgy]
          clear hgy hV
          try simp only[gE,aP]
          refine rdA [11] (cA ?_ AllReadyH.nil)
          ·intro K' hK'
           go_simp
           refine(HM2.out _).mono ?_
           rintro e q1 ⟨rfl,hb⟩
           replace HYA:=hid (HYA.out.below hb HYA.out.lt)
           replace HYB:=hid (HYB.out.below hb HYB.out.lt)
           replace HB:=hid (HB.out.trans (hb.mono HB.out.size))
           refine hK'.out _ _ (HELD.out _ HB.out) (fun hSe=>?_)
           clear hb
           clear hK' K' hSd
           have hSd:=hSe
           clear hSe
           try simp only[gE,aP]
           obtain⟨k0,k1,k2⟩:=HYB.out.trio
           have f0:=HYB.out.fz 0
           have f1:=HYB.out.fz 1
           have f2:=HYB.out.fz 2
           refine rdA [13] (cA ?_ AllReadyH.nil)
           ·intro K' hK'
            go_simp
            replace HYB:=hid (HYB.out.put (qF (XB)).1 (qF (XB)).2.1 (qF (XB)).2.2)
            replace HYA:=hid (((HYA.out.away gyb 0 (.bool (qF (XB)).1) HYBHYA.out).away gyb 1 (.string (qF (XB)).2.1) HYBHYA.out).away gyb 2 (.string (qF (XB)).2.2) HYBHYA.out)
            replace HB:=hid (((HB.out.setCell (p:=⟨gyb,0,none⟩) HYBG.out (.bool (qF (XB)).1)).setCell (p:=⟨gyb,1,none⟩) HYBG.out (.string (qF (XB)).2.1)).setCell (p:=⟨gyb,2,none⟩) HYBG.out (.string (qF (XB)).2.2))
            refine hK'.out _ _ (HELD.out _ HB.out) (fun _=>wpAnyH_done (by kernel_rfl) ?_ _)
            clear hK' K' k0 k1 k2 f0 f1 f2 hSd
            obtain⟨k0,k1,k2⟩:=HYA.out.trio
            obtain⟨y0,y1,y2⟩:=HYB.out.trio
            have HBE:=HB
            clear HB HELD2 HYBG HYBHYA HYAG
            by_cases hb:b=true
            ·subst hb
             by_cases hxy:XA=XB
             ·have HNX:=hid (HTT.out rfl hxy)
              subst hxy
              clear HTT HTF HYA HYB
              go_wp2
              go_roundw
              case rel=>exact⟨k+1,true,by omega,by go_num,rfl,⟨fun _=>HNX.out.1 trivial,fun _=>rfl⟩,HBE⟩
              case measure=>simp[intOf];omega
             ·have HNX:=hid (HTF.out (.inr hxy))
              have hq:¬(qF XA=qF XB):=fun h=>hxy (qF_sameT h)
              generalize qF XA=z1 at *
              generalize qF XB=z2 at *
              obtain⟨zn,zx,zy⟩:=z1
              obtain⟨vn,vx,vy⟩:=z2
              have hq2:¬(zn=vn∧zx=vx∧zy=vy):=fun h=>hq (by rw[h.1,h.2.1,h.2.2])
              have HQ2:=hid hq2
              clear HTT HTF HYA HYB hq hxy hq2
              simp only at k0 k1 k2 y0 y1 y2
              by_cases e1:zn=vn
              ·subst e1
               by_cases e2:zx.toList=vx.toList
               ·by_cases e3:zy.toList=vy.toList
                ·exact absurd ⟨rfl,bytes_likeT e2,bytes_likeT e3⟩ HQ2.out
                ·clear HQ2
                 go_wp2
                 go_roundw
                 case rel=>exact⟨k+1,false,by omega,by go_num,rfl,HNX,HBE⟩
                 case measure=>simp[intOf];omega
               ·clear HQ2
                go_wp2
                go_roundw
                case rel=>exact⟨k+1,false,by omega,by go_num,rfl,HNX,HBE⟩
                case measure=>simp[intOf];omega
              ·clear HQ2
               go_wp2
               go_roundw
               case rel=>exact⟨k+1,false,by omega,by go_num,rfl,HNX,HBE⟩
               case measure=>simp[intOf];omega
            ·have hbf:b=false:=by cases b with
              |false=>rfl
              |true=>exact absurd rfl hb
             subst hbf
             have HNX:=hid (HTF.out (.inl rfl))
             clear HTT HTF HYA HYB hb k0 k1 k2 y0 y1 y2
             go_wp2
             go_roundw
             case rel=>exact⟨k+1,false,by omega,by go_num,rfl,HNX,HBE⟩
             case measure=>simp[intOf];omega
     ·obtain rfl:n=k:=by omega
      have HIN:Hid (b=true↔∀s t,s<i+1→t<n→v s*rowQ X s t=v t*rowQ X t s):=⟨fun h s t hs ht=>by
       by_cases e:s=i
       ·rw[e];exact(HJ.out.1 h).2 t ht
       ·exact(HJ.out.1 h).1 s t (by omega) ht,fun h=>HJ.out.2 ⟨fun s t hs ht=>h s t (by omega) ht,fun t ht=>h i t (by omega) ht⟩⟩
      clear HJ
      go_wp2
      go_roundw
      case rel=>exact⟨i+1,b,by omega,by go_num,rfl,HIN,HB⟩
      case measure=>simp[intOf];omega
   ·obtain rfl:n=i:=by omega
    have HE:Hid (b=trB n v (rowQ X)):=by
     show _=_
     cases e:trB n v (rowQ X) with
     |true=>exact HI.out.2 (trB_iff.1 e)
     |false=>
      cases b with
      |false=>rfl
      |true=>have h8:=trB_iff.2 (HI.out.1 rfl);rw[e] at h8;exact h8.symm
    have HBE:=hid (HBW.out.trans (HB.out.mono HBW.out.size))
    clear HI HB
    go_wp2
    go_ret2
    refine⟨HBE.out,.inl ⟨k0,HONE.out,?_⟩⟩
    rw[HV.out,HE.out]
    rfl
 ·have HMY:=hid hmany
  clear hmany
  go_wp2
  go_ret2
  exact⟨HBW.out,.inr ⟨HMY.out,rfl⟩⟩
end Go.Proofs.YtmbjmiioggfneaaGreatDoor
