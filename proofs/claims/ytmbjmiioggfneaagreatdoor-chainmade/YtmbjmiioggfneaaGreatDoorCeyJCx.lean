/- The answer's Back. -/
import Derived.Test.YtmbjmiioggfneaaGreatDoorCeyICx
set_option linter.unusedVariables false
set_option linter.unusedSimpArgs false
namespace Go.Proofs.YtmbjmiioggfneaaGreatDoor
open Go.RowKit Go.Shelf
theorem ints_tail {w:World} {g o:Nat} {x:Int} {l:List Int} (h:IntS w (some ⟨g,o,none⟩) (x::l)):IntS w (some ⟨g,o+1,none⟩) l:=fun k hk=>by
 obtain⟨g9,o9,e,hg,c⟩:=h (k+1) (by simp;omega)
 cases e
 exact⟨g,o+1,rfl,hg,by rw[show o+1+k=o+(k+1) by omega];exact c⟩
set_option maxRecDepth 100000 in
set_option maxHeartbeats 8000000 in
theorem rBack_any (a:Option Addr) (ca N ii:Nat) (X:Nat→Nat→Fr) (wz:World) (hRz:FsS wz a (mF N X)) (hm:ChX N X) (hi:ii<N):
  Calls Tryz.prog 23 #[.slice a N ca,.int .i64 (ii:Nat)] wz fun e w'=>Below wz.heap.size wz w'∧((stB N (cmsB N (rowQ X)) ii=true∧e=.returned (.tuple #[.agg #[.bool (qF (1/stQ (rowQ X) (clN N (cmsB N (rowQ X)) ii) ii)).1,.string (qF (1/stQ (rowQ X) (clN N (cmsB N (rowQ X)) ii) ii)).2.1,.string (qF (1/stQ (rowQ X) (clN N (cmsB N (rowQ X)) ii) ii)).2.2],.int .i64 0]))∨(stB N (cmsB N (rowQ X)) ii=false∧e=.returned (.tuple #[.agg #[.bool false,.string ⟨#[]⟩,.string ⟨#[]⟩],.int .i64 16]))):=by
 have h1:=hm.one
 have h5:=hm.five
 have hAz:=(Below.refl wz.heap.size wz).alloc (Nat.le_refl _) (FC false ⟨#[]⟩ ⟨#[]⟩)
 have hXz:=Box.new wz false ⟨#[]⟩ ⟨#[]⟩
 obtain⟨w,hw⟩:∃w,wz.alloc (FC false ⟨#[]⟩ ⟨#[]⟩)=w:=⟨_,rfl⟩
 rw[hw] at hAz hXz
 have HAZ:=hid hAz
 have hR:FsS w a (mF N X):=hRz.below hAz
 have HXZ:=hid hXz
 have HCH:=hid (rChain_yes a ca N (mF N X) w hR hm.ok h1 (by omega))
 have HCO:=hid (fun (ii:Nat) (hi:ii<N) (U:World) (hU:Below w.heap.size w U)=>rComes_any a ca N ii X U (hR.below hU) hm hi)
 have HR:=hid (fun (U:World) (hU:Below w.heap.size w U)=>hR.below hU)
 have HFEW:=hid hm.few
 have HCM:=hid hm
 obtain⟨T,hT0,hT,hTw⟩:=hm.den
 have HWHL:Hid (∀ii j,ii<N→j<N→Whl T (rowQ X ii j)):=hTw
 have HCHN:=hid hm.chn
 have HSVD:=hid (fun (n:Nat) (M:Nat→Nat→Rat) (bv:Nat→Rat) (a b:Option Addr) (ca cb:Nat) (w:World) (hn:n≤5) (hw:∀ii j,ii<n→j<n→Whl T (M ii j)) (ha:∀ii j,ii<n→j<n→Abs 6 (M ii j)) (hwb:∀ii,ii<n→Whl T (bv ii)) (hab:∀ii,ii<n→Abs 6 (bv ii)) (hd:detQ n M≠0) (hR:FsS w a (mR n M)) (hb:FrS w b (lF n bv))=>rSolved_any T hT0 hT n M bv a b ca cb w hn hw ha hwb hab hd hR hb)
 have HO0:=hid (fun V:World=>rOf_zero V)
 have HO1:=hid (fun V:World=>rOf_one V)
 have hlo:¬((ii:Int)<0):=by omega
 have hhi:¬((N:Int)≤(ii:Int)):=by omega
 obtain⟨st,hst⟩:∃st,stB N (cmsB N (rowQ X)) ii=st:=⟨_,rfl⟩
 rw[hst]
 have HST:Hid (st=true↔∀j,j<N→cmsB N (rowQ X) ii j=true→cmsB N (rowQ X) j ii=true):=by show _↔_;rw[←hst];exact stB_iff
 have HLI0:=hid hi
 have HSB:=hid hst
 obtain⟨qr,hqr⟩:∃q,1/stQ (rowQ X) (clN N (cmsB N (rowQ X)) ii) ii=q:=⟨_,rfl⟩
 have HQR:=hid hqr
 rw[hqr]
 clear hR hRz hm hT0 hT hTw hAz hXz hst hqr
 go_enter Tryz.func23,Tryz.ntmps23
 go_wp2_with fail
 clear hw
 obtain⟨gR,hgR⟩:∃x,wz.heap.size=x:=⟨_,rfl⟩
 have HGR:=hid hgR
 rw[hgR] at HXZ HAZ
 simp only[hgR]
 clear hgR
 refine HCH.out.mono ?_
 rintro e1 w1 ⟨rfl,hb1⟩
 have HB1:=hid hb1
 clear hb1 HCH
 go_wp2_with fail
 refine(HCO.out ii hi _ HB1.out).mono ?_
 rintro e1 w2 ⟨lv,L,rfl,hL,hcm,hb2⟩
 obtain⟨dl,cl0,hlv,hil⟩:=RwI.ints hL
 subst hlv
 rw[iL_length]
 have HB2:=hid (HB1.out.trans (hb2.mono HB1.out.size))
 have HCL:=hid hcm
 have HIL:=hid hil
 have hcap:L.length≤cl0:=by
  rcases RwI.cases hL with ⟨h9,h8⟩ |⟨g9,c9,h9, -, -,h8, -⟩
  ·have h7:=hcm.hd
   rw[List.map_eq_nil_iff.1 h8] at h7
   cases h7
  ·cases h9
   rw[iL_length] at h8
   exact h8
 clear hL hil hb2 HB1 hcm
 have hl5:L.length≤N:=HCL.out.most
 have HT0:Hid (∀t,t<0→cmsB N (rowQ X) (L.getD t 0) ii=true):=fun t ht=>absurd ht (by omega)
 have HZ2:Hid (Below w2.heap.size w2 w2):=Below.refl _ _
 go_wp2_with fail
 go_loopw [8] (fun kv wr=>∃k:Nat,k≤L.length∧kv=.int .i64 k∧Hid (∀t,t<k→cmsB N (rowQ X) (L.getD t 0) ii=true)∧Hid (Below w2.heap.size w2 wr)) (fun kv _=>L.length - (intOf kv).toNat)
 case atStart=>exact⟨0,Nat.zero_le _,rfl,HT0,HZ2⟩
 case round=>
  clear HT0 HZ2
  obtain⟨k,hk,rfl,HT,HBQ⟩:=hrel
  by_cases hlk:k<L.length
  ·have HBW:=hid (HB2.out.trans (HBQ.out.mono HB2.out.size))
   obtain⟨gl,ol,hde,hgl,c0⟩:=ints_at (HIL.out.below HBQ.out) hlk
   subst hde
   have hxN:L.getD k 0<N:=((HCL.out.all _).1 (getD_mem hlk)).1
   have HTS:Hid (cmsB N (rowQ X) (L.getD k 0) ii=true→∀t,t<k+1→cmsB N (rowQ X) (L.getD t 0) ii=true):=fun h t ht=>by
    by_cases e:t=k
    ·rw[e];exact h
    ·exact HT.out t (by omega)
   have HTN:Hid (cmsB N (rowQ X) (L.getD k 0) ii=false→st=false):=fun h=>by
    cases h9:st with
    |false=>rfl
    |true=>
     have h8:=HST.out.1 h9 _ hxN ((HCL.out.all _).1 (getD_mem hlk)).2
     rw[h] at h8
     cases h8
   obtain⟨lk,hlke⟩:∃x,L.getD k 0=x:=⟨_,rfl⟩
   rw[hlke] at c0 hxN HTS HTN
   clear hlke
   go_wp2_with fail
   refine(HCO.out lk hxN _ HBW.out).mono ?_
   rintro e V1 ⟨mv,M,rfl,hM,hcm,hb⟩
   obtain⟨dm,cm,hmv,him⟩:=RwI.ints hM
   subst hmv
   rw[iL_length]
   have hm5:M.length≤N:=hcm.most
   have HB3:=hid (HBQ.out.trans (hb.mono HBQ.out.size))
   have HIN:Hid (Calls Tryz.prog 39 #[.int .i64 (ii:Nat),.slice dm M.length cm] V1 fun e w'=>e=.returned (.bool (cmsB N (rowQ X) lk ii))∧w'=V1):=by
    have h:=rIn_any ((ii:Nat):Int) dm cm (iL M) V1 him (by rw[iL_length];omega)
    rw[inB_chn,iL_length,hcm.has HLI0.out] at h
    exact h
   clear hM him hb hcm HBQ HBW c0
   generalize cmsB N (rowQ X) lk ii=cb at *
   go_wp2_with fail
   refine HIN.out.mono ?_
   rintro e V2 ⟨rfl,rfl⟩
   clear HIN
   cases cb with
   |true=>
    have HTX:=hid (HTS.out rfl)
    clear HTS HTN HT
    go_wp2
    go_roundw
    case rel=>exact⟨k+1,by omega,by go_num,HTX,HB3⟩
    case measure=>simp[intOf];omega
   |false=>
    have HF:=hid (HTN.out rfl)
    have HBW:=hid (HB2.out.trans (HB3.out.mono HB2.out.size))
    have HX4:=hid (HXZ.out.below HBW.out HXZ.out.lt)
    have HB4:=hid (HAZ.out.trans (HBW.out.mono (by have:=HXZ.out.lt;have h2:=HGR.out;show _≤_;omega)))
    clear HTS HTN HT HB3 HBW
    obtain⟨k0,k1,k2⟩:=HX4.out.trio
    have f0:=HX4.out.fz 0
    have f1:=HX4.out.fz 1
    have f2:=HX4.out.fz 2
    have HX9:=hid (HX4.out.put false ⟨#[]⟩ ⟨#[]⟩)
    have HB9:=hid (((HB4.out.setCell (p:=⟨gR,0,none⟩) (Nat.le_refl _) (.bool false)).setCell (p:=⟨gR,1,none⟩) (Nat.le_refl _) (.string ⟨#[]⟩)).setCell (p:=⟨gR,2,none⟩) (Nat.le_refl _) (.string ⟨#[]⟩))
    clear HX4 HB4
    go_wp2
    refine bodyPost_ret (HX9.out.result2 rfl _ rfl) rfl ?_
    rw[HGR.out]
    exact⟨HB9.out,.inr ⟨HF.out,rfl⟩⟩
  ·have HBB9:=hid (HB2.out.trans (HBQ.out.mono HB2.out.size))
   have hst:st=true:=HST.out.2 fun j hj hc=>by
    obtain⟨t,ht,e⟩:=getD_of ((HCL.out.all j).2 ⟨hj,hc⟩)
    rw[←e]
    exact HT.out t (by omega)
   subst hst
   obtain⟨l,hl⟩:∃l,L=ii::l:=by
    have h9:=HCL.out.hd
    cases L with
    |nil=>cases h9
    |cons x l=>cases h9;exact⟨l,rfl⟩
   have HKL:Hid (BkL N (rowQ X) ii l):=⟨HCHN.out,HLI0.out,HSB.out,by rw[←hl];exact HCL.out⟩
   have hl5n:l.length+1≤N:=by rw[hl] at hl5;exact hl5
   obtain⟨gl0,ol0,hde,hgl, -⟩:=ints_at (i:=0) HIL.out (by rw[hl];simp)
   subst hde
   have HIT:Hid (IntS w2 (some ⟨gl0,ol0+1,none⟩) (iL l)):=by
    have h9:=HIL.out
    rw[hl] at h9
    exact ints_tail h9
   have hLn:L.length=l.length+1:=by rw[hl];rfl
   have hkn:k=l.length+1:=by omega
   clear hl HT HCL HIL hlk HCO HST HSB hk
   have hLn0:=hLn
   have hLI0:=HLI0.out
   clear HLI0
   rw[hLn]
   clear hLn hgl
   subst hkn
   rw[hLn0] at hcap
   have HLI0:=hid hLI0
   clear hLI0 hLn0
   go_wp2_with fail
   case inl=>
    have hz:l=[]:=by
     have h9:l.length=0:=by omega
     exact List.length_eq_zero_iff.1 h9
    subst h
    subst hz
    have hcm:=HKL.out
    have HBB0:=HBB9
    have hcr0:=(back_cramer hcm (Nat.zero_le 5)).1
    have HSV:Hid (Calls Tryz.prog 56 #[.slice none 0 0,.slice none 0 0] wr fun e w'=>∃v,e=.returned v∧RwF w' wr.heap.size v (lF 0 fun k=>detQ 0 (putC (mN X []) k fun _=>1)/detQ 0 (mN X []))∧Below wr.heap.size wr w'):=
     HSVD.out 0 (mN X []) (fun _=>1) none none 0 0 wr (by omega) (fun i j hi hj=>absurd hi (by omega)) (fun i j hi hj=>absurd hi (by omega)) (fun i hi=>absurd hi (by omega)) (fun i hi=>absurd hi (by omega)) hcr0 (fun k hk=>absurd hk (by simp[mR])) (fun k hk=>absurd hk (by simp[lF]))
    have HSQN:Hid (1=qr):=by
     show _=_
     rw[←HQR.out,back_share hcm]
     show (1:Rat)=1+0
     rw[Rat.add_zero]
    clear hcm hcr0 HSVD HLI0 HIT HKL hcap
    go_wp2_with fail
    go_loopw [11,12,13] (fun av bv iv wr9=>av=.slice none 0 0∧bv=.slice none 0 0∧iv=.int .i64 0∧wr9=wr) (fun _ _ _ _=>0)
    case atStart=>exact⟨rfl,rfl,rfl,rfl⟩
    case round=>
     obtain⟨rfl,rfl,rfl,rfl⟩:=hrel
     go_wp2_with fail
     refine HSV.out.mono ?_
     rintro e wX ⟨xv,rfl,hxr,hb⟩
     have HBX:=hid (HBB0.out.trans (hb.mono HBB0.out.size))
     obtain⟨dx,cx,hxv, -⟩:=hxr.fr
     subst hxv
     rw[lF_length]
     clear hxr hb HSV
     go_wp2_with fail
     refine(HO1.out _).mono ?_
     rintro e V0 ⟨rfl,hbv⟩
     have HBV:=hid (HBX.out.trans (hbv.mono HBX.out.size))
     have hA:=(Below.refl V0.heap.size V0).alloc (Nat.le_refl _) (FC (sgn 1) (nu 1) (de 1))
     have HX2:Hid (Box (V0.alloc (FC (sgn 1) (nu 1) (de 1))) V0.heap.size (qF (qr)).1 (qF (qr)).2.1 (qF (qr)).2.2):=by show Box _ _ _ _ _;rw[←HSQN.out];exact Box.new V0 (sgn 1) (nu 1) (de 1)
     have HBF:=hid (HBV.out.trans (hA.mono HBV.out.size))
     clear hbv hA HBX HBV
     go_wp2_with fail
     generalize (V0.alloc (FC (sgn 1) (nu 1) (de 1)))=V1 at *
     obtain⟨gB,hgB⟩:∃x,V0.heap.size=x:=⟨_,rfl⟩
     rw[hgB] at HX2
     simp only[hgB]
     clear hgB
     go_loopw [19] (fun kv wr9=>kv=.int .i64 0∧wr9=V1) (fun _ _=>0)
     case atStart=>exact⟨rfl,rfl⟩
     case round=>
      obtain⟨rfl,rfl⟩:=hrel
      have HX4:=hid (HXZ.out.below HBF.out HXZ.out.lt)
      have HB4:=hid (HAZ.out.trans (HBF.out.mono (by have:=HXZ.out.lt;have h2:=HGR.out;show _≤_;omega)))
      obtain⟨j0,j1,j2⟩:=HX2.out.trio
      clear HBF HX2
      obtain⟨z,hz⟩:∃z,qF qr=z:=⟨_,rfl⟩
      rw[hz] at j0 j1 j2
      obtain⟨qn,qx,qy⟩:=z
      have HZ:=hid hz
      clear hz
      simp only at j0 j1 j2
      obtain⟨k0,k1,k2⟩:=HX4.out.trio
      have f0:=HX4.out.fz 0
      have f1:=HX4.out.fz 1
      have f2:=HX4.out.fz 2
      have HX9:=hid (HX4.out.put qn qx qy)
      have HB9:=hid (((HB4.out.setCell (p:=⟨gR,0,none⟩) (Nat.le_refl _) (.bool qn)).setCell (p:=⟨gR,1,none⟩) (Nat.le_refl _) (.string qx)).setCell (p:=⟨gR,2,none⟩) (Nat.le_refl _) (.string qy))
      clear HX4 HB4
      go_wp2
      refine bodyPost_ret (HX9.out.result2 rfl _ rfl) rfl ?_
      rw[HGR.out]
      first |exact⟨HB9.out,.inl ⟨rfl,by rw[HZ.out];rfl⟩⟩ |exact⟨HB9.out,by rw[HZ.out];rfl⟩
   case inr=>
    clear h hcap
    generalize (some (⟨gl0,ol0+1,none⟩:Addr))=dl0 at *
    generalize cl0 - 1=cl at *
    obtain⟨n,hnl⟩:∃n,l.length=n:=⟨_,rfl⟩
    rw[hnl] at hl5n⊢
    have HNL:=hid hnl
    clear hnl
    obtain⟨wB,hwB⟩:∃x,x=wr:=⟨_,rfl⟩
    rw[←hwB] at HBB9 HBQ⊢
    clear hwB
    have HBB0:=HBB9
    have HLI:=hid (HIT.out.below HBQ.out)
    have HLNN:Hid (∀i,i<n→l.getD i 0<N):=fun i hi=>(HKL.out.all (getD_mem (by rw[HNL.out];exact hi))).1
    clear HBB9 HIT HBQ
    obtain⟨bq,hbq⟩:∃bq:Nat→Rat,bq=fun _=>1:=⟨_,rfl⟩
    have HBE:Hid (∀i,bq i=1):=fun i=>by rw[hbq]
    clear hbq
    have HO0B:Hid (OwR wB wB.heap.size (.slice none 0 0) []):=OwR.nil _ _
    have HQ0B:Hid (RwF wB wB.heap.size (.slice none 0 0) (lF 0 bq)):=⟨rfl,.inl ⟨rfl,rfl⟩⟩
    have HZB:Hid (Below wB.heap.size wB wB):=Below.refl _ _
    go_wp2_with fail
    go_loopw [11,12,13] (fun av bv iv wr=>∃(i:Nat) (Ps:List PR),i≤n∧iv=.int .i64 i∧Hid (OwR wr wB.heap.size av Ps)∧Hid (Ps.map (·.2)=(List.range i).map fun t=>lF n (mN X l t))∧Hid (RwF wr wB.heap.size bv (lF i bq))∧Hid (AprF Ps bv)∧Hid (Below wB.heap.size wB wr)) (fun _ _ iv _=>n - (intOf iv).toNat)
    case atStart=>exact⟨0,[],Nat.zero_le _,rfl,HO0B,rfl,HQ0B,AprF.nil _,HZB⟩
    case round=>
     clear HO0B HQ0B HZB
     obtain⟨i,Ps,hi9,rfl,HO,HP,HBQ,HAP,HBB⟩:=hrel
     by_cases hli:i<n
     ·have h1n:1≤n:=by omega
      obtain⟨gl,ol,hdl,hgl, -⟩:=ints_at (i:=0) HLI.out (by rw[HNL.out];omega)
      subst hdl
      have HLC:Hid (∀i,i<n→∀U:World,Below wB.heap.size wB U→U.cell? ⟨gl,ol+i,none⟩=some (.int .i64 (l.getD i 0:Nat))):=fun i hi U hU=>by
       obtain⟨g,o,e,hg,c⟩:=ints_at HLI.out (show i<l.length by rw[HNL.out];exact hi)
       cases e
       exact(hU.cell (p:=⟨gl,_,none⟩) hg).trans c
      obtain⟨da,na,ca2,hav⟩:∃d n c,u11=.slice d n c:=by
       obtain⟨d,c,e,_⟩:=owns_slice HO.out.1
       exact⟨d,_,c,e⟩
      subst hav
      obtain⟨dq,nq,cq,hbv⟩:=HBQ.out.slv
      subst hbv
      obtain⟨V9,hV9⟩:∃x,x=wr:=⟨_,rfl⟩
      rw[←hV9] at HO HBQ HBB⊢
      clear hV9
      have HUP9:Hid (∀U:World,Below V9.heap.size V9 U→Below w.heap.size w U):=fun U hU=>HBB0.out.trans ((HBB.out.trans (hU.mono HBB.out.size)).mono HBB0.out.size)
      have HE0:Hid (RwF V9 V9.heap.size (.slice none 0 0) (lF 0 (mN X l i))):=⟨rfl,.inl ⟨rfl,rfl⟩⟩
      have HBZ9:Hid (Below V9.heap.size V9 V9):=Below.refl _ _
      go_wp2_with fail
      go_loopw [14,15] (fun rv kv wr=>∃k:Nat,k≤n∧kv=.int .i64 k∧Hid (RwF wr V9.heap.size rv (lF k (mN X l i)))∧Hid (Below V9.heap.size V9 wr)) (fun _ kv _=>n - (intOf kv).toNat)
      case atStart=>exact⟨0,Nat.zero_le _,rfl,HE0,HBZ9⟩
      case round=>
       clear HE0 HBZ9
       obtain⟨k,hk,rfl,HRW,HBR⟩:=hrel
       by_cases hlk:k<n
       ·obtain⟨dv,nv,cv,hlv⟩:=HRW.out.slv
        subst hlv
        have HSN:Hid (lF (k+1) (mN X l i)=lF k (mN X l i)++[qF (mN X l i k)]):=lF_snoc k _
        have HLN:Hid ((lF k (mN X l i)).length+1≤100000):=by show _≤_;rw[lF_length];omega
        have hlkN:=HLNN.out k hlk
        have HKE:=hid (HLC.out k hlk)
        have HIE:=hid (HLC.out i hli)
        have hliN:=HLNN.out i hli
        have HMQ:Hid (mN X l i k=(if i=k then 1 else 0) - frQ (X (l.getD i 0) (l.getD k 0))):=rfl
        obtain⟨li,hlie⟩:∃x,l.getD i 0=x:=⟨_,rfl⟩
        rw[hlie] at HIE hliN HMQ
        obtain⟨lk,hlke⟩:∃x,l.getD k 0=x:=⟨_,rfl⟩
        rw[hlke] at HKE hlkN HMQ
        have HLK:Hid (i=k→li=lk):=fun h=>by rw[←hlie,←hlke,h]
        clear hlie hlke
        obtain⟨ga,oa,gr,or_,cr,hae,hga,hgr,x0,x1,x2,x3⟩:=(HR.out w (Below.refl _ _)).at hliN hlkN
        subst hae
        have HSU1:=hid (fun U:World=>rSubFR 1 (X li lk) U (by have:=qw_one2;omega) (Nat.le_trans (HFEW.out li lk hliN hlkN) (by decide)))
        have HSU0:=hid (fun U:World=>rSubFR 0 (X li lk) U (by have:=qw_zero;omega) (Nat.le_trans (HFEW.out li lk hliN hlkN) (by decide)))
        have HMQ1:Hid (i=k→(1:Rat) - frQ (X li lk)=mN X l i k):=fun h=>by rw[HMQ.out,if_pos h]
        have HMQ0:Hid (¬i=k→(0:Rat) - frQ (X li lk)=mN X l i k):=fun h=>by rw[HMQ.out,if_neg h]
        clear HMQ
        generalize mN X l i k=mq at *
        generalize (lF k (mN X l i))=L0 at *
        generalize frQ (X li lk)=fq at *
        generalize X li lk=zz at *
        obtain⟨an,ax,ay⟩:=zz
        simp only at x1 x2 x3 HSU1 HSU0
        have HELDW:Hid (∀u,Below wB.heap.size wB u→Below w.heap.size w u→u.cell? ⟨gl,ol+i,none⟩=some (.int .i64 (li:Nat))∧u.cell? ⟨ga,oa+li,none⟩=some (.slice (some ⟨gr,or_,none⟩) N cr)∧u.cell? ⟨gl,ol+k,none⟩=some (.int .i64 (lk:Nat))∧u.cell? ⟨gr,or_+lk*3,none⟩=some (.bool an)∧u.cell? ⟨gr,or_+lk*3+1,none⟩=some (.string ax)∧u.cell? ⟨gr,or_+lk*3+2,none⟩=some (.string ay)):=fun u hq h=>⟨HIE.out u hq,(h.cell (p:=⟨ga,_,none⟩) hga).trans x0,HKE.out u hq,(h.cell (p:=⟨gr,_,none⟩) hgr).trans x1,(h.cell (p:=⟨gr,_,none⟩) hgr).trans x2,(h.cell (p:=⟨gr,_,none⟩) hgr).trans x3⟩
        clear x0 x1 x2 x3
        go_wp2_with fail
        refine(HO0.out _).mono ?_
        rintro e V0 ⟨rfl,hbv⟩
        have HBV:=hid (HBR.out.trans (hbv.mono HBR.out.size))
        have HRV:=hid (HRW.out.below hbv)
        have hA:=(Below.refl V0.heap.size V0).alloc (Nat.le_refl _) (FC (sgn 0) (nu 0) (de 0))
        have HX0:Hid (Box (V0.alloc (FC (sgn 0) (nu 0) (de 0))) V0.heap.size (qF (0)).1 (qF (0)).2.1 (qF (0)).2.2):=Box.new V0 (sgn 0) (nu 0) (de 0)
        have HB0:=hid hA
        obtain⟨gB,hgB⟩:∃x,V0.heap.size=x:=⟨_,rfl⟩
        rw[hgB] at HX0 HB0
        have HGE2:=hid hgB
        have HGV:Hid (gB≤V0.heap.size):=Nat.le_of_eq hgB.symm
        have HWG:Hid (V9.heap.size≤gB):=by rw[←hgB];exact HBV.out.size
        have HELD:Hid (∀u,Below gB V0 u→u.cell? ⟨gl,ol+i,none⟩=some (.int .i64 (li:Nat))∧u.cell? ⟨ga,oa+li,none⟩=some (.slice (some ⟨gr,or_,none⟩) N cr)∧u.cell? ⟨gl,ol+k,none⟩=some (.int .i64 (lk:Nat))∧u.cell? ⟨gr,or_+lk*3,none⟩=some (.bool an)∧u.cell? ⟨gr,or_+lk*3+1,none⟩=some (.string ax)∧u.cell? ⟨gr,or_+lk*3+2,none⟩=some (.string ay)):=fun u h0=>HELDW.out u (HBB.out.trans ((HBV.out.trans (h0.mono HWG.out)).mono HBB.out.size)) (HUP9.out u (HBV.out.trans (h0.mono HWG.out)))
        clear hbv hA HRW HBR HELDW
        by_cases hik:i=k
        ·subst hik
         have hlk9:=HLK.out rfl
         subst hlk9
         clear HLK
         have HSU:Hid (∀U:World,Calls Tryz.prog 54 #[.agg #[.bool (qF (1)).1,.string (qF (1)).2.1,.string (qF (1)).2.2],.agg #[.bool an,.string ax,.string ay]] U fun e w'=>e=.returned (.agg #[.bool (qF (mq)).1,.string (qF (mq)).2.1,.string (qF (mq)).2.2])∧Below U.heap.size U w'):=fun U=>by
          have h9:=HSU1.out U
          rw[HMQ1.out rfl] at h9
          exact h9
         clear HSU1 HSU0 HMQ1 HMQ0
         go_wp2_with fail
         refine(HO1.out _).mono ?_
         rintro e V1 ⟨rfl,hb⟩
         simp only[hgB]
         clear hgB
         have HX1:=hid (HX0.out.below hb HX0.out.lt)
         have HB1:=hid (HB0.out.trans (hb.mono (Nat.le_trans HGV.out HB0.out.size)))
         clear hb HX0 HB0
         obtain⟨k0,k1,k2⟩:=HX1.out.trio
         have f0:=HX1.out.fz 0
         have f1:=HX1.out.fz 1
         have f2:=HX1.out.fz 2
         have HX:Hid (Box (((V1.setCell ⟨gB,0,none⟩ (.bool (sgn 1))).setCell ⟨gB,1,none⟩ (.string (nu 1))).setCell ⟨gB,2,none⟩ (.string (de 1))) gB (qF (1)).1 (qF (1)).2.1 (qF (1)).2.2):=HX1.out.put (sgn 1) (nu 1) (de 1)
         have HB:=hid (((HB1.out.setCell (p:=⟨gB,0,none⟩) (Nat.le_refl _) (.bool (sgn 1))).setCell (p:=⟨gB,1,none⟩) (Nat.le_refl _) (.string (nu 1))).setCell (p:=⟨gB,2,none⟩) (Nat.le_refl _) (.string (de 1)))
         clear HX1 HB1
         go_upto_region 26 with fail
         clear k0 k1 k2 f0 f1 f2
         generalize (((V1.setCell ⟨gB,0,none⟩ (.bool (sgn 1))).setCell ⟨gB,1,none⟩ (.string (nu 1))).setCell ⟨gB,2,none⟩ (.string (de 1)))=w9 at *
         go_upto_region 26 with fail
         replace HX:=hid HX.out.drew
         replace HB:=hid HB.out.drew
         refine wp_region_until 15 (fun (b:Bool) (u:World)=>(u.cell? ⟨gl,ol+i,none⟩=some (.int .i64 (li:Nat))∧u.cell? ⟨ga,oa+li,none⟩=some (.slice (some ⟨gr,or_,none⟩) N cr)∧u.cell? ⟨gl,ol+i,none⟩=some (.int .i64 (li:Nat))∧u.cell? ⟨gr,or_+li*3,none⟩=some (.bool an)∧u.cell? ⟨gr,or_+li*3+1,none⟩=some (.string ax)∧u.cell? ⟨gr,or_+li*3+2,none⟩=some (.string ay))∧(b=false→(u.cell? ⟨gB,0,none⟩=some (.bool (qF (1)).1)∧u.cell? ⟨gB,1,none⟩=some (.string (qF (1)).2.1)∧u.cell? ⟨gB,2,none⟩=some (.string (qF (1)).2.2)))) (by kernel_rfl) ⟨HELD.out _ HB.out,fun _=>HX.out.trio⟩ (fun hSd=>?_)
         generalize w9.drew=u0 at *
         refine wpU_take (i:=1) (oi:=_) (v:=.slice (some ⟨ga,oa,none⟩) N ca) (b:=false) rfl (by kernel_rfl) (by kernel_rfl) (by kernel_rfl) (by decide) (fun _ _ _ h=>h) (Or.inl ⟨by rfl,?_⟩) (by kernel_rfl) (by assumption) ?_
         ·intro u' hSu
          (try simp only[List.getElem_toArray,List.getElem_cons_zero,List.getElem_cons_succ])
          go_simp
         (try simp only[List.getElem_toArray,List.getElem_cons_zero,List.getElem_cons_succ])
         (try simp only[Act.put,List.setIfInBounds_toArray,List.set_cons_zero,List.set_cons_succ])
         refine wpU_take (i:=2) (oi:=_) (v:=.slice (some ⟨gl,ol,none⟩) n cl) (b:=false) rfl (by kernel_rfl) (by kernel_rfl) (by kernel_rfl) (by decide) (fun _ _ _ h=>h) (Or.inl ⟨by rfl,?_⟩) (by kernel_rfl) (by assumption) ?_
         ·intro u' hSu
          (try simp only[List.getElem_toArray,List.getElem_cons_zero,List.getElem_cons_succ])
          go_simp
         (try simp only[List.getElem_toArray,List.getElem_cons_zero,List.getElem_cons_succ])
         (try simp only[Act.put,List.setIfInBounds_toArray,List.set_cons_zero,List.set_cons_succ])
         refine wpU_take (i:=3) (oi:=_) (v:=.int .i64 (i:Nat)) (b:=false) rfl (by kernel_rfl) (by kernel_rfl) (by kernel_rfl) (by decide) (fun _ _ _ h=>h) (Or.inl ⟨by rfl,?_⟩) (by kernel_rfl) (by assumption) ?_
         ·intro u' hSu
          (try simp only[List.getElem_toArray,List.getElem_cons_zero,List.getElem_cons_succ])
          go_simp
         (try simp only[List.getElem_toArray,List.getElem_cons_zero,List.getElem_cons_succ])
         (try simp only[Act.put,List.setIfInBounds_toArray,List.set_cons_zero,List.set_cons_succ])
         refine wpU_take (i:=4) (oi:=_) (v:=.pointer (some ⟨gl,ol+i,none⟩)) (b:=false) rfl (by kernel_rfl) (by kernel_rfl) (by kernel_rfl) (by decide) (fun _ _ _ h=>h) (Or.inl ⟨by rfl,?_⟩) (by kernel_rfl) (by assumption) ?_
         ·intro u' hSu
          (try simp only[List.getElem_toArray,List.getElem_cons_zero,List.getElem_cons_succ])
          go_simp
         (try simp only[List.getElem_toArray,List.getElem_cons_zero,List.getElem_cons_succ])
         (try simp only[Act.put,List.setIfInBounds_toArray,List.set_cons_zero,List.set_cons_succ])
         refine wpU_take (i:=5) (oi:=_) (v:=.int .i64 (li:Nat)) (b:=false) rfl (by kernel_rfl) (by kernel_rfl) (by kernel_rfl) (by decide) (fun _ _ _ h=>h) (Or.inl ⟨by rfl,?_⟩) (by kernel_rfl) (by assumption) ?_
         ·intro u' hSu
          (try simp only[List.getElem_toArray,List.getElem_cons_zero,List.getElem_cons_succ])
          obtain⟨_,⟨s0,s1,s2,s3,s4,s5⟩,_⟩:=hSu
          go_simp
         (try simp only[List.getElem_toArray,List.getElem_cons_zero,List.getElem_cons_succ])
         (try simp only[Act.put,List.setIfInBounds_toArray,List.set_cons_zero,List.set_cons_succ])
         refine wpU_take (i:=6) (oi:=_) (v:=.pointer (some ⟨ga,oa+li,none⟩)) (b:=false) rfl (by kernel_rfl) (by kernel_rfl) (by kernel_rfl) (by decide) (fun _ _ _ h=>h) (Or.inl ⟨by rfl,?_⟩) (by kernel_rfl) (by assumption) ?_
         ·intro u' hSu
          (try simp only[List.getElem_toArray,List.getElem_cons_zero,List.getElem_cons_succ])
          go_simp
         (try simp only[List.getElem_toArray,List.getElem_cons_zero,List.getElem_cons_succ])
         (try simp only[Act.put,List.setIfInBounds_toArray,List.set_cons_zero,List.set_cons_succ])
         refine wpU_take (i:=7) (oi:=_) (v:=.slice (some ⟨gr,or_,none⟩) N cr) (b:=false) rfl (by kernel_rfl) (by kernel_rfl) (by kernel_rfl) (by decide) (fun _ _ _ h=>h) (Or.inl ⟨by rfl,?_⟩) (by kernel_rfl) (by assumption) ?_
         ·intro u' hSu
          (try simp only[List.getElem_toArray,List.getElem_cons_zero,List.getElem_cons_succ])
          obtain⟨_,⟨s0,s1,s2,s3,s4,s5⟩,_⟩:=hSu
          go_simp
         (try simp only[List.getElem_toArray,List.getElem_cons_zero,List.getElem_cons_succ])
         (try simp only[Act.put,List.setIfInBounds_toArray,List.set_cons_zero,List.set_cons_succ])
         refine wpU_take (i:=8) (oi:=_) (v:=.slice (some ⟨gl,ol,none⟩) n cl) (b:=false) rfl (by kernel_rfl) (by kernel_rfl) (by kernel_rfl) (by decide) (fun _ _ _ h=>h) (Or.inl ⟨by rfl,?_⟩) (by kernel_rfl) (by assumption) ?_
         ·intro u' hSu
          (try simp only[List.getElem_toArray,List.getElem_cons_zero,List.getElem_cons_succ])
          go_simp
         (try simp only[List.getElem_toArray,List.getElem_cons_zero,List.getElem_cons_succ])
         (try simp only[Act.put,List.setIfInBounds_toArray,List.set_cons_zero,List.set_cons_succ])
         refine wpU_take (i:=9) (oi:=_) (v:=.int .i64 (i:Nat)) (b:=false) rfl (by kernel_rfl) (by kernel_rfl) (by kernel_rfl) (by decide) (fun _ _ _ h=>h) (Or.inl ⟨by rfl,?_⟩) (by kernel_rfl) (by assumption) ?_
         ·intro u' hSu
          (try simp only[List.getElem_toArray,List.getElem_cons_zero,List.getElem_cons_succ])
          go_simp
         (try simp only[List.getElem_toArray,List.getElem_cons_zero,List.getElem_cons_succ])
         (try simp only[Act.put,List.setIfInBounds_toArray,List.set_cons_zero,List.set_cons_succ])
         refine wpU_take (i:=10) (oi:=_) (v:=.pointer (some ⟨gl,ol+i,none⟩)) (b:=false) rfl (by kernel_rfl) (by kernel_rfl) (by kernel_rfl) (by decide) (fun _ _ _ h=>h) (Or.inl ⟨by rfl,?_⟩) (by kernel_rfl) (by assumption) ?_
         ·intro u' hSu
          (try simp only[List.getElem_toArray,List.getElem_cons_zero,List.getElem_cons_succ])
          go_simp
         (try simp only[List.getElem_toArray,List.getElem_cons_zero,List.getElem_cons_succ])
         (try simp only[Act.put,List.setIfInBounds_toArray,List.set_cons_zero,List.set_cons_succ])
         refine wpU_take (i:=11) (oi:=_) (v:=.int .i64 (li:Nat)) (b:=false) rfl (by kernel_rfl) (by kernel_rfl) (by kernel_rfl) (by decide) (fun _ _ _ h=>h) (Or.inl ⟨by rfl,?_⟩) (by kernel_rfl) (by assumption) ?_
         ·intro u' hSu
          (try simp only[List.getElem_toArray,List.getElem_cons_zero,List.getElem_cons_succ])
          obtain⟨_,⟨s0,s1,s2,s3,s4,s5⟩,_⟩:=hSu
          go_simp
         (try simp only[List.getElem_toArray,List.getElem_cons_zero,List.getElem_cons_succ])
         (try simp only[Act.put,List.setIfInBounds_toArray,List.set_cons_zero,List.set_cons_succ])
         refine wpU_take (i:=12) (oi:=_) (v:=.pointer (some ⟨gr,or_+li*3,none⟩)) (b:=false) rfl (by kernel_rfl) (by kernel_rfl) (by kernel_rfl) (by decide) (fun _ _ _ h=>h) (Or.inl ⟨by rfl,?_⟩) (by kernel_rfl) (by assumption) ?_
         ·intro u' hSu
          (try simp only[List.getElem_toArray,List.getElem_cons_zero,List.getElem_cons_succ])
          go_simp
         (try simp only[List.getElem_toArray,List.getElem_cons_zero,List.getElem_cons_succ])
         (try simp only[Act.put,List.setIfInBounds_toArray,List.set_cons_zero,List.set_cons_succ])
         refine wpU_take (i:=13) (oi:=_) (v:=.agg #[.bool an,.string ax,.string ay]) (b:=false) rfl (by kernel_rfl) (by kernel_rfl) (by kernel_rfl) (by decide) (fun _ _ _ h=>h) (Or.inl ⟨by rfl,?_⟩) (by kernel_rfl) (by assumption) ?_
         ·intro u' hSu
          (try simp only[List.getElem_toArray,List.getElem_cons_zero,List.getElem_cons_succ])
          obtain⟨_,⟨s0,s1,s2,s3,s4,s5⟩,_⟩:=hSu
          go_simp
         (try simp only[List.getElem_toArray,List.getElem_cons_zero,List.getElem_cons_succ])
         (try simp only[Act.put,List.setIfInBounds_toArray,List.set_cons_zero,List.set_cons_succ])
         refine wpU_ahead (i:=0) (oi:=_) (v:=.agg #[.bool (qF (1)).1,.string (qF (1)).2.1,.string (qF (1)).2.2]) rfl (by kernel_rfl) (by kernel_rfl) (by kernel_rfl) (by decide) rfl (by kernel_rfl) (fun _ _ _ h=>h) (Or.inl ⟨by rfl,?_⟩) (by kernel_rfl) (by assumption) ?_
         ·intro u' hSu
          (try simp only[List.getElem_toArray,List.getElem_cons_zero])
          obtain⟨_,s99⟩:=hSu
          obtain⟨s97,s98,s99⟩:=s99 rfl
          go_simp
         (try simp only[List.getElem_toArray,List.getElem_cons_zero])
         (try simp only[Act.put,List.setIfInBounds_toArray,List.set_cons_zero,List.set_cons_succ])
         refine wpU_ready (rs:=[14]) (by kernel_rfl) (by simp) (AllU.cons (b:=false) rfl (by kernel_rfl) ?_ (AllU.nil))
         ·intro K' hK'
          (try simp only[List.getElem_toArray,List.getElem_cons_zero,List.getElem_cons_succ])
          go_simp
          refine(HSU.out _).mono ?_
          rintro e u3 ⟨rfl,hb⟩
          replace HX:=hid (HX.out.below hb HX.out.lt)
          replace HB:=hid (HB.out.trans (hb.mono (Nat.le_trans HGV.out HB.out.size)))
          refine hK'.out _ _ ⟨HELD.out _ HB.out,fun _=>HX.out.trio⟩ (fun hSe=>?_)
          clear hK' K' hSd
          have hSd:=hSe
          clear hSe
          clear hb
          (try simp only[List.getElem_toArray,List.getElem_cons_zero,List.getElem_cons_succ])
          (try simp only[Act.put,List.setIfInBounds_toArray,List.set_cons_zero,List.set_cons_succ])
          obtain⟨q0,q1,q2⟩:=HX.out.trio
          have q3:=HX.out.fz 0
          have q4:=HX.out.fz 1
          have q5:=HX.out.fz 2
          refine wpU_ready (rs:=[15]) (by kernel_rfl) (by simp) (AllU.cons (b:=true) rfl (by kernel_rfl) ?_ (AllU.nil))
          ·intro K' hK'
           (try simp only[List.getElem_toArray,List.getElem_cons_zero,List.getElem_cons_succ])
           go_simp
           have HXN:=hid (HX.out.put (qF (mq)).1 (qF (mq)).2.1 (qF (mq)).2.2)
           have HBN:=hid (((HB.out.setCell (p:=⟨gB,0,none⟩) (Nat.le_refl _) (.bool (qF (mq)).1)).setCell (p:=⟨gB,1,none⟩) (Nat.le_refl _) (.string (qF (mq)).2.1)).setCell (p:=⟨gB,2,none⟩) (Nat.le_refl _) (.string (qF (mq)).2.2))
           refine hK'.out _ _ ⟨HELD.out _ HBN.out,fun e=>by cases e⟩ (fun _=>wpU_done (by kernel_rfl) ?_ _)
           clear hK' K' hSd q0 q1 q2 q3 q4 q5 HX HB
           clear HELD
           go_upto_region 27 with fail
           generalize (((u3.setCell ⟨gB,0,none⟩ (.bool (qF (mq)).1)).setCell ⟨gB,1,none⟩ (.string (qF (mq)).2.1)).setCell ⟨gB,2,none⟩ (.string (qF (mq)).2.2))=V3 at *
           obtain⟨k0,k1,k2⟩:=HXN.out.trio
           have hAL:=(Below.refl V3.heap.size V3).alloc (Nat.le_refl _) (FC (qF (mq)).1 (qF (mq)).2.1 (qF (mq)).2.2)
           have HC1:=hid (Box.new V3 (qF (mq)).1 (qF (mq)).2.1 (qF (mq)).2.2)
           have HRB:=hid (HRV.out.below (HGE2.out▸HBN.out))
           have HBB:=hid (HBV.out.trans (HBN.out.mono HWG.out))
           have HR4:=hid (HRB.out.below hAL)
           have HB4:=hid (HBB.out.trans (hAL.mono HBB.out.size))
           clear hAL HXN HBN HRB HBB
           go_wp2_with (at_builtin;refine wpList_append_fr rfl _ _ rfl V9.heap.size (.slice dv nv cv) L0 (qF (mq)) rfl HR4.out V3.heap.size rfl HC1.out HLN.out HB4.out.size ?_;intro v5 w5 hr5 hg5;have HR5:Hid (RwF w5 V9.heap.size v5 (lF (i+1) (mN X l i))):=(by rw[HSN.out];exact hr5);have HB5:=hid (HB4.out.grown hg5 HB4.out.size (fun k e=>HR4.out.own k e)))
           go_roundw
           case rel=>exact⟨i+1,by omega,by go_num,HR5,HB5⟩
           case measure=>simp[intOf];omega
        ·have HSU:Hid (∀U:World,Calls Tryz.prog 54 #[.agg #[.bool (qF (0)).1,.string (qF (0)).2.1,.string (qF (0)).2.2],.agg #[.bool an,.string ax,.string ay]] U fun e w'=>e=.returned (.agg #[.bool (qF (mq)).1,.string (qF (mq)).2.1,.string (qF (mq)).2.2])∧Below U.heap.size U w'):=fun U=>by
          have h9:=HSU0.out U
          rw[HMQ0.out hik] at h9
          exact h9
         clear HSU1 HSU0 HMQ1 HMQ0
         have hik2:¬(i:Int)=(k:Int):=by omega
         clear hik HLK
         have HX:=HX0
         have HB:=HB0
         clear HX0 HB0
         go_upto_region 26 with fail
         try simp only[hgB]
         clear hgB
         generalize (V0.alloc (FC (sgn 0) (nu 0) (de 0)))=w9 at *
         go_upto_region 26 with fail
         replace HX:=hid HX.out.drew
         replace HB:=hid HB.out.drew
         refine wp_region_until 15 (fun (b:Bool) (u:World)=>(u.cell? ⟨gl,ol+i,none⟩=some (.int .i64 (li:Nat))∧u.cell? ⟨ga,oa+li,none⟩=some (.slice (some ⟨gr,or_,none⟩) N cr)∧u.cell? ⟨gl,ol+k,none⟩=some (.int .i64 (lk:Nat))∧u.cell? ⟨gr,or_+lk*3,none⟩=some (.bool an)∧u.cell? ⟨gr,or_+lk*3+1,none⟩=some (.string ax)∧u.cell? ⟨gr,or_+lk*3+2,none⟩=some (.string ay))∧(b=false→(u.cell? ⟨gB,0,none⟩=some (.bool (qF (0)).1)∧u.cell? ⟨gB,1,none⟩=some (.string (qF (0)).2.1)∧u.cell? ⟨gB,2,none⟩=some (.string (qF (0)).2.2)))) (by kernel_rfl) ⟨HELD.out _ HB.out,fun _=>HX.out.trio⟩ (fun hSd=>?_)
         generalize w9.drew=u0 at *
         refine wpU_take (i:=1) (oi:=_) (v:=.slice (some ⟨ga,oa,none⟩) N ca) (b:=false) rfl (by kernel_rfl) (by kernel_rfl) (by kernel_rfl) (by decide) (fun _ _ _ h=>h) (Or.inl ⟨by rfl,?_⟩) (by kernel_rfl) (by assumption) ?_
         ·intro u' hSu
          (try simp only[List.getElem_toArray,List.getElem_cons_zero,List.getElem_cons_succ])
          go_simp
         (try simp only[List.getElem_toArray,List.getElem_cons_zero,List.getElem_cons_succ])
         (try simp only[Act.put,List.setIfInBounds_toArray,List.set_cons_zero,List.set_cons_succ])
         refine wpU_take (i:=2) (oi:=_) (v:=.slice (some ⟨gl,ol,none⟩) n cl) (b:=false) rfl (by kernel_rfl) (by kernel_rfl) (by kernel_rfl) (by decide) (fun _ _ _ h=>h) (Or.inl ⟨by rfl,?_⟩) (by kernel_rfl) (by assumption) ?_
         ·intro u' hSu
          (try simp only[List.getElem_toArray,List.getElem_cons_zero,List.getElem_cons_succ])
          go_simp
         (try simp only[List.getElem_toArray,List.getElem_cons_zero,List.getElem_cons_succ])
         (try simp only[Act.put,List.setIfInBounds_toArray,List.set_cons_zero,List.set_cons_succ])
         refine wpU_take (i:=3) (oi:=_) (v:=.int .i64 (i:Nat)) (b:=false) rfl (by kernel_rfl) (by kernel_rfl) (by kernel_rfl) (by decide) (fun _ _ _ h=>h) (Or.inl ⟨by rfl,?_⟩) (by kernel_rfl) (by assumption) ?_
         ·intro u' hSu
          (try simp only[List.getElem_toArray,List.getElem_cons_zero,List.getElem_cons_succ])
          go_simp
         (try simp only[List.getElem_toArray,List.getElem_cons_zero,List.getElem_cons_succ])
         (try simp only[Act.put,List.setIfInBounds_toArray,List.set_cons_zero,List.set_cons_succ])
         refine wpU_take (i:=4) (oi:=_) (v:=.pointer (some ⟨gl,ol+i,none⟩)) (b:=false) rfl (by kernel_rfl) (by kernel_rfl) (by kernel_rfl) (by decide) (fun _ _ _ h=>h) (Or.inl ⟨by rfl,?_⟩) (by kernel_rfl) (by assumption) ?_
         ·intro u' hSu
          (try simp only[List.getElem_toArray,List.getElem_cons_zero,List.getElem_cons_succ])
          go_simp
         (try simp only[List.getElem_toArray,List.getElem_cons_zero,List.getElem_cons_succ])
         (try simp only[Act.put,List.setIfInBounds_toArray,List.set_cons_zero,List.set_cons_succ])
         refine wpU_take (i:=5) (oi:=_) (v:=.int .i64 (li:Nat)) (b:=false) rfl (by kernel_rfl) (by kernel_rfl) (by kernel_rfl) (by decide) (fun _ _ _ h=>h) (Or.inl ⟨by rfl,?_⟩) (by kernel_rfl) (by assumption) ?_
         ·intro u' hSu
          (try simp only[List.getElem_toArray,List.getElem_cons_zero,List.getElem_cons_succ])
          obtain⟨_,⟨s0,s1,s2,s3,s4,s5⟩,_⟩:=hSu
          go_simp
         (try simp only[List.getElem_toArray,List.getElem_cons_zero,List.getElem_cons_succ])
         (try simp only[Act.put,List.setIfInBounds_toArray,List.set_cons_zero,List.set_cons_succ])
         refine wpU_take (i:=6) (oi:=_) (v:=.pointer (some ⟨ga,oa+li,none⟩)) (b:=false) rfl (by kernel_rfl) (by kernel_rfl) (by kernel_rfl) (by decide) (fun _ _ _ h=>h) (Or.inl ⟨by rfl,?_⟩) (by kernel_rfl) (by assumption) ?_
         ·intro u' hSu
          (try simp only[List.getElem_toArray,List.getElem_cons_zero,List.getElem_cons_succ])
          go_simp
         (try simp only[List.getElem_toArray,List.getElem_cons_zero,List.getElem_cons_succ])
         (try simp only[Act.put,List.setIfInBounds_toArray,List.set_cons_zero,List.set_cons_succ])
         refine wpU_take (i:=7) (oi:=_) (v:=.slice (some ⟨gr,or_,none⟩) N cr) (b:=false) rfl (by kernel_rfl) (by kernel_rfl) (by kernel_rfl) (by decide) (fun _ _ _ h=>h) (Or.inl ⟨by rfl,?_⟩) (by kernel_rfl) (by assumption) ?_
         ·intro u' hSu
          (try simp only[List.getElem_toArray,List.getElem_cons_zero,List.getElem_cons_succ])
          obtain⟨_,⟨s0,s1,s2,s3,s4,s5⟩,_⟩:=hSu
          go_simp
         (try simp only[List.getElem_toArray,List.getElem_cons_zero,List.getElem_cons_succ])
         (try simp only[Act.put,List.setIfInBounds_toArray,List.set_cons_zero,List.set_cons_succ])
         refine wpU_take (i:=8) (oi:=_) (v:=.slice (some ⟨gl,ol,none⟩) n cl) (b:=false) rfl (by kernel_rfl) (by kernel_rfl) (by kernel_rfl) (by decide) (fun _ _ _ h=>h) (Or.inl ⟨by rfl,?_⟩) (by kernel_rfl) (by assumption) ?_
         ·intro u' hSu
          (try simp only[List.getElem_toArray,List.getElem_cons_zero,List.getElem_cons_succ])
          go_simp
         (try simp only[List.getElem_toArray,List.getElem_cons_zero,List.getElem_cons_succ])
         (try simp only[Act.put,List.setIfInBounds_toArray,List.set_cons_zero,List.set_cons_succ])
         refine wpU_take (i:=9) (oi:=_) (v:=.int .i64 (k:Nat)) (b:=false) rfl (by kernel_rfl) (by kernel_rfl) (by kernel_rfl) (by decide) (fun _ _ _ h=>h) (Or.inl ⟨by rfl,?_⟩) (by kernel_rfl) (by assumption) ?_
         ·intro u' hSu
          (try simp only[List.getElem_toArray,List.getElem_cons_zero,List.getElem_cons_succ])
          go_simp
         (try simp only[List.getElem_toArray,List.getElem_cons_zero,List.getElem_cons_succ])
         (try simp only[Act.put,List.setIfInBounds_toArray,List.set_cons_zero,List.set_cons_succ])
         refine wpU_take (i:=10) (oi:=_) (v:=.pointer (some ⟨gl,ol+k,none⟩)) (b:=false) rfl (by kernel_rfl) (by kernel_rfl) (by kernel_rfl) (by decide) (fun _ _ _ h=>h) (Or.inl ⟨by rfl,?_⟩) (by kernel_rfl) (by assumption) ?_
         ·intro u' hSu
          (try simp only[List.getElem_toArray,List.getElem_cons_zero,List.getElem_cons_succ])
          go_simp
         (try simp only[List.getElem_toArray,List.getElem_cons_zero,List.getElem_cons_succ])
         (try simp only[Act.put,List.setIfInBounds_toArray,List.set_cons_zero,List.set_cons_succ])
         refine wpU_take (i:=11) (oi:=_) (v:=.int .i64 (lk:Nat)) (b:=false) rfl (by kernel_rfl) (by kernel_rfl) (by kernel_rfl) (by decide) (fun _ _ _ h=>h) (Or.inl ⟨by rfl,?_⟩) (by kernel_rfl) (by assumption) ?_
         ·intro u' hSu
          (try simp only[List.getElem_toArray,List.getElem_cons_zero,List.getElem_cons_succ])
          obtain⟨_,⟨s0,s1,s2,s3,s4,s5⟩,_⟩:=hSu
          go_simp
         (try simp only[List.getElem_toArray,List.getElem_cons_zero,List.getElem_cons_succ])
         (try simp only[Act.put,List.setIfInBounds_toArray,List.set_cons_zero,List.set_cons_succ])
         refine wpU_take (i:=12) (oi:=_) (v:=.pointer (some ⟨gr,or_+lk*3,none⟩)) (b:=false) rfl (by kernel_rfl) (by kernel_rfl) (by kernel_rfl) (by decide) (fun _ _ _ h=>h) (Or.inl ⟨by rfl,?_⟩) (by kernel_rfl) (by assumption) ?_
         ·intro u' hSu
          (try simp only[List.getElem_toArray,List.getElem_cons_zero,List.getElem_cons_succ])
          go_simp
         (try simp only[List.getElem_toArray,List.getElem_cons_zero,List.getElem_cons_succ])
         (try simp only[Act.put,List.setIfInBounds_toArray,List.set_cons_zero,List.set_cons_succ])
         refine wpU_take (i:=13) (oi:=_) (v:=.agg #[.bool an,.string ax,.string ay]) (b:=false) rfl (by kernel_rfl) (by kernel_rfl) (by kernel_rfl) (by decide) (fun _ _ _ h=>h) (Or.inl ⟨by rfl,?_⟩) (by kernel_rfl) (by assumption) ?_
         ·intro u' hSu
          (try simp only[List.getElem_toArray,List.getElem_cons_zero,List.getElem_cons_succ])
          obtain⟨_,⟨s0,s1,s2,s3,s4,s5⟩,_⟩:=hSu
          go_simp
         (try simp only[List.getElem_toArray,List.getElem_cons_zero,List.getElem_cons_succ])
         (try simp only[Act.put,List.setIfInBounds_toArray,List.set_cons_zero,List.set_cons_succ])
         refine wpU_ahead (i:=0) (oi:=_) (v:=.agg #[.bool (qF (0)).1,.string (qF (0)).2.1,.string (qF (0)).2.2]) rfl (by kernel_rfl) (by kernel_rfl) (by kernel_rfl) (by decide) rfl (by kernel_rfl) (fun _ _ _ h=>h) (Or.inl ⟨by rfl,?_⟩) (by kernel_rfl) (by assumption) ?_
         ·intro u' hSu
          (try simp only[List.getElem_toArray,List.getElem_cons_zero])
          obtain⟨_,s99⟩:=hSu
          obtain⟨s97,s98,s99⟩:=s99 rfl
          go_simp
         (try simp only[List.getElem_toArray,List.getElem_cons_zero])
         (try simp only[Act.put,List.setIfInBounds_toArray,List.set_cons_zero,List.set_cons_succ])
         refine wpU_ready (rs:=[14]) (by kernel_rfl) (by simp) (AllU.cons (b:=false) rfl (by kernel_rfl) ?_ (AllU.nil))
         ·intro K' hK'
          (try simp only[List.getElem_toArray,List.getElem_cons_zero,List.getElem_cons_succ])
          go_simp
          refine(HSU.out _).mono ?_
          rintro e u3 ⟨rfl,hb⟩
          replace HX:=hid (HX.out.below hb HX.out.lt)
          replace HB:=hid (HB.out.trans (hb.mono (Nat.le_trans HGV.out HB.out.size)))
          refine hK'.out _ _ ⟨HELD.out _ HB.out,fun _=>HX.out.trio⟩ (fun hSe=>?_)
          clear hK' K' hSd
          have hSd:=hSe
          clear hSe
          clear hb
          (try simp only[List.getElem_toArray,List.getElem_cons_zero,List.getElem_cons_succ])
          (try simp only[Act.put,List.setIfInBounds_toArray,List.set_cons_zero,List.set_cons_succ])
          obtain⟨q0,q1,q2⟩:=HX.out.trio
          have q3:=HX.out.fz 0
          have q4:=HX.out.fz 1
          have q5:=HX.out.fz 2
          refine wpU_ready (rs:=[15]) (by kernel_rfl) (by simp) (AllU.cons (b:=true) rfl (by kernel_rfl) ?_ (AllU.nil))
          ·intro K' hK'
           (try simp only[List.getElem_toArray,List.getElem_cons_zero,List.getElem_cons_succ])
           go_simp
           have HXN:=hid (HX.out.put (qF (mq)).1 (qF (mq)).2.1 (qF (mq)).2.2)
           have HBN:=hid (((HB.out.setCell (p:=⟨gB,0,none⟩) (Nat.le_refl _) (.bool (qF (mq)).1)).setCell (p:=⟨gB,1,none⟩) (Nat.le_refl _) (.string (qF (mq)).2.1)).setCell (p:=⟨gB,2,none⟩) (Nat.le_refl _) (.string (qF (mq)).2.2))
           refine hK'.out _ _ ⟨HELD.out _ HBN.out,fun e=>by cases e⟩ (fun _=>wpU_done (by kernel_rfl) ?_ _)
           clear hK' K' hSd q0 q1 q2 q3 q4 q5 HX HB
           clear HELD
           go_upto_region 27 with fail
           generalize (((u3.setCell ⟨gB,0,none⟩ (.bool (qF (mq)).1)).setCell ⟨gB,1,none⟩ (.string (qF (mq)).2.1)).setCell ⟨gB,2,none⟩ (.string (qF (mq)).2.2))=V3 at *
           obtain⟨k0,k1,k2⟩:=HXN.out.trio
           have hAL:=(Below.refl V3.heap.size V3).alloc (Nat.le_refl _) (FC (qF (mq)).1 (qF (mq)).2.1 (qF (mq)).2.2)
           have HC1:=hid (Box.new V3 (qF (mq)).1 (qF (mq)).2.1 (qF (mq)).2.2)
           have HRB:=hid (HRV.out.below (HGE2.out▸HBN.out))
           have HBB:=hid (HBV.out.trans (HBN.out.mono HWG.out))
           have HR4:=hid (HRB.out.below hAL)
           have HB4:=hid (HBB.out.trans (hAL.mono HBB.out.size))
           clear hAL HXN HBN HRB HBB
           go_wp2_with (at_builtin;refine wpList_append_fr rfl _ _ rfl V9.heap.size (.slice dv nv cv) L0 (qF (mq)) rfl HR4.out V3.heap.size rfl HC1.out HLN.out HB4.out.size ?_;intro v5 w5 hr5 hg5;have HR5:Hid (RwF w5 V9.heap.size v5 (lF (k+1) (mN X l i))):=(by rw[HSN.out];exact hr5);have HB5:=hid (HB4.out.grown hg5 HB4.out.size (fun k e=>HR4.out.own k e)))
           go_roundw
           case rel=>exact⟨k+1,by omega,by go_num,HR5,HB5⟩
           case measure=>simp[intOf];omega
       ·obtain rfl:n=k:=by omega
        obtain⟨g6,c6,hv6⟩:=rwF_some HRW.out (lF_length _ _) h1n
        subst hv6
        have HO3:=hid (HO.out.below HBR.out)
        have HQ3:=hid (HBQ.out.below HBR.out)
        have HB3:=hid (HBB.out.trans (HBR.out.mono HBB.out.size))
        have hAL:=(Below.refl wr.heap.size wr).alloc (Nat.le_refl _) (.cells #[.slice (some ⟨g6,0,none⟩) n c6] 23)
        have HC1:Hid ((wr.alloc (.cells #[.slice (some ⟨g6,0,none⟩) n c6] 23)).cell? ⟨wr.heap.size,0,none⟩=some (.slice (some ⟨g6,0,none⟩) n c6)):=by
         show _=_
         rw[cell_of_row _ _ _ _ _ (0,0) (heap_alloc_new wr _)]
         rfl
        have HO4:=hid (HO3.out.below hAL)
        have HQ4:=hid (HQ3.out.below hAL)
        have HB4:=hid (HB3.out.trans (hAL.mono HB3.out.size))
        have HRW4:=hid (HRW.out.below hAL)
        have HA4:=hid (HRW4.out.lower HBB.out.size)
        have HAP4:=hid (HAP.out.push HBQ.out HRW4.out (Nat.le_refl _))
        have HL1:Hid (Ps.length+1≤100000):=by
         have h9:=congrArg List.length HP.out
         rw[List.length_map,List.length_map,List.length_range] at h9
         show _≤_
         omega
        have HL2:Hid ((lF i bq).length+1≤100000):=by show _≤_;rw[lF_length];omega
        have HSN2:Hid (lF (i+1) bq=lF i bq++[qF 1]):=by show _=_;rw[←HBE.out i];exact lF_snoc i _
        have HPN:Hid ((Ps++[((Value.slice (some ⟨g6,0,none⟩) n c6,lF n (mN X l i)):PR)]).map (·.2)=(List.range (i+1)).map fun t=>lF n (mN X l t)):=by
         show _=_
         rw[List.map_append,HP.out,List.range_succ,List.map_append]
         rfl
        clear hAL HO3 HQ3 HB3 HRW HBR HO HBQ HBB HAP
        go_wp2_with (at_builtin;refine wpList_append_rs rfl _ _ rfl wB.heap.size _ Ps (.slice (some ⟨g6,0,none⟩) n c6) ⟨_,_,_,rfl⟩ rfl HO4.out.1 wr.heap.size rfl HC1.out HL1.out HB4.out.size ?_;intro v5 w5 hr5 hg5;have HO5:=hid (HO4.out.push hr5 hg5 HA4.out);have HB5:=hid (HB4.out.grown hg5 HB4.out.size (fun k e=>owns_from HO4.out.1 k e));have HK5:Hid (KeepT 44 (wr.alloc (.cells #[.slice (some ⟨g6,0,none⟩) n c6] 23)) w5):=KeepT.grown hg5 (owns_typed HO4.out.1) (by decide);have HQ5:Hid (RwF w5 wB.heap.size (.slice dq nq cq) (lF i bq)):=owns_keep HQ4.out HK5.out;clear hr5 hg5 HK5 HO4 HQ4 HB4 HC1 HA4)
        refine(HO1.out _).mono ?_
        rintro e w6 ⟨rfl,hb⟩
        have HO6a:=hid (HO5.out.below hb)
        have HQ6a:=hid (HQ5.out.below hb)
        have HB6a:=hid (HB5.out.trans (hb.mono HB5.out.size))
        have hA6:=(Below.refl w6.heap.size w6).alloc (Nat.le_refl _) (FC (sgn 1) (nu 1) (de 1))
        have HC6:Hid (Box (w6.alloc (FC (sgn 1) (nu 1) (de 1))) w6.heap.size (qF (1)).1 (qF (1)).2.1 (qF (1)).2.2):=Box.new w6 (sgn 1) (nu 1) (de 1)
        have HQ6:=hid (HQ6a.out.below hA6)
        have HO6:=hid (HO6a.out.below hA6)
        have HB6:=hid (HB6a.out.trans (hA6.mono HB6a.out.size))
        clear hb hA6 HO5 HQ5 HB5 HO6a HQ6a HB6a
        go_wp2_with (at_builtin;refine wpList_append_fr1 rfl _ _ rfl wB.heap.size (.slice dq nq cq) (lF i bq) (qF 1) rfl HQ6.out w6.heap.size rfl HC6.out HL2.out HB6.out.size ?_;intro v7 w7 hr7 hg7 hn7;have HR7:Hid (RwF w7 wB.heap.size v7 (lF (i+1) bq)):=(by rw[HSN2.out];exact hr7);have HB7:=hid (HB6.out.grown hg7 HB6.out.size (fun k e=>HQ6.out.own k e));have HO7:=hid (HO6.out.beside HAP4.out HQ6.out hg7);have HAP7:=hid (HAP4.out.grow HO6.out hn7);clear hr7 hg7 hn7)
        go_roundw
        case rel=>exact⟨i+1,_,by omega,by go_num,HO7,HPN,HR7,HAP7,HB7⟩
        case measure=>simp[intOf];omega
     ·obtain rfl:n=i:=by omega
      obtain⟨dy,cy,hav,hfs⟩:=OwR.rows HO.out
      subst hav
      have hro:rOf Ps=mR n (mN X l):=HP.out
      rw[hro] at hfs
      rw[hro,mR_length]
      obtain⟨db,cb2,hbv,hbf⟩:=HBQ.out.fr
      subst hbv
      rw[lF_length]
      have hll:∀i,i<n→l.getD i 0<N:=HLNN.out
      have hln5:l.length≤5:=by rw[HNL.out];omega
      obtain⟨hcr0,hcr⟩:=back_cramer HKL.out hln5
      rw[HNL.out] at hcr0 hcr
      have HSV:Hid (Calls Tryz.prog 56 #[.slice dy n cy,.slice db n cb2] wr fun e w'=>∃v,e=.returned v∧RwF w' wr.heap.size v (lF n fun k=>detQ n (putC (mN X l) k bq)/detQ n (mN X l))∧Below wr.heap.size wr w'):=by
       refine HSVD.out n (mN X l) bq dy db cy cb2 wr (by omega) (fun i j hi hj=>?_) (fun i j hi hj=>?_) (fun i hi=>?_) (fun i hi=>?_) hcr0 hfs hbf
       ·exact(delta_whl T i j).sub (HWHL.out _ _ (hll i hi) (hll j hj))
       ·exact((delta_abs i j).sub (HCHN.out.abs (hll i hi) (hll j hj))).up (by decide)
       ·rw[HBE.out];exact Whl.one _
       ·rw[HBE.out];exact Abs.one.up (by decide)
      obtain⟨xx,hxx⟩:∃xx:Nat→Rat,xx=bkX (rowQ X) l:=⟨_,rfl⟩
      have hxe:lF n (fun k=>detQ n (putC (mN X l) k bq)/detQ n (mN X l))=lF n xx:=lF_congr fun k hk=>by
       rw[hxx,show bq=fun _=>1 from funext HBE.out]
       exact hcr k hk
      rw[hxe] at HSV
      obtain⟨SQ,hSQ⟩:∃SQ:Nat→Rat,SQ=bkS (rowQ X) ii l:=⟨_,rfl⟩
      have HSQ0:Hid (SQ 0=1):=by show _=_;rw[hSQ];exact Rat.add_zero 1
      have HSQS:Hid (∀k,SQ (k+1)=SQ k+rowQ X ii (l.getD k 0)*xx k):=fun k=>by rw[hSQ,hxx];exact bkS_succ _ _ _ _
      have HSQW:Hid (∀k,k≤n→qw (SQ k)≤50000):=fun k hk=>by rw[hSQ];exact bkS_fit HKL.out HCM.out hln5 (by rw[HNL.out];exact hk)
      have HXXW:Hid (∀k,k<n→Fits 3505 (xx k)):=fun k hk=>by rw[hxx];exact bkX_fit HKL.out HCM.out hln5 (by rw[HNL.out];exact hk)
      have HSQN:Hid (SQ n=qr):=by show _=_;rw[hSQ,←HQR.out,back_share HKL.out,HNL.out]
      have HFT:=hid (fun (k:Nat) (hk:k<N)=>HCM.out.fit HLI0.out hk)
      clear hxe hxx hSQ hro hfs hbf hll hln5 hcr0 hcr HO HP HBQ HAP HSVD HBE
      go_wp2_with fail
      refine HSV.out.mono ?_
      rintro e wX ⟨xv,rfl,hxr,hb⟩
      have HBX:=hid (HBB0.out.trans ((HBB.out.trans (hb.mono HBB.out.size)).mono HBB0.out.size))
      have HBXB:=hid (HBB.out.trans (hb.mono HBB.out.size))
      obtain⟨dx,cx,hxv,hxf⟩:=hxr.fr
      subst hxv
      rw[lF_length]
      have HXV:=hid hxf
      clear hxr hb HSV hxf HBB
      have HUPX:Hid (∀U:World,Below wX.heap.size wX U→Below wB.heap.size wB U):=fun U hU=>HBXB.out.trans (hU.mono HBXB.out.size)
      have HUPW:Hid (∀U:World,Below wX.heap.size wX U→Below w.heap.size w U):=fun U hU=>HBX.out.trans (hU.mono HBX.out.size)
      go_wp2_with fail
      refine(HO1.out _).mono ?_
      rintro e V0 ⟨rfl,hbv⟩
      have HBV:=hid hbv
      have hA:=(Below.refl V0.heap.size V0).alloc (Nat.le_refl _) (FC (sgn 1) (nu 1) (de 1))
      have HX0:Hid (Box (V0.alloc (FC (sgn 1) (nu 1) (de 1))) V0.heap.size (qF (SQ 0)).1 (qF (SQ 0)).2.1 (qF (SQ 0)).2.2):=by show Box _ _ _ _ _;rw[HSQ0.out];exact Box.new V0 (sgn 1) (nu 1) (de 1)
      have HB0:=hid hA
      clear hbv hA
      go_wp2_with fail
      generalize (V0.alloc (FC (sgn 1) (nu 1) (de 1)))=V1 at *
      obtain⟨gB,hgB⟩:∃x,V0.heap.size=x:=⟨_,rfl⟩
      rw[hgB] at HX0 HB0
      have HGV:Hid (gB≤V0.heap.size):=Nat.le_of_eq hgB.symm
      have HWG:Hid (wX.heap.size≤gB):=by rw[←hgB];exact HBV.out.size
      simp only[hgB]
      clear hgB
      go_loopw [19] (fun kv wr=>∃k:Nat,k≤n∧kv=.int .i64 k∧Hid (Box wr gB (qF (SQ k)).1 (qF (SQ k)).2.1 (qF (SQ k)).2.2)∧Hid (Below gB V0 wr)) (fun kv _=>n - (intOf kv).toNat)
      case atStart=>exact⟨0,Nat.zero_le _,rfl,HX0,HB0⟩
      case round=>
       clear HX0 HB0
       obtain⟨k,hk,rfl,HX,HB⟩:=hrel
       by_cases hlk:k<n
       ·obtain⟨gl,ol,hdl,hgl,t0⟩:=ints_at HLI.out (show k<l.length by rw[HNL.out];exact hlk)
        subst hdl
        obtain⟨gx,ox,hxe,hgx,y0,y1,y2⟩:=HXV.out k (by rw[lF_length];exact hlk)
        subst hxe
        rw[lF_get] at y0 y1 y2
        have hlkN:=HLNN.out k hlk
        have hsq:=HSQS.out k
        obtain⟨lk,hlke⟩:∃x,l.getD k 0=x:=⟨_,rfl⟩
        rw[hlke] at t0 hlkN hsq
        clear hlke
        obtain⟨ga,oa,gr,or_,cr,hae,hga,hgr,x0,x1,x2,x3⟩:=(HR.out w (Below.refl _ _)).at HLI0.out hlkN
        subst hae
        have hxw:=HXXW.out k hlk
        have hft:=HFT.out lk hlkN
        have HMU:Hid (∀U:World,Calls Tryz.prog 59 #[.agg #[.bool (X ii lk).1,.string (X ii lk).2.1,.string (X ii lk).2.2],.agg #[.bool (qF (xx k)).1,.string (qF (xx k)).2.1,.string (qF (xx k)).2.2]] U fun e w'=>e=.returned (.agg #[.bool (qF (rowQ X ii lk*xx k)).1,.string (qF (rowQ X ii lk*xx k)).2.1,.string (qF (rowQ X ii lk*xx k)).2.2])∧Below U.heap.size U w'):=fun U=>by
         have h9:=rMulFF (X ii lk) (qF (xx k)) U (Nat.le_trans (HFEW.out ii lk HLI0.out hlkN) (by decide)) (by have h2:=fits_qw hxw;show qw (xx k)≤_;omega)
         rw[frQ_qF] at h9
         exact h9
        have HAD:Hid (∀U:World,Calls Tryz.prog 55 #[.agg #[.bool (qF (SQ k)).1,.string (qF (SQ k)).2.1,.string (qF (SQ k)).2.2],.agg #[.bool (qF (rowQ X ii lk*xx k)).1,.string (qF (rowQ X ii lk*xx k)).2.1,.string (qF (rowQ X ii lk*xx k)).2.2]] U fun e w'=>e=.returned (.agg #[.bool (qF (SQ (k+1))).1,.string (qF (SQ (k+1))).2.1,.string (qF (SQ (k+1))).2.2])∧Below U.heap.size U w'):=fun U=>by
         rw[hsq]
         exact rAddQ (SQ k) _ U (HSQW.out k hk) (by have h2:=fits_qw (fits_tim hft hxw);omega)
        clear hsq hxw hft
        generalize rowQ X ii lk*xx k=tq at *
        generalize X ii lk=zz at *
        obtain⟨an,ax,ay⟩:=zz
        generalize qF (xx k)=zy at *
        obtain⟨bn,bx,by_⟩:=zy
        simp only at x1 x2 x3 y0 y1 y2 HMU
        have HELD:Hid (∀u,Below gB V0 u→u.cell? ⟨ga,oa+ii,none⟩=some (.slice (some ⟨gr,or_,none⟩) N cr)∧u.cell? ⟨gl,ol+k,none⟩=some (.int .i64 (lk:Nat))∧u.cell? ⟨gr,or_+lk*3,none⟩=some (.bool an)∧u.cell? ⟨gr,or_+lk*3+1,none⟩=some (.string ax)∧u.cell? ⟨gr,or_+lk*3+2,none⟩=some (.string ay)∧u.cell? ⟨gx,ox+k*3,none⟩=some (.bool bn)∧u.cell? ⟨gx,ox+k*3+1,none⟩=some (.string bx)∧u.cell? ⟨gx,ox+k*3+2,none⟩=some (.string by_)):=fun u h0=>by
         have hU:=HBV.out.trans (h0.mono HWG.out)
         have h:=HUPW.out u hU
         exact⟨(h.cell (p:=⟨ga,_,none⟩) hga).trans x0,((HUPX.out u hU).cell (p:=⟨gl,_,none⟩) hgl).trans t0,(h.cell (p:=⟨gr,_,none⟩) hgr).trans x1,(h.cell (p:=⟨gr,_,none⟩) hgr).trans x2,(h.cell (p:=⟨gr,_,none⟩) hgr).trans x3,(hU.cell (p:=⟨gx,_,none⟩) hgx).trans y0,(hU.cell (p:=⟨gx,_,none⟩) hgx).trans y1,(hU.cell (p:=⟨gx,_,none⟩) hgx).trans y2⟩
        clear x0 x1 x2 x3 y0 y1 y2 t0
        go_upto_region 35 with fail
        replace HX:=hid HX.out.drew
        replace HB:=hid HB.out.drew
        refine wp_region_held_drew (S:=fun u=>u.cell? ⟨ga,oa+ii,none⟩=some (.slice (some ⟨gr,or_,none⟩) N cr)∧u.cell? ⟨gl,ol+k,none⟩=some (.int .i64 (lk:Nat))∧u.cell? ⟨gr,or_+lk*3,none⟩=some (.bool an)∧u.cell? ⟨gr,or_+lk*3+1,none⟩=some (.string ax)∧u.cell? ⟨gr,or_+lk*3+2,none⟩=some (.string ay)∧u.cell? ⟨gx,ox+k*3,none⟩=some (.bool bn)∧u.cell? ⟨gx,ox+k*3+1,none⟩=some (.string bx)∧u.cell? ⟨gx,ox+k*3+2,none⟩=some (.string by_)) (by kernel_rfl) (HELD.out _ HB.out) (fun hSd=>?_)
        generalize wr.drew=u0 at *
        refine wpAnyH_take (i:=0) (oi:=_) (v:=.slice (some ⟨ga,oa,none⟩) N ca) rfl (by kernel_rfl) (by kernel_rfl) (by kernel_rfl) (fun _ _ _ h=>h) (Or.inl ⟨by rfl,?_⟩) (by assumption) ?_
        ·intro u' hSu
         (try simp only[List.getElem_toArray,List.getElem_cons_zero])
         go_simp
        (try simp only[List.getElem_toArray,List.getElem_cons_zero])
        (try simp only[Act.put,List.setIfInBounds_toArray,List.set_cons_zero,List.set_cons_succ])
        refine wpAnyH_take (i:=1) (oi:=_) (v:=.int .i64 (ii:Nat)) rfl (by kernel_rfl) (by kernel_rfl) (by kernel_rfl) (fun _ _ _ h=>h) (Or.inl ⟨by rfl,?_⟩) (by assumption) ?_
        ·intro u' hSu
         (try simp only[List.getElem_toArray,List.getElem_cons_zero,List.getElem_cons_succ])
         go_simp
        (try simp only[List.getElem_toArray,List.getElem_cons_zero,List.getElem_cons_succ])
        (try simp only[Act.put,List.setIfInBounds_toArray,List.set_cons_zero,List.set_cons_succ])
        refine wpAnyH_take (i:=2) (oi:=_) (v:=.pointer (some ⟨ga,oa+ii,none⟩)) rfl (by kernel_rfl) (by kernel_rfl) (by kernel_rfl) (fun _ _ _ h=>h) (Or.inl ⟨by rfl,?_⟩) (by assumption) ?_
        ·intro u' hSu
         (try simp only[List.getElem_toArray,List.getElem_cons_zero,List.getElem_cons_succ])
         go_simp
        (try simp only[List.getElem_toArray,List.getElem_cons_zero,List.getElem_cons_succ])
        (try simp only[Act.put,List.setIfInBounds_toArray,List.set_cons_zero,List.set_cons_succ])
        refine wpAnyH_take (i:=3) (oi:=_) (v:=.slice (some ⟨gr,or_,none⟩) N cr) rfl (by kernel_rfl) (by kernel_rfl) (by kernel_rfl) (fun _ _ _ h=>h) (Or.inl ⟨by rfl,?_⟩) (by assumption) ?_
        ·intro u' hSu
         (try simp only[List.getElem_toArray,List.getElem_cons_zero,List.getElem_cons_succ])
         obtain⟨s0,s1,s2,s3,s4,s5,s6,s7⟩:=hSu
         go_simp
        (try simp only[List.getElem_toArray,List.getElem_cons_zero,List.getElem_cons_succ])
        (try simp only[Act.put,List.setIfInBounds_toArray,List.set_cons_zero,List.set_cons_succ])
        refine wpAnyH_take (i:=4) (oi:=_) (v:=.slice (some ⟨gl,ol,none⟩) n cl) rfl (by kernel_rfl) (by kernel_rfl) (by kernel_rfl) (fun _ _ _ h=>h) (Or.inl ⟨by rfl,?_⟩) (by assumption) ?_
        ·intro u' hSu
         (try simp only[List.getElem_toArray,List.getElem_cons_zero,List.getElem_cons_succ])
         go_simp
        (try simp only[List.getElem_toArray,List.getElem_cons_zero,List.getElem_cons_succ])
        (try simp only[Act.put,List.setIfInBounds_toArray,List.set_cons_zero,List.set_cons_succ])
        refine wpAnyH_take (i:=5) (oi:=_) (v:=.int .i64 (k:Nat)) rfl (by kernel_rfl) (by kernel_rfl) (by kernel_rfl) (fun _ _ _ h=>h) (Or.inl ⟨by rfl,?_⟩) (by assumption) ?_
        ·intro u' hSu
         (try simp only[List.getElem_toArray,List.getElem_cons_zero,List.getElem_cons_succ])
         go_simp
        (try simp only[List.getElem_toArray,List.getElem_cons_zero,List.getElem_cons_succ])
        (try simp only[Act.put,List.setIfInBounds_toArray,List.set_cons_zero,List.set_cons_succ])
        refine wpAnyH_take (i:=6) (oi:=_) (v:=.pointer (some ⟨gl,ol+k,none⟩)) rfl (by kernel_rfl) (by kernel_rfl) (by kernel_rfl) (fun _ _ _ h=>h) (Or.inl ⟨by rfl,?_⟩) (by assumption) ?_
        ·intro u' hSu
         (try simp only[List.getElem_toArray,List.getElem_cons_zero,List.getElem_cons_succ])
         go_simp
        (try simp only[List.getElem_toArray,List.getElem_cons_zero,List.getElem_cons_succ])
        (try simp only[Act.put,List.setIfInBounds_toArray,List.set_cons_zero,List.set_cons_succ])
        refine wpAnyH_take (i:=7) (oi:=_) (v:=.int .i64 (lk:Nat)) rfl (by kernel_rfl) (by kernel_rfl) (by kernel_rfl) (fun _ _ _ h=>h) (Or.inl ⟨by rfl,?_⟩) (by assumption) ?_
        ·intro u' hSu
         (try simp only[List.getElem_toArray,List.getElem_cons_zero,List.getElem_cons_succ])
         obtain⟨s0,s1,s2,s3,s4,s5,s6,s7⟩:=hSu
         go_simp
        (try simp only[List.getElem_toArray,List.getElem_cons_zero,List.getElem_cons_succ])
        (try simp only[Act.put,List.setIfInBounds_toArray,List.set_cons_zero,List.set_cons_succ])
        refine wpAnyH_take (i:=8) (oi:=_) (v:=.pointer (some ⟨gr,or_+lk*3,none⟩)) rfl (by kernel_rfl) (by kernel_rfl) (by kernel_rfl) (fun _ _ _ h=>h) (Or.inl ⟨by rfl,?_⟩) (by assumption) ?_
        ·intro u' hSu
         (try simp only[List.getElem_toArray,List.getElem_cons_zero,List.getElem_cons_succ])
         go_simp
        (try simp only[List.getElem_toArray,List.getElem_cons_zero,List.getElem_cons_succ])
        (try simp only[Act.put,List.setIfInBounds_toArray,List.set_cons_zero,List.set_cons_succ])
        refine wpAnyH_take (i:=9) (oi:=_) (v:=.agg #[.bool an,.string ax,.string ay]) rfl (by kernel_rfl) (by kernel_rfl) (by kernel_rfl) (fun _ _ _ h=>h) (Or.inl ⟨by rfl,?_⟩) (by assumption) ?_
        ·intro u' hSu
         (try simp only[List.getElem_toArray,List.getElem_cons_zero,List.getElem_cons_succ])
         obtain⟨s0,s1,s2,s3,s4,s5,s6,s7⟩:=hSu
         go_simp
        (try simp only[List.getElem_toArray,List.getElem_cons_zero,List.getElem_cons_succ])
        (try simp only[Act.put,List.setIfInBounds_toArray,List.set_cons_zero,List.set_cons_succ])
        refine wpAnyH_take (i:=10) (oi:=_) (v:=.slice (some ⟨gx,ox,none⟩) n cx) rfl (by kernel_rfl) (by kernel_rfl) (by kernel_rfl) (fun _ _ _ h=>h) (Or.inl ⟨by rfl,?_⟩) (by assumption) ?_
        ·intro u' hSu
         (try simp only[List.getElem_toArray,List.getElem_cons_zero,List.getElem_cons_succ])
         go_simp
        (try simp only[List.getElem_toArray,List.getElem_cons_zero,List.getElem_cons_succ])
        (try simp only[Act.put,List.setIfInBounds_toArray,List.set_cons_zero,List.set_cons_succ])
        refine wpAnyH_take (i:=11) (oi:=_) (v:=.int .i64 (k:Nat)) rfl (by kernel_rfl) (by kernel_rfl) (by kernel_rfl) (fun _ _ _ h=>h) (Or.inl ⟨by rfl,?_⟩) (by assumption) ?_
        ·intro u' hSu
         (try simp only[List.getElem_toArray,List.getElem_cons_zero,List.getElem_cons_succ])
         go_simp
        (try simp only[List.getElem_toArray,List.getElem_cons_zero,List.getElem_cons_succ])
        (try simp only[Act.put,List.setIfInBounds_toArray,List.set_cons_zero,List.set_cons_succ])
        refine wpAnyH_take (i:=12) (oi:=_) (v:=.pointer (some ⟨gx,ox+k*3,none⟩)) rfl (by kernel_rfl) (by kernel_rfl) (by kernel_rfl) (fun _ _ _ h=>h) (Or.inl ⟨by rfl,?_⟩) (by assumption) ?_
        ·intro u' hSu
         (try simp only[List.getElem_toArray,List.getElem_cons_zero,List.getElem_cons_succ])
         go_simp
        (try simp only[List.getElem_toArray,List.getElem_cons_zero,List.getElem_cons_succ])
        (try simp only[Act.put,List.setIfInBounds_toArray,List.set_cons_zero,List.set_cons_succ])
        refine wpAnyH_take (i:=13) (oi:=_) (v:=.agg #[.bool bn,.string bx,.string by_]) rfl (by kernel_rfl) (by kernel_rfl) (by kernel_rfl) (fun _ _ _ h=>h) (Or.inl ⟨by rfl,?_⟩) (by assumption) ?_
        ·intro u' hSu
         (try simp only[List.getElem_toArray,List.getElem_cons_zero,List.getElem_cons_succ])
         obtain⟨s0,s1,s2,s3,s4,s5,s6,s7⟩:=hSu
         go_simp
        (try simp only[List.getElem_toArray,List.getElem_cons_zero,List.getElem_cons_succ])
        (try simp only[Act.put,List.setIfInBounds_toArray,List.set_cons_zero,List.set_cons_succ])
        refine wpAnyH_ready (rs:=[14,15]) (by kernel_rfl) (by simp) (AllReadyH.cons rfl ?_ (AllReadyH.cons rfl ?_ (AllReadyH.nil)))
        ·intro K' hK'
         (try simp only[List.getElem_toArray,List.getElem_cons_zero,List.getElem_cons_succ])
         go_simp
         refine(HMU.out _).mono ?_
         rintro e q1 ⟨rfl,hb⟩
         replace HX:=hid (HX.out.below hb HX.out.lt)
         replace HB:=hid (HB.out.trans (hb.mono (Nat.le_trans HGV.out HB.out.size)))
         refine hK'.out _ _ (HELD.out _ HB.out) (fun hSe=>?_)
         clear hb
         clear hK' K' hSd
         have hSd:=hSe
         clear hSe
         (try simp only[List.getElem_toArray,List.getElem_cons_zero,List.getElem_cons_succ])
         (try simp only[Act.put,List.setIfInBounds_toArray,List.set_cons_zero,List.set_cons_succ])
         refine wpAnyH_ready (rs:=[15]) (by kernel_rfl) (by simp) (AllReadyH.cons rfl ?_ (AllReadyH.nil))
         ·intro K' hK'
          (try simp only[List.getElem_toArray,List.getElem_cons_zero,List.getElem_cons_succ])
          go_simp
          have hbA:=(Below.refl q1.heap.size q1).alloc (Nat.le_refl _) (FC false ⟨#[]⟩ ⟨#[]⟩)
          have HY:=hid (Box.new q1 false ⟨#[]⟩ ⟨#[]⟩)
          have HYHX:Hid (gB<q1.heap.size):=HX.out.lt
          replace HX:=hid (HX.out.below hbA HX.out.lt)
          have HYG:Hid (gB≤q1.heap.size):=Nat.le_trans HGV.out HB.out.size
          replace HB:=hid (HB.out.trans (hbA.mono HYG.out))
          refine hK'.out _ _ (HELD.out _ HB.out) (fun hSe=>?_)
          clear hbA
          clear hK' K' hSd
          have hSd:=hSe
          clear hSe
          obtain⟨gy,hgy⟩:∃x,q1.heap.size=x:=⟨_,rfl⟩
          obtain⟨Vy,hV⟩:∃x,q1.alloc (FC false ⟨#[]⟩ ⟨#[]⟩)=x:=⟨_,rfl⟩
          rw[hgy] at HY HYG HYHX
          rw[hV] at HY HB hSd HX
          simp only[hV]
          simp only[hgy]
          clear hgy hV
          (try simp only[List.getElem_toArray,List.getElem_cons_zero,List.getElem_cons_succ])
          (try simp only[Act.put,List.setIfInBounds_toArray,List.set_cons_zero,List.set_cons_succ])
          obtain⟨k0,k1,k2⟩:=HY.out.trio
          have f0:=HY.out.fz 0
          have f1:=HY.out.fz 1
          have f2:=HY.out.fz 2
          refine wpAnyH_ready (rs:=[16]) (by kernel_rfl) (by simp) (AllReadyH.cons rfl ?_ (AllReadyH.nil))
          ·intro K' hK'
           (try simp only[List.getElem_toArray,List.getElem_cons_zero,List.getElem_cons_succ])
           go_simp
           replace HY:=hid (HY.out.put (qF (tq)).1 (qF (tq)).2.1 (qF (tq)).2.2)
           replace HX:=hid (((HX.out.away gy 0 (.bool (qF (tq)).1) (Nat.ne_of_lt HYHX.out)).away gy 1 (.string (qF (tq)).2.1) (Nat.ne_of_lt HYHX.out)).away gy 2 (.string (qF (tq)).2.2) (Nat.ne_of_lt HYHX.out))
           replace HB:=hid (((HB.out.setCell (p:=⟨gy,0,none⟩) HYG.out (.bool (qF (tq)).1)).setCell (p:=⟨gy,1,none⟩) HYG.out (.string (qF (tq)).2.1)).setCell (p:=⟨gy,2,none⟩) HYG.out (.string (qF (tq)).2.2))
           refine hK'.out _ _ (HELD.out _ HB.out) (fun _=>wpAnyH_done (by kernel_rfl) ?_ _)
           clear hK' K' k0 k1 k2 f0 f1 f2
           clear hSd
           obtain⟨k0,k1,k2⟩:=HX.out.trio
           obtain⟨y0,y1,y2⟩:=HY.out.trio
           go_wp2_with fail
           refine(HAD.out _).mono ?_
           rintro e q2 ⟨rfl,hb⟩
           clear k0 k1 k2 y0 y1 y2 HY
           replace HX:=hid (HX.out.below hb HX.out.lt)
           replace HB:=hid (HB.out.trans (hb.mono (Nat.le_trans HGV.out HB.out.size)))
           obtain⟨k0,k1,k2⟩:=HX.out.trio
           have f0:=HX.out.fz 0
           have f1:=HX.out.fz 1
           have f2:=HX.out.fz 2
           have HXN:=hid (HX.out.put (qF (SQ (k+1))).1 (qF (SQ (k+1))).2.1 (qF (SQ (k+1))).2.2)
           have HBN:=hid (((HB.out.setCell (p:=⟨gB,0,none⟩) (Nat.le_refl _) (.bool (qF (SQ (k+1))).1)).setCell (p:=⟨gB,1,none⟩) (Nat.le_refl _) (.string (qF (SQ (k+1))).2.1)).setCell (p:=⟨gB,2,none⟩) (Nat.le_refl _) (.string (qF (SQ (k+1))).2.2))
           clear hb HX HB HYHX HYG
           go_wp2
           go_roundw
           case rel=>exact⟨k+1,by omega,by go_num,HXN,HBN⟩
           case measure=>simp[intOf];omega
        ·intro K' hK'
         (try simp only[List.getElem_toArray,List.getElem_cons_zero,List.getElem_cons_succ])
         go_simp
         have hbA:=(Below.refl u0.heap.size u0).alloc (Nat.le_refl _) (FC false ⟨#[]⟩ ⟨#[]⟩)
         have HY:=hid (Box.new u0 false ⟨#[]⟩ ⟨#[]⟩)
         have HYHX:Hid (gB<u0.heap.size):=HX.out.lt
         replace HX:=hid (HX.out.below hbA HX.out.lt)
         have HYG:Hid (gB≤u0.heap.size):=Nat.le_trans HGV.out HB.out.size
         replace HB:=hid (HB.out.trans (hbA.mono HYG.out))
         refine hK'.out _ _ (HELD.out _ HB.out) (fun hSe=>?_)
         clear hbA
         clear hK' K' hSd
         have hSd:=hSe
         clear hSe
         obtain⟨gy,hgy⟩:∃x,u0.heap.size=x:=⟨_,rfl⟩
         obtain⟨Vy,hV⟩:∃x,u0.alloc (FC false ⟨#[]⟩ ⟨#[]⟩)=x:=⟨_,rfl⟩
         rw[hgy] at HY HYG HYHX
         rw[hV] at HY HB hSd HX
         simp only[hV]
         simp only[hgy]
         clear hgy hV
         (try simp only[List.getElem_toArray,List.getElem_cons_zero,List.getElem_cons_succ])
         (try simp only[Act.put,List.setIfInBounds_toArray,List.set_cons_zero,List.set_cons_succ])
         refine wpAnyH_ready (rs:=[14]) (by kernel_rfl) (by simp) (AllReadyH.cons rfl ?_ (AllReadyH.nil))
         ·intro K' hK'
          (try simp only[List.getElem_toArray,List.getElem_cons_zero,List.getElem_cons_succ])
          go_simp
          refine(HMU.out _).mono ?_
          rintro e q1 ⟨rfl,hb⟩
          replace HX:=hid (HX.out.below hb HX.out.lt)
          replace HY:=hid (HY.out.below hb HY.out.lt)
          replace HB:=hid (HB.out.trans (hb.mono (Nat.le_trans HGV.out HB.out.size)))
          refine hK'.out _ _ (HELD.out _ HB.out) (fun hSe=>?_)
          clear hb
          clear hK' K' hSd
          have hSd:=hSe
          clear hSe
          (try simp only[List.getElem_toArray,List.getElem_cons_zero,List.getElem_cons_succ])
          (try simp only[Act.put,List.setIfInBounds_toArray,List.set_cons_zero,List.set_cons_succ])
          obtain⟨k0,k1,k2⟩:=HY.out.trio
          have f0:=HY.out.fz 0
          have f1:=HY.out.fz 1
          have f2:=HY.out.fz 2
          refine wpAnyH_ready (rs:=[16]) (by kernel_rfl) (by simp) (AllReadyH.cons rfl ?_ (AllReadyH.nil))
          ·intro K' hK'
           (try simp only[List.getElem_toArray,List.getElem_cons_zero,List.getElem_cons_succ])
           go_simp
           replace HY:=hid (HY.out.put (qF (tq)).1 (qF (tq)).2.1 (qF (tq)).2.2)
           replace HX:=hid (((HX.out.away gy 0 (.bool (qF (tq)).1) (Nat.ne_of_lt HYHX.out)).away gy 1 (.string (qF (tq)).2.1) (Nat.ne_of_lt HYHX.out)).away gy 2 (.string (qF (tq)).2.2) (Nat.ne_of_lt HYHX.out))
           replace HB:=hid (((HB.out.setCell (p:=⟨gy,0,none⟩) HYG.out (.bool (qF (tq)).1)).setCell (p:=⟨gy,1,none⟩) HYG.out (.string (qF (tq)).2.1)).setCell (p:=⟨gy,2,none⟩) HYG.out (.string (qF (tq)).2.2))
           refine hK'.out _ _ (HELD.out _ HB.out) (fun _=>wpAnyH_done (by kernel_rfl) ?_ _)
           clear hK' K' k0 k1 k2 f0 f1 f2
           clear hSd
           obtain⟨k0,k1,k2⟩:=HX.out.trio
           obtain⟨y0,y1,y2⟩:=HY.out.trio
           go_wp2_with fail
           refine(HAD.out _).mono ?_
           rintro e q2 ⟨rfl,hb⟩
           clear k0 k1 k2 y0 y1 y2 HY
           replace HX:=hid (HX.out.below hb HX.out.lt)
           replace HB:=hid (HB.out.trans (hb.mono (Nat.le_trans HGV.out HB.out.size)))
           obtain⟨k0,k1,k2⟩:=HX.out.trio
           have f0:=HX.out.fz 0
           have f1:=HX.out.fz 1
           have f2:=HX.out.fz 2
           have HXN:=hid (HX.out.put (qF (SQ (k+1))).1 (qF (SQ (k+1))).2.1 (qF (SQ (k+1))).2.2)
           have HBN:=hid (((HB.out.setCell (p:=⟨gB,0,none⟩) (Nat.le_refl _) (.bool (qF (SQ (k+1))).1)).setCell (p:=⟨gB,1,none⟩) (Nat.le_refl _) (.string (qF (SQ (k+1))).2.1)).setCell (p:=⟨gB,2,none⟩) (Nat.le_refl _) (.string (qF (SQ (k+1))).2.2))
           clear hb HX HB HYHX HYG
           go_wp2
           go_roundw
           case rel=>exact⟨k+1,by omega,by go_num,HXN,HBN⟩
           case measure=>simp[intOf];omega
       ·have HSE:Hid (SQ k=qr):=by
         show _=_
         rw[show k=n by omega]
         exact HSQN.out
        have HX2:Hid (Box wr gB (qF (qr)).1 (qF (qr)).2.1 (qF (qr)).2.2):=by show Box _ _ _ _ _;rw[←HSE.out];exact HX.out
        have HBF:=hid (HUPW.out _ (HBV.out.trans (HB.out.mono HWG.out)))
        clear HX HB HSE
        have HX4:=hid (HXZ.out.below HBF.out HXZ.out.lt)
        have HB4:=hid (HAZ.out.trans (HBF.out.mono (by have:=HXZ.out.lt;have h2:=HGR.out;show _≤_;omega)))
        obtain⟨j0,j1,j2⟩:=HX2.out.trio
        clear HBF HX2
        obtain⟨z,hz⟩:∃z,qF qr=z:=⟨_,rfl⟩
        rw[hz] at j0 j1 j2
        obtain⟨qn,qx,qy⟩:=z
        have HZ:=hid hz
        clear hz
        simp only at j0 j1 j2
        obtain⟨k0,k1,k2⟩:=HX4.out.trio
        have f0:=HX4.out.fz 0
        have f1:=HX4.out.fz 1
        have f2:=HX4.out.fz 2
        have HX9:=hid (HX4.out.put qn qx qy)
        have HB9:=hid (((HB4.out.setCell (p:=⟨gR,0,none⟩) (Nat.le_refl _) (.bool qn)).setCell (p:=⟨gR,1,none⟩) (Nat.le_refl _) (.string qx)).setCell (p:=⟨gR,2,none⟩) (Nat.le_refl _) (.string qy))
        clear HX4 HB4
        go_wp2
        refine bodyPost_ret (HX9.out.result2 rfl _ rfl) rfl ?_
        rw[HGR.out]
        first |exact⟨HB9.out,.inl ⟨rfl,by rw[HZ.out];rfl⟩⟩ |exact⟨HB9.out,by rw[HZ.out];rfl⟩
end Go.Proofs.YtmbjmiioggfneaaGreatDoor
