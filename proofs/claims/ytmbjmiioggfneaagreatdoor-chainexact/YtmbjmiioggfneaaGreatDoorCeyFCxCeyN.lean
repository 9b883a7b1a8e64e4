/- The answer's det: a determinant by its first row. -/
import Derived.Test.YtmbjmiioggfneaaGreatDoorCeyECx
import Derived.Test.YtmbjmiioggfneaaGreatDoorCeyCCx
import Derived.Test.YtmbjmiioggfneaaGreatDoorChnPCxNetD
set_option linter.unusedVariables false
set_option linter.unusedSimpArgs false
namespace Go.Proofs.YtmbjmiioggfneaaGreatDoor
open Go.RowKit Go.Shelf
theorem rSubQ (p q:Rat) (U:World) (hp:qw p≤50000) (hq:qw q≤50000):Calls Tryz.prog 54 #[.agg #[.bool (qF (p)).1,.string (qF (p)).2.1,.string (qF (p)).2.2],.agg #[.bool (qF (q)).1,.string (qF (q)).2.1,.string (qF (q)).2.2]] U fun e w'=>e=.returned (.agg #[.bool (qF (p - q)).1,.string (qF (p - q)).2.1,.string (qF (p - q)).2.2])∧Below U.heap.size U w':=by
 have h:=rSubF_any (sgn p) (sgn q) (nu p) (de p) (nu q) (de q) U (by rw[own_size];exact hp) (by rw[own_size];exact hq)
 rw[val_own,val_own] at h
 exact h
theorem frS_take {w:World} {a:Option Addr} {l:List Fr} (h:FrS w a l) (m:Nat):FrS w a (l.take m):=fun k hk=>by
 have hk':k<l.length:=by rw[List.length_take] at hk;omega
 obtain⟨g,o,e,hg,h0,h1,h2⟩:=h k hk'
 rw[List.getElem_take]
 exact⟨g,o,e,hg,h0,h1,h2⟩
theorem frS_drop {w:World} {g o:Nat} {l:List Fr} (h:FrS w (some ⟨g,o,none⟩) l) (m:Nat):FrS w (some ⟨g,o+m*3,none⟩) (l.drop m):=fun k hk=>by
 have hk':m+k<l.length:=by rw[List.length_drop] at hk;omega
 obtain⟨g',o',e,hg,h0,h1,h2⟩:=h (m+k) hk'
 cases e
 rw[List.getElem_drop]
 have e9:o+m*3+k*3=o+(m+k)*3:=by rw[Nat.add_mul];omega
 rw[←e9] at h0 h1 h2
 exact⟨g,_,rfl,hg,h0,h1,h2⟩
theorem rwF_len {w:World} {B n:Nat} {d:Option Addr} {n8 c:Nat} {l:List Fr} (h:RwF w B (.slice d n8 c) l) (hl:l.length=n):n=n8:=by
 rcases h.2 with ⟨e,e2⟩ |⟨g,cap,cur,e,_⟩
 ·injection e with _ e1;omega
 ·injection e with _ e1;omega
theorem row_less {n k:Nat} (f:Nat→Rat) (hk:k<n+1):(lF (n+1) f).take k++(lF (n+1) f).drop (k+1)=lF n fun j=>f (if j<k then j else j+1):=by
 refine List.ext_getElem (by rw[List.length_append,List.length_take,List.length_drop,lF_length,lF_length];omega) fun j h1 h2=>?_
 rw[lF_length] at h2
 rw[lF_get]
 by_cases h:j<k
 ·rw[List.getElem_append_left (by rw[List.length_take,lF_length];omega),List.getElem_take,lF_get,if_pos h]
 ·rw[List.getElem_append_right (by rw[List.length_take,lF_length];omega),List.getElem_drop,lF_get,if_neg h,List.length_take,lF_length]
  congr 2
  omega
theorem det_fits {T n:Nat} {M:Nat→Nat→Rat} (hT0:0<T) (hT:Sh 700 T) (hn:n≤5) (hw:∀i j,i<n→j<n→Whl T (M i j)) (ha:∀i j,i<n→j<n→Abs 6 (M i j)):Fits 3505 (detQ n M):=by
 have q1:=det_whl (n:=n) (a:=M) (D:=fun _=>T) fun i hi j hj=>hw i j hi hj
 have q2:=det_abs (n:=n) (a:=M) (C:=6) fun i hi j hj=>ha i j hi hj
 rw[prodN_const] at q1
 exact fits_many hT0 hT hn (by have:=facB_mono (C:=6) (by decide) (Nat.zero_le n);rw[facB] at this;exact this) (Nat.le_trans (facB_mono (by decide) hn) (Nat.le_trans facB_six (by decide))) q1 q2
theorem det_terms {T n:Nat} {M:Nat→Nat→Rat} (hT0:0<T) (hT:Sh 700 T) (hn:n+1≤5) (hw:∀i j,i<n+1→j<n+1→Whl T (M i j)) (ha:∀i j,i<n+1→j<n+1→Abs 6 (M i j)) {k:Nat} (hk:k<n+1):Whl (T^(n+1)) (detQ n (mnr M k)*M 0 k)∧Abs (facB 6 n*6) (detQ n (mnr M k)*M 0 k):=by
 have q1:=det_whl (n:=n) (a:=mnr M k) (D:=fun _=>T) fun i hi j hj=>hw (i+1) _ (by omega) (by split<;>omega)
 have q2:=det_abs (n:=n) (a:=mnr M k) (C:=6) fun i hi j hj=>ha (i+1) _ (by omega) (by split<;>omega)
 rw[prodN_const] at q1
 refine⟨?_,q2.mul (ha 0 k (by omega) hk)⟩
 rw[Nat.pow_succ]
 exact q1.mul (hw 0 k (by omega) hk)
theorem det_sums {T n:Nat} {M:Nat→Nat→Rat} (hT0:0<T) (hT:Sh 700 T) (hn:n+1≤5) (hw:∀i j,i<n+1→j<n+1→Whl T (M i j)) (ha:∀i j,i<n+1→j<n+1→Abs 6 (M i j)) {k:Nat} (hk:k≤n+1):Fits 3505 (sumR (fun k=>(if k % 2=1 then -1 else 1)*(detQ n (mnr M k)*M 0 k)) k):=by
 have key:∀i,i<k→Whl (T^(n+1)) ((if i % 2=1 then -1 else 1)*(detQ n (mnr M i)*M 0 i))∧Abs (facB 6 n*6) ((if i % 2=1 then -1 else 1)*(detQ n (mnr M i)*M 0 i)):=fun i hi=>by
  obtain⟨q1,q2⟩:=det_terms hT0 hT hn hw ha (show i<n+1 by omega)
  split
  ·rw[Rat.neg_mul,Rat.one_mul];exact⟨q1.neg,q2.neg⟩
  ·rw[Rat.one_mul];exact⟨q1,q2⟩
 refine fits_many (B:=k*(facB 6 n*6)+1) hT0 hT hn (by omega) ?_ (Whl.sum fun i hi=>(key i hi).1) ((Abs.sum fun i hi=>(key i hi).2).up (by omega))
 have h1:facB 6 n≤31104:=Nat.le_trans (facB_mono (by decide) (show n≤4 by omega)) (by decide)
 have h2:k*(facB 6 n*6)≤5*(31104*6):=Nat.mul_le_mul (show k≤5 by omega) (Nat.mul_le_mul_right 6 h1)
 omega
set_option maxRecDepth 100000 in
set_option maxHeartbeats 4000000 in
theorem rDet_any (T:Nat) (hT0:0<T) (hT:Sh 700 T):∀(n:Nat) (M:Nat→Nat→Rat) (a:Option Addr) (ca:Nat) (w:World),n≤5→(∀i j,i<n→j<n→Whl T (M i j))→(∀i j,i<n→j<n→Abs 6 (M i j))→FsS w a (mR n M)→
  Calls Tryz.prog 89 #[.slice a n ca] w fun e w'=>e=.returned (.agg #[.bool (qF (detQ n M)).1,.string (qF (detQ n M)).2.1,.string (qF (detQ n M)).2.2])∧Below w.heap.size w w':=by
 intro n
 induction n with
 |zero=>
  intro M a ca w _ _ _ _
  have HO1:=hid (fun V:World=>rOf_one V)
  have hA:=(Below.refl w.heap.size w).alloc (Nat.le_refl _) (FC false ⟨#[]⟩ ⟨#[]⟩)
  have hX:=Box.new w false ⟨#[]⟩ ⟨#[]⟩
  have HD:Hid (detQ 0 M=1):=rfl
  generalize detQ 0 M=dq at *
  go_enter Tryz.func89,Tryz.ntmps89
  go_wp2_with fail
  generalize (w.alloc (FC false ⟨#[]⟩ ⟨#[]⟩))=W1 at *
  refine(HO1.out _).mono ?_
  rintro e V ⟨rfl,hb⟩
  have HX1:=hid (hX.below hb hX.lt)
  have HA1:=hid (hA.trans (hb.mono hA.size))
  clear hA hX hb
  obtain⟨k0,k1,k2⟩:=HX1.out.trio
  have f0:=HX1.out.fz 0
  have f1:=HX1.out.fz 1
  have f2:=HX1.out.fz 2
  have HX9:=hid (HX1.out.put (sgn 1) (nu 1) (de 1))
  have HW9:=hid (((HA1.out.setCell (p:=⟨w.heap.size,0,none⟩) (Nat.le_refl _) (.bool (sgn 1))).setCell (p:=⟨w.heap.size,1,none⟩) (Nat.le_refl _) (.string (nu 1))).setCell (p:=⟨w.heap.size,2,none⟩) (Nat.le_refl _) (.string (de 1)))
  clear HX1 HA1
  go_wp2
  refine bodyPost_ret (HX9.out.result rfl _ rfl) rfl ?_
  exact⟨by rw[HD.out];rfl,HW9.out⟩
 |succ n ih=>
  intro M a ca w hn hw ha hR
  have HIH:Hid (∀k,k<n+1→∀(d:Option Addr) (c:Nat) (U:World),FsS U d (mR n (mnr M k))→Calls Tryz.prog 89 #[.slice d n c] U fun e w'=>e=.returned (.agg #[.bool (qF (detQ n (mnr M k))).1,.string (qF (detQ n (mnr M k))).2.1,.string (qF (detQ n (mnr M k))).2.2])∧Below U.heap.size U w'):=fun k hk d c U hU=>ih (mnr M k) d c U (by omega) (fun i j hi hj=>hw (i+1) _ (by omega) (by split<;>omega)) (fun i j hi hj=>ha (i+1) _ (by omega) (by split<;>omega)) hU
  have HDF:Hid (∀k,k<n+1→Fits 3505 (detQ n (mnr M k))):=fun k hk=>det_fits hT0 hT (by omega) (fun i j hi hj=>hw (i+1) _ (by omega) (by split<;>omega)) (fun i j hi hj=>ha (i+1) _ (by omega) (by split<;>omega))
  have HPF:Hid (∀k,k<n+1→Fits 3505 (detQ n (mnr M k)*M 0 k)):=fun k hk=>by
   obtain⟨q1,q2⟩:=det_terms hT0 hT hn hw ha hk
   refine fits_many hT0 hT hn (Nat.mul_pos (by have:=facB_mono (C:=6) (by decide) (Nat.zero_le n);rw[facB] at this;exact this) (by decide)) ?_ q1 q2
   have h1:facB 6 n≤1000000:=Nat.le_trans (facB_mono (by decide) (show n≤5 by omega)) facB_six
   omega
  have HGS:Hid (∀k,k≤n+1→Fits 3505 (sumR (fun k=>(if k % 2=1 then -1 else 1)*(detQ n (mnr M k)*M 0 k)) k)):=fun k hk=>det_sums hT0 hT hn hw ha hk
  have HMF:Hid (∀k,k<n+1→Fits 701 (M 0 k)∨Fits 3505 (M 0 k)):=fun k hk=>.inr (by
   have h9:=hw 0 k (by omega) hk
   rw[←Nat.pow_one T] at h9
   exact fits_many (n:=1) hT0 hT (by decide) (by decide) (by decide) h9 (ha 0 k (by omega) hk))
  have HRR:=hid (fun (U:World) (hU:Below w.heap.size w U)=>hR.below hU)
  have HO0:=hid (fun V:World=>rOf_zero V)
  have HDE:Hid (detQ (n+1) M=sumR (fun k=>(if k % 2=1 then -1 else 1)*(detQ n (mnr M k)*M 0 k)) (n+1)):=rfl
  have hA:=(Below.refl w.heap.size w).alloc (Nat.le_refl _) (FC false ⟨#[]⟩ ⟨#[]⟩)
  have hX:=Box.new w false ⟨#[]⟩ ⟨#[]⟩
  have hR0:FsS w a (mF (n+1) fun i j=>qF (M i j)):=hR
  obtain⟨ga,oa,g1,o1,c1,hae,hga,hg1,x0, -, -, -⟩:=hR0.at (show 0<n+1 by omega) (show 0<n+1 by omega)
  subst hae
  rw[Nat.add_zero] at x0
  have HFR:Hid (∀i,i<n+1→∀U:World,Below w.heap.size w U→∃gr or_ cr,U.cell? ⟨ga,oa+i,none⟩=some (.slice (some ⟨gr,or_,none⟩) (n+1) cr)∧FrS U (some ⟨gr,or_,none⟩) (lF (n+1) (M i))∧n+1≤cr∧FrS w (some ⟨gr,or_,none⟩) (lF (n+1) (M i))):=fun i hi U hU=>by
   have hil:i<(mR (n+1) M).length:=by rw[mR_length];exact hi
   obtain⟨g,o,b,c,e1,e2,e3,e4,e5⟩:=hR i hil
   cases e1
   have e6:(mR (n+1) M)[i]=lF (n+1) (M i):=mR_get hil
   rw[e6] at e3 e4 e5
   rw[lF_length] at e3 e5
   obtain⟨gr,or_,eb,_⟩:=e4 0 (by rw[lF_length];omega)
   subst eb
   exact⟨gr,or_,c,(hU.cell (p:=⟨ga,_,none⟩) e2).trans e3,e4.below hU,e5,e4⟩
  clear ih hw ha hR hR0 hT hT0
  rw[HDE.out]
  obtain⟨DQ,hDQ⟩:∃DQ:Nat→Rat,DQ=fun k=>detQ n (mnr M k):=⟨_,rfl⟩
  have hDe:∀k,detQ n (mnr M k)=DQ k:=fun k=>by rw[hDQ]
  simp only[hDe] at HIH HDF HPF HGS⊢
  obtain⟨G,hG⟩:∃G:Nat→Rat,G=fun k=>(if k % 2=1 then -1 else 1)*(DQ k*M 0 k):=⟨_,rfl⟩
  have HGE:Hid (∀k,G k=(if k % 2=1 then -1 else 1)*(DQ k*M 0 k)):=fun k=>by rw[hG]
  rw[←hG] at HGS⊢
  clear hG hDQ hDe HDE
  go_enter Tryz.func89,Tryz.ntmps89
  go_wp2_with fail
  generalize (w.alloc (FC false ⟨#[]⟩ ⟨#[]⟩))=W1 at *
  refine(HO0.out _).mono ?_
  rintro e V0 ⟨rfl,hbv⟩
  have HBW:=hid hA
  have HX0:Hid (Box (V0.alloc (FC (sgn 0) (nu 0) (de 0))) V0.heap.size (qF (sumR G 0)).1 (qF (sumR G 0)).2.1 (qF (sumR G 0)).2.2):=Box.new V0 (sgn 0) (nu 0) (de 0)
  have HBZ:Hid (Below V0.heap.size V0 (V0.alloc (FC (sgn 0) (nu 0) (de 0)))):=(Below.refl _ _).alloc (Nat.le_refl _) _
  have HBV:Hid (Below w.heap.size w V0):=HBW.out.trans (hbv.mono HBW.out.size)
  have HXV:=hid (hX.below hbv hX.lt)
  clear hbv HBW hX hA
  go_wp2_with fail
  generalize (V0.alloc (FC (sgn 0) (nu 0) (de 0)))=V1 at *
  obtain⟨gB,hgB⟩:∃x,V0.heap.size=x:=⟨_,rfl⟩
  have hltB:=HXV.out.lt
  rw[hgB] at HX0 HBZ hltB
  have HGE2:=hid hgB
  have HGV:Hid (gB≤V0.heap.size):=Nat.le_of_eq hgB.symm
  have HWG:Hid (w.heap.size≤gB):=Nat.le_of_lt hltB
  have HLB:=hid hltB
  simp only[hgB]
  clear hgB hltB
  go_loopw [4] (fun kv wr=>∃k:Nat,k≤n+1∧kv=.int .i64 k∧Hid (Box wr gB (qF (sumR G k)).1 (qF (sumR G k)).2.1 (qF (sumR G k)).2.2)∧Hid (Below gB V0 wr)) (fun kv _=>n+1 - (intOf kv).toNat)
  case atStart=>exact⟨0,Nat.zero_le _,rfl,HX0,HBZ⟩
  case round=>
   clear HX0 HBZ
   obtain⟨k,hk,rfl,HS,HB⟩:=hrel
   by_cases hlk:k<n+1
   ·have HWr:Hid (Below w.heap.size w wr):=HBV.out.trans (HB.out.mono HWG.out)
    have hgk:=HGE.out k
    have hR9:FsS w (some ⟨ga,oa,none⟩) (mF (n+1) fun i j=>qF (M i j)):=HRR.out w (Below.refl _ _)
    obtain⟨ga',oa',g1',o1',c1',hae,hga',hg1',z0,x1,x2,x3⟩:=hR9.at (show 0<n+1 by omega) hlk
    cases hae
    rw[Nat.add_zero,x0] at z0
    cases z0
    have hqm:qw (M 0 k)≤7010:=by rcases HMF.out k hlk with h |h<;>(have:=fits_qw h;omega)
    have HZE:=hid (fun U:World=>rZeroR (qF (M 0 k)) U (by rw[fz_q];omega))
    simp only[frQ_qF] at HZE
    have HMU:Hid (∀U:World,Calls Tryz.prog 59 #[.agg #[.bool (qF (DQ k)).1,.string (qF (DQ k)).2.1,.string (qF (DQ k)).2.2],.agg #[.bool (qF (M 0 k)).1,.string (qF (M 0 k)).2.1,.string (qF (M 0 k)).2.2]] U fun e w'=>e=.returned (.agg #[.bool (qF (DQ k*M 0 k)).1,.string (qF (DQ k*M 0 k)).2.1,.string (qF (DQ k*M 0 k)).2.2])∧Below U.heap.size U w'):=fun U=>rMulQ (DQ k) (M 0 k) U (by have:=fits_qw (HDF.out k hlk);omega) (by omega)
    have HSUB:Hid (k % 2=1→∀U:World,Calls Tryz.prog 54 #[.agg #[.bool (qF (sumR G k)).1,.string (qF (sumR G k)).2.1,.string (qF (sumR G k)).2.2],.agg #[.bool (qF (DQ k*M 0 k)).1,.string (qF (DQ k*M 0 k)).2.1,.string (qF (DQ k*M 0 k)).2.2]] U fun e w'=>e=.returned (.agg #[.bool (qF (sumR G (k+1))).1,.string (qF (sumR G (k+1))).2.1,.string (qF (sumR G (k+1))).2.2])∧Below U.heap.size U w'):=fun h U=>by
     have h9:=rSubQ (sumR G k) (DQ k*M 0 k) U (by have:=fits_qw (HGS.out k hk);omega) (by have:=fits_qw (HPF.out k hlk);omega)
     have e9:sumR G k - DQ k*M 0 k=sumR G (k+1):=by rw[sumR,hgk,if_pos h];grind
     rw[e9] at h9
     exact h9
    have HADD:Hid (¬k % 2=1→∀U:World,Calls Tryz.prog 55 #[.agg #[.bool (qF (sumR G k)).1,.string (qF (sumR G k)).2.1,.string (qF (sumR G k)).2.2],.agg #[.bool (qF (DQ k*M 0 k)).1,.string (qF (DQ k*M 0 k)).2.1,.string (qF (DQ k*M 0 k)).2.2]] U fun e w'=>e=.returned (.agg #[.bool (qF (sumR G (k+1))).1,.string (qF (sumR G (k+1))).2.1,.string (qF (sumR G (k+1))).2.2])∧Below U.heap.size U w'):=fun h U=>by
     have h9:=rAddQ (sumR G k) (DQ k*M 0 k) U (by have:=fits_qw (HGS.out k hk);omega) (by have:=fits_qw (HPF.out k hlk);omega)
     have e9:sumR G k+DQ k*M 0 k=sumR G (k+1):=by rw[sumR,hgk,if_neg h,Rat.one_mul]
     rw[e9] at h9
     exact h9
    obtain⟨zb,hzb⟩:∃z,decide (M 0 k=0)=z:=⟨_,rfl⟩
    rw[hzb] at HZE
    have HGZ:Hid (zb=true→sumR G (k+1)=sumR G k):=fun h=>by
     rw[sumR,hgk,of_decide_eq_true (hzb.trans h),Rat.mul_zero,Rat.mul_zero,Rat.add_zero]
    clear hzb hgk hqm hR9
    obtain⟨PQk,hPQ⟩:∃x,DQ k*M 0 k=x:=⟨_,rfl⟩
    rw[hPQ] at HMU HSUB HADD
    clear hPQ
    generalize hmz:qF (M 0 k)=zz at *
    clear hmz
    obtain⟨an,ax,ay⟩:=zz
    simp only at x1 x2 x3 HZE HMU
    have HELD:Hid (∀u,Below gB V0 u→u.cell? ⟨ga,oa,none⟩=some (.slice (some ⟨g1,o1,none⟩) (n+1) c1)∧u.cell? ⟨g1,o1+k*3,none⟩=some (.bool an)∧u.cell? ⟨g1,o1+k*3+1,none⟩=some (.string ax)∧u.cell? ⟨g1,o1+k*3+2,none⟩=some (.string ay)):=fun u h0=>by
     have h:=HBV.out.trans (h0.mono HWG.out)
     exact⟨(h.cell (p:=⟨ga,_,none⟩) hga).trans x0,(h.cell (p:=⟨g1,_,none⟩) hg1).trans x1,(h.cell (p:=⟨g1,_,none⟩) hg1).trans x2,(h.cell (p:=⟨g1,_,none⟩) hg1).trans x3⟩
    obtain⟨s0,s1,s2,s3⟩:=HELD.out _ HB.out
    clear x1 x2 x3
    go_wp2_with fail
    refine(HZE.out _).mono ?_
    rintro e u9 ⟨rfl,hb⟩
    replace HS:=hid (HS.out.below hb HS.out.lt)
    replace HB:=hid (HB.out.trans (hb.mono (Nat.le_trans HGV.out HB.out.size)))
    clear hb s0 s1 s2 s3 HZE HWr
    cases zb with
    |true=>
     have HGX:=HGZ.out rfl
     clear HGZ HSUB HADD HMU
     have HXK:Hid (Box u9 gB (qF (sumR G (k+1))).1 (qF (sumR G (k+1))).2.1 (qF (sumR G (k+1))).2.2):=by show Box _ _ _ _ _;rw[HGX];exact HS.out
     have HBK:=HB
     clear HS HB HELD HGX
     go_wp2
     go_roundw
     case rel=>exact⟨k+1,by omega,by go_num,HXK,HBK⟩
     case measure=>simp[intOf];omega
    |false=>
     clear HGZ
     have HO0':Hid (OwR u9 u9.heap.size (.slice none 0 0) []):=OwR.nil _ _
     have HBZ9:Hid (Below u9.heap.size u9 u9):=Below.refl _ _
     have HBX9:=hid (HBV.out.trans (HB.out.mono HWG.out))
     obtain⟨V9,hV9⟩:∃x,x=u9:=⟨_,rfl⟩
     rw[←hV9] at HO0' HBZ9 HBX9 HS HB⊢
     clear hV9
     go_wp2_with fail
     go_loopw [6,7] (fun bv iv wr=>∃(i:Nat) (Ps:List PR),1≤i∧i≤n+1∧iv=.int .i64 i∧Hid (OwR wr V9.heap.size bv Ps)∧Hid (Ps.map (·.2)=(List.range (i - 1)).map fun t=>lF n (mnr M k t))∧Hid (Below V9.heap.size V9 wr)) (fun _ iv _=>n+1 - (intOf iv).toNat)
     case atStart=>exact⟨1,[],Nat.le_refl _,by omega,rfl,HO0',rfl,HBZ9⟩
     case round=>
      clear HO0' HBZ9
      obtain⟨i,Ps,hi1,hi,rfl,HO,HP,HB1⟩:=hrel
      by_cases hli:i<n+1
      ·obtain⟨gr,or_,cr,c0,hfr,hcr,hfw⟩:=HFR.out i hli wr (HBX9.out.trans (HB1.out.mono HBX9.out.size))
       have HPL:Hid (Ps.length+1≤100000):=by
        have h9:=congrArg List.length HP.out
        rw[List.length_map,List.length_map,List.length_range] at h9
        show _≤_
        omega
       have HLL:Hid ((lF (n+1) (M i)).take k++(lF (n+1) (M i)).drop (k+1)=lF n (mnr M k (i - 1))):=by
        show _=_
        rw[row_less (M i) hlk]
        congr 1
        funext j
        show _=M (i - 1+1) _
        rw[show i - 1+1=i by omega]
       have HL1:Hid (((lF (n+1) (M i)).take k).length=k):=by show _=_;rw[List.length_take,lF_length];omega
       have HL2:Hid (((lF (n+1) (M i)).drop (k+1)).length=n - k):=by show _=_;rw[List.length_drop,lF_length];omega
       have HLN:Hid ((lF n (mnr M k (i - 1))).length=n):=lF_length _ _
       obtain⟨ox,hif⟩:∃ox,(if cr=k+1 then(some ⟨gr,or_,none⟩:Option Addr) else some ⟨gr,or_+(k+1)*3,none⟩)=some ⟨gr,ox,none⟩:=by
        by_cases h:cr=k+1
        ·exact⟨or_,by rw[if_pos h]⟩
        ·exact⟨_,by rw[if_neg h]⟩
       have HF1:Hid (∀U:World,Below wr.heap.size wr U→FrS U (some ⟨gr,or_,none⟩) ((lF (n+1) (M i)).take k)):=fun U hU=>frS_take (hfr.below hU) k
       have HF2:Hid (∀U:World,Below wr.heap.size wr U→FrS U (some ⟨gr,ox,none⟩) ((lF (n+1) (M i)).drop (k+1))):=fun U hU=>by
        by_cases h:cr=k+1
        ·have h0:(lF (n+1) (M i)).drop (k+1)=[]:=List.drop_eq_nil_of_le (by rw[lF_length];omega)
         rw[h0]
         exact fun j hj=>absurd hj (Nat.not_lt_zero _)
        ·rw[if_neg h] at hif
         rw[←hif]
         exact frS_drop (hfr.below hU) (k+1)
       obtain⟨bd,nb,cb,hbv⟩:∃d n c,u6=.slice d n c:=by
        obtain⟨d,c,e,_⟩:=owns_slice HO.out.1
        exact⟨d,_,c,e⟩
       subst hbv
       generalize (lF (n+1) (M i)).take k=L1 at *
       generalize (lF (n+1) (M i)).drop (k+1)=L2 at *
       obtain⟨LR,hLR⟩:∃x,lF n (mnr M k (i - 1))=x:=⟨_,rfl⟩
       have HLR:=hid hLR
       rw[hLR] at HLL HLN
       clear hLR hfr hfw
       have hkc:k≤cr:=by omega
       have hkc2:k+1≤cr:=by omega
       have hkn:k+1≤n+1:=by omega
       have hkn2:k≤n+1:=by omega
       have hbe:Below wr.heap.size wr (wr.alloc (.cells #[] 44)):=(Below.refl _ wr).alloc (Nat.le_refl _) _
       have hRe:RwF (wr.alloc (.cells #[] 44)) wr.heap.size (.slice (some ⟨wr.heap.size,0,none⟩) 0 0) []:=⟨rfl,.inr ⟨wr.heap.size,0, #[],rfl,Nat.le_refl _,heap_alloc_new _ _,Nat.le_refl _,Nat.zero_le _,rfl,rfl⟩⟩
       have HRe:=hid hRe
       have HBE:=hid hbe
       have hse:=hbe.size
       have HC0:Hid (∀U:World,Below wr.heap.size wr U→U.cell? ⟨ga,oa+i,none⟩=some (.slice (some ⟨gr,or_,none⟩) (n+1) cr)):=fun U hU=>(hU.cell (p:=⟨ga,_,none⟩) (Nat.lt_of_lt_of_le hga (Nat.le_trans HBX9.out.size HB1.out.size))).trans c0
       have c0a:=HC0.out _ hbe
       clear hbe hRe c0
       go_wp2_with (first
        |(at_builtin;refine wpList_append_rs rfl _ _ rfl V9.heap.size _ Ps (.slice d8 n c8) ⟨_,_,_,rfl⟩ rfl HO9.out.1 w8.heap.size rfl HC9.out HPL.out HB9.out.size ?_;intro v10 w10 hr10 hg10;have HO10:=hid (HO9.out.push hr10 hg10 HR9.out);have HB10:=hid (HB9.out.grown hg10 HB9.out.size (fun k e=>owns_from HO9.out.1 k e));clear hr10 hg10)
        |(at_builtin;refine wpList_append_frs rfl _ _ rfl wr.heap.size _ L1 L2 rfl HR6.out gr ox (cr - (k+1)) (by rw[HL2.out];rfl) (HF2.out _ HB6.out) (by rw[HL1.out,HL2.out];omega) HB6.out.size ?_;intro v8 w8 hr8 hg8;rw[HLL.out] at hr8;obtain⟨d8,n8,c8,rfl⟩:=hr8.slv;obtain rfl:=rwF_len hr8 HLN.out;have hb8:=HB6.out.grown hg8 HB6.out.size (fun k e=>HR6.out.own k e);have hbA9:=(Below.refl w8.heap.size w8).alloc (Nat.le_refl _) (.cells #[.slice d8 n c8] 23);have HC9:Hid ((w8.alloc (.cells #[.slice d8 n c8] 23)).cell? ⟨w8.heap.size,0,none⟩=some (.slice d8 n c8)):=(by show _=_;rw[cell_of_row _ _ _ _ _ (0,0) (heap_alloc_new w8 _)];rfl);have hb9:=hb8.trans (hbA9.mono hb8.size);have HO9:=hid (HO.out.below hb9);have HB9:=hid (HB1.out.trans (hb9.mono HB1.out.size));have HR9:Hid (RwF (w8.alloc (.cells #[.slice d8 n c8] 23)) V9.heap.size (.slice d8 n c8) LR):=(hr8.below hbA9).lower HB1.out.size;clear hr8 hg8 hb8 hbA9 hb9)
        |(at_builtin;refine wpList_append_frs rfl _ _ rfl wr.heap.size _ [] L1 rfl HRe.out gr or_ cr (by rw[HL1.out];rfl) (HF1.out _ HBE.out) (by rw[HL1.out];simp;omega) hse ?_;intro v6 w6 hr6 hg6;rw[List.nil_append] at hr6;obtain⟨d6,n6,c6,rfl⟩:=hr6.slv;have HB6:=hid (HBE.out.trans ((Below.refl _ _).grown hg6 hse (fun k e=>by cases e;exact Nat.le_refl _)));have HR6:=hid hr6;have c06:=HC0.out _ HB6.out;clear hr6 hg6))
       go_roundw
       case rel=>exact⟨i+1,_,by omega,by omega,by go_num,HO10,(by show _=_;rw[List.map_append,HP.out,show i+1 - 1=i - 1+1 by omega,List.range_succ,List.map_append,←HLR.out];rfl),HB10⟩
       case measure=>simp[intOf];omega
      ·obtain rfl:i=n+1:=by omega
       obtain⟨dy,cy,hbv,hfs⟩:=OwR.rows HO.out
       subst hbv
       have hro:rOf Ps=mR n (mnr M k):=HP.out
       rw[hro] at hfs
       rw[hro,mR_length]
       have HIN:=hid (HIH.out k hlk dy cy _ hfs)
       have HS1:=hid (HS.out.below HB1.out HS.out.lt)
       have HBA:=hid (HB.out.trans (HB1.out.mono (Nat.le_trans HGV.out HB.out.size)))
       clear hfs hro HO HS HB HP
       go_wp2_with fail
       refine HIN.out.mono ?_
       rintro e V ⟨rfl,hb⟩
       have HS9:=hid (HS1.out.below hb HS1.out.lt)
       have HB9:=hid (HBA.out.trans (hb.mono (Nat.le_trans HGV.out HBA.out.size)))
       have hA9:=(Below.refl V.heap.size V).alloc (Nat.le_refl _) (FC (qF (DQ k)).1 (qF (DQ k)).2.1 (qF (DQ k)).2.2)
       have HFX:=hid (Box.new V (qF (DQ k)).1 (qF (DQ k)).2.1 (qF (DQ k)).2.2)
       have HSX:=hid (HS9.out.below hA9 HS9.out.lt)
       have HBX:=hid (HB9.out.trans (hA9.mono (Nat.le_trans HGV.out HB9.out.size)))
       have hgn:=HS9.out.lt
       have hgf:=Nat.le_trans HGV.out HB9.out.size
       clear hb HS9 HB9 hA9 HS1 HBA HB1 HIN
       go_upto_region 16 with fail
       generalize (V.alloc (FC (qF (DQ k)).1 (qF (DQ k)).2.1 (qF (DQ k)).2.2))=w9 at *
       obtain⟨gf,hgfe⟩:∃x,V.heap.size=x:=⟨_,rfl⟩
       simp only[hgfe] at hgn hgf HFX⊢
       have HGF:Hid (gB≤gf):=hgf
       have HSNE:Hid (gB≠gf):=Nat.ne_of_lt hgn
       have HS:=HSX
       have HB:=HBX
       have HF:=HFX
       clear hgfe hgn hgf HSX HBX HFX
       obtain⟨DQk,hDk⟩:∃x,DQ k=x:=⟨_,rfl⟩
       rw[hDk] at HMU HF
       clear hDk
       go_upto_region 16 with fail
       replace HF:=hid HF.out.drew
       replace HB:=hid HB.out.drew
       replace HS:=hid HS.out.drew
       refine wp_region_until 8 (fun (b:Bool) (u:World)=>(u.cell? ⟨ga,oa,none⟩=some (.slice (some ⟨g1,o1,none⟩) (n+1) c1)∧u.cell? ⟨g1,o1+k*3,none⟩=some (.bool an)∧u.cell? ⟨g1,o1+k*3+1,none⟩=some (.string ax)∧u.cell? ⟨g1,o1+k*3+2,none⟩=some (.string ay))∧(b=false→(u.cell? ⟨gf,0,none⟩=some (.bool (qF (DQk)).1)∧u.cell? ⟨gf,1,none⟩=some (.string (qF (DQk)).2.1)∧u.cell? ⟨gf,2,none⟩=some (.string (qF (DQk)).2.2)))) (by kernel_rfl) ⟨HELD.out _ HB.out,fun _=>HF.out.trio⟩ (fun hSd=>?_)
       generalize w9.drew=u0 at *
       refine wpU_take (i:=1) (oi:=_) (v:=.slice (some ⟨ga,oa,none⟩) (n+1) ca) (b:=false) rfl (by kernel_rfl) (by kernel_rfl) (by kernel_rfl) (by decide) (fun _ _ _ h=>h) (Or.inl ⟨by rfl,?_⟩) (by kernel_rfl) (by assumption) ?_
       ·intro u' hSu
        (try simp only[List.getElem_toArray,List.getElem_cons_zero,List.getElem_cons_succ])
        go_simp
       (try simp only[List.getElem_toArray,List.getElem_cons_zero,List.getElem_cons_succ])
       (try simp only[Act.put,List.setIfInBounds_toArray,List.set_cons_zero,List.set_cons_succ])
       refine wpU_take (i:=2) (oi:=_) (v:=.pointer (some ⟨ga,oa,none⟩)) (b:=false) rfl (by kernel_rfl) (by kernel_rfl) (by kernel_rfl) (by decide) (fun _ _ _ h=>h) (Or.inl ⟨by rfl,?_⟩) (by kernel_rfl) (by assumption) ?_
       ·intro u' hSu
        (try simp only[List.getElem_toArray,List.getElem_cons_zero,List.getElem_cons_succ])
        go_simp
       (try simp only[List.getElem_toArray,List.getElem_cons_zero,List.getElem_cons_succ])
       (try simp only[Act.put,List.setIfInBounds_toArray,List.set_cons_zero,List.set_cons_succ])
       refine wpU_take (i:=3) (oi:=_) (v:=.slice (some ⟨g1,o1,none⟩) (n+1) c1) (b:=false) rfl (by kernel_rfl) (by kernel_rfl) (by kernel_rfl) (by decide) (fun _ _ _ h=>h) (Or.inl ⟨by rfl,?_⟩) (by kernel_rfl) (by assumption) ?_
       ·intro u' hSu
        (try simp only[List.getElem_toArray,List.getElem_cons_zero,List.getElem_cons_succ])
        obtain⟨_,⟨s0,s1,s2,s3⟩,_⟩:=hSu
        go_simp
       (try simp only[List.getElem_toArray,List.getElem_cons_zero,List.getElem_cons_succ])
       (try simp only[Act.put,List.setIfInBounds_toArray,List.set_cons_zero,List.set_cons_succ])
       refine wpU_take (i:=4) (oi:=_) (v:=.int .i64 (k:Nat)) (b:=false) rfl (by kernel_rfl) (by kernel_rfl) (by kernel_rfl) (by decide) (fun _ _ _ h=>h) (Or.inl ⟨by rfl,?_⟩) (by kernel_rfl) (by assumption) ?_
       ·intro u' hSu
        (try simp only[List.getElem_toArray,List.getElem_cons_zero,List.getElem_cons_succ])
        go_simp
       (try simp only[List.getElem_toArray,List.getElem_cons_zero,List.getElem_cons_succ])
       (try simp only[Act.put,List.setIfInBounds_toArray,List.set_cons_zero,List.set_cons_succ])
       refine wpU_take (i:=5) (oi:=_) (v:=.pointer (some ⟨g1,o1+k*3,none⟩)) (b:=false) rfl (by kernel_rfl) (by kernel_rfl) (by kernel_rfl) (by decide) (fun _ _ _ h=>h) (Or.inl ⟨by rfl,?_⟩) (by kernel_rfl) (by assumption) ?_
       ·intro u' hSu
        (try simp only[List.getElem_toArray,List.getElem_cons_zero,List.getElem_cons_succ])
        go_simp
       (try simp only[List.getElem_toArray,List.getElem_cons_zero,List.getElem_cons_succ])
       (try simp only[Act.put,List.setIfInBounds_toArray,List.set_cons_zero,List.set_cons_succ])
       refine wpU_take (i:=6) (oi:=_) (v:=.agg #[.bool an,.string ax,.string ay]) (b:=false) rfl (by kernel_rfl) (by kernel_rfl) (by kernel_rfl) (by decide) (fun _ _ _ h=>h) (Or.inl ⟨by rfl,?_⟩) (by kernel_rfl) (by assumption) ?_
       ·intro u' hSu
        (try simp only[List.getElem_toArray,List.getElem_cons_zero,List.getElem_cons_succ])
        obtain⟨_,⟨s0,s1,s2,s3⟩,_⟩:=hSu
        go_simp
       (try simp only[List.getElem_toArray,List.getElem_cons_zero,List.getElem_cons_succ])
       (try simp only[Act.put,List.setIfInBounds_toArray,List.set_cons_zero,List.set_cons_succ])
       refine wpU_ahead (i:=0) (oi:=_) (v:=.agg #[.bool (qF (DQk)).1,.string (qF (DQk)).2.1,.string (qF (DQk)).2.2]) rfl (by kernel_rfl) (by kernel_rfl) (by kernel_rfl) (by decide) rfl (by kernel_rfl) (fun _ _ _ h=>h) (Or.inl ⟨by rfl,?_⟩) (by kernel_rfl) (by assumption) ?_
       ·intro u' hSu
        (try simp only[List.getElem_toArray,List.getElem_cons_zero])
        obtain⟨_,s99⟩:=hSu
        obtain⟨s97,s98,s99⟩:=s99 rfl
        go_simp
       (try simp only[List.getElem_toArray,List.getElem_cons_zero])
       (try simp only[Act.put,List.setIfInBounds_toArray,List.set_cons_zero,List.set_cons_succ])
       refine wpU_ready (rs:=[7]) (by kernel_rfl) (by simp) (AllU.cons (b:=false) rfl (by kernel_rfl) ?_ (AllU.nil))
       ·intro K' hK'
        (try simp only[List.getElem_toArray,List.getElem_cons_zero,List.getElem_cons_succ])
        go_simp
        refine(HMU.out _).mono ?_
        rintro e u3 ⟨rfl,hb⟩
        replace HF:=hid (HF.out.below hb HF.out.lt)
        replace HB:=hid (HB.out.trans (hb.mono (Nat.le_trans HGV.out HB.out.size)))
        replace HS:=hid (HS.out.below hb HS.out.lt)
        refine hK'.out _ _ ⟨HELD.out _ HB.out,fun _=>HF.out.trio⟩ (fun hSe=>?_)
        clear hK' K' hSd
        have hSd:=hSe
        clear hSe
        clear hb
        (try simp only[List.getElem_toArray,List.getElem_cons_zero,List.getElem_cons_succ])
        (try simp only[Act.put,List.setIfInBounds_toArray,List.set_cons_zero,List.set_cons_succ])
        obtain⟨q0,q1,q2⟩:=HF.out.trio
        have q3:=HF.out.fz 0
        have q4:=HF.out.fz 1
        have q5:=HF.out.fz 2
        refine wpU_ready (rs:=[8]) (by kernel_rfl) (by simp) (AllU.cons (b:=true) rfl (by kernel_rfl) ?_ (AllU.nil))
        ·intro K' hK'
         (try simp only[List.getElem_toArray,List.getElem_cons_zero,List.getElem_cons_succ])
         go_simp
         have HXN:=hid (HF.out.put (qF (PQk)).1 (qF (PQk)).2.1 (qF (PQk)).2.2)
         have HBN:=hid (((HB.out.setCell (p:=⟨gf,0,none⟩) HGF.out (.bool (qF (PQk)).1)).setCell (p:=⟨gf,1,none⟩) HGF.out (.string (qF (PQk)).2.1)).setCell (p:=⟨gf,2,none⟩) HGF.out (.string (qF (PQk)).2.2))
         have HSN:=hid (((HS.out.away gf 0 (.bool (qF (PQk)).1) HSNE.out).away gf 1 (.string (qF (PQk)).2.1) HSNE.out).away gf 2 (.string (qF (PQk)).2.2) HSNE.out)
         refine hK'.out _ _ ⟨HELD.out _ HBN.out,fun e=>by cases e⟩ (fun _=>wpU_done (by kernel_rfl) ?_ _)
         clear hK' K' hSd q0 q1 q2 q3 q4 q5 HF HB HS
         clear HELD
         by_cases hodd:k % 2=1
         ·have hi2:(k:Int) % 2=1:=by omega
          have HSU:=hid (HSUB.out hodd)
          clear HSUB HADD
          obtain⟨k0,k1,k2⟩:=HSN.out.trio
          obtain⟨y0,y1,y2⟩:=HXN.out.trio
          go_wp2_with fail
          refine(HSU.out _).mono ?_
          rintro e q2 ⟨rfl,hb⟩
          clear k0 k1 k2 y0 y1 y2 HXN
          replace HSN:=hid (HSN.out.below hb HSN.out.lt)
          replace HBN:=hid (HBN.out.trans (hb.mono (Nat.le_trans HGV.out HBN.out.size)))
          obtain⟨k0,k1,k2⟩:=HSN.out.trio
          have f0:=HSN.out.fz 0
          have f1:=HSN.out.fz 1
          have f2:=HSN.out.fz 2
          have HXK:=hid (HSN.out.put (qF (sumR G (k+1))).1 (qF (sumR G (k+1))).2.1 (qF (sumR G (k+1))).2.2)
          have HBK:=hid (((HBN.out.setCell (p:=⟨gB,0,none⟩) (Nat.le_refl _) (.bool (qF (sumR G (k+1))).1)).setCell (p:=⟨gB,1,none⟩) (Nat.le_refl _) (.string (qF (sumR G (k+1))).2.1)).setCell (p:=⟨gB,2,none⟩) (Nat.le_refl _) (.string (qF (sumR G (k+1))).2.2))
          clear hb HSN HBN
          go_wp2
          go_roundw
          case rel=>exact⟨k+1,by omega,by go_num,HXK,HBK⟩
          case measure=>simp[intOf];omega
         ·have hi2:¬(k:Int) % 2=1:=by omega
          have HSU:=hid (HADD.out hodd)
          clear HSUB HADD
          obtain⟨k0,k1,k2⟩:=HSN.out.trio
          obtain⟨y0,y1,y2⟩:=HXN.out.trio
          go_wp2_with fail
          refine(HSU.out _).mono ?_
          rintro e q2 ⟨rfl,hb⟩
          clear k0 k1 k2 y0 y1 y2 HXN
          replace HSN:=hid (HSN.out.below hb HSN.out.lt)
          replace HBN:=hid (HBN.out.trans (hb.mono (Nat.le_trans HGV.out HBN.out.size)))
          obtain⟨k0,k1,k2⟩:=HSN.out.trio
          have f0:=HSN.out.fz 0
          have f1:=HSN.out.fz 1
          have f2:=HSN.out.fz 2
          have HXK:=hid (HSN.out.put (qF (sumR G (k+1))).1 (qF (sumR G (k+1))).2.1 (qF (sumR G (k+1))).2.2)
          have HBK:=hid (((HBN.out.setCell (p:=⟨gB,0,none⟩) (Nat.le_refl _) (.bool (qF (sumR G (k+1))).1)).setCell (p:=⟨gB,1,none⟩) (Nat.le_refl _) (.string (qF (sumR G (k+1))).2.1)).setCell (p:=⟨gB,2,none⟩) (Nat.le_refl _) (.string (qF (sumR G (k+1))).2.2))
          clear hb HSN HBN
          go_wp2
          go_roundw
          case rel=>exact⟨k+1,by omega,by go_num,HXK,HBK⟩
          case measure=>simp[intOf];omega
   ·obtain rfl:k=n+1:=by omega
    obtain⟨k0,k1,k2⟩:=HS.out.trio
    have HXB:=hid (HXV.out.below (HGE2.out▸HB.out) (HGE2.out▸HLB.out))
    have HBF:=hid (HBV.out.trans (HB.out.mono HWG.out))
    obtain⟨y0,y1,y2⟩:=HXB.out.trio
    have f0:=HXB.out.fz 0
    have f1:=HXB.out.fz 1
    have f2:=HXB.out.fz 2
    have HX9:=hid (HXB.out.put (qF (sumR G (n+1))).1 (qF (sumR G (n+1))).2.1 (qF (sumR G (n+1))).2.2)
    have HW9:=hid (((HBF.out.setCell (p:=⟨w.heap.size,0,none⟩) (Nat.le_refl _) (.bool (qF (sumR G (n+1))).1)).setCell (p:=⟨w.heap.size,1,none⟩) (Nat.le_refl _) (.string (qF (sumR G (n+1))).2.1)).setCell (p:=⟨w.heap.size,2,none⟩) (Nat.le_refl _) (.string (qF (sumR G (n+1))).2.2))
    clear HS HB HXB HBF
    go_wp2
    refine bodyPost_ret (HX9.out.result rfl _ rfl) rfl ?_
    exact⟨rfl,HW9.out⟩
end Go.Proofs.YtmbjmiioggfneaaGreatDoor

/- The answer's solved: equations by determinants. -/
namespace Go.Proofs.YtmbjmiioggfneaaGreatDoor
open Go.RowKit Go.Shelf
theorem eqR_rwF {U:World} {B g m c:Nat} {f:Nat→Fr} (h:EqR U B g m c f):RwF U B (.slice (some ⟨g,0,none⟩) m c) (rF m f):=by
 rw[RwF,rF_length]
 exact h
theorem rDivQ (p q:Rat) (U:World) (hq0:q≠0) (hp:qw p≤40000) (hq:qw q≤40000):Calls Tryz.prog 82 #[.agg #[.bool (qF (p)).1,.string (qF (p)).2.1,.string (qF (p)).2.2],.agg #[.bool (qF (q)).1,.string (qF (q)).2.1,.string (qF (q)).2.2]] U fun e w'=>e=.returned (.tuple #[.agg #[.bool (qF (p/q)).1,.string (qF (p/q)).2.1,.string (qF (p/q)).2.2],.int .i64 0])∧Below U.heap.size U w':=by
 have h:=rDivF_yes (sgn p) (sgn q) (nu p) (de p) (nu q) (de q) U (by rw[val_own];exact hq0) (by rw[own_size];exact hp) (by rw[own_size];exact hq)
 rw[val_own,val_own] at h
 exact h
theorem putC_row {n k:Nat} (M:Nat→Nat→Rat) (b:Nat→Rat) (i:Nat):(rF n fun j=>if j=k then qF (b i) else qN (M i) j)=lF n (putC M k b i):=by
 rw[lF_rF]
 refine rF_congr fun j _=>?_
 show _=qF (if j=k then b i else M i j)
 by_cases e:j=k
 ·rw[if_pos e,if_pos e]
 ·rw[if_neg e,if_neg e];rfl
theorem rwF_some {w:World} {B n:Nat} {v:Value} {l:List Fr} (h:RwF w B v l) (hl:l.length=n) (h1:1≤n):∃g c,v=.slice (some ⟨g,0,none⟩) n c:=by
 obtain⟨g,c,e,_⟩:=h.some' (by omega)
 exact⟨g,c,by rw[e,hl]⟩
set_option maxRecDepth 100000 in
set_option maxHeartbeats 4000000 in
theorem rSolved_any (T:Nat) (hT0:0<T) (hT:Sh 700 T) (n:Nat) (M:Nat→Nat→Rat) (bv:Nat→Rat) (a b:Option Addr) (ca cb:Nat) (w:World) (hn:n≤5) (hw:∀i j,i<n→j<n→Whl T (M i j)) (ha:∀i j,i<n→j<n→Abs 6 (M i j)) (hwb:∀i,i<n→Whl T (bv i)) (hab:∀i,i<n→Abs 6 (bv i)) (hd:detQ n M≠0) (hR:FsS w a (mR n M)) (hb:FrS w b (lF n bv)):
  Calls Tryz.prog 56 #[.slice a n ca,.slice b n cb] w fun e w'=>∃v,e=.returned v∧RwF w' w.heap.size v (lF n fun k=>detQ n (putC M k bv)/detQ n M)∧Below w.heap.size w w':=by
 have HDT:=hid (rDet_any T hT0 hT n M a ca w hn hw ha hR)
 have hpw:∀k,k<n→∀i j,i<n→j<n→Whl T (putC M k bv i j):=fun k hk i j hi hj=>by
  unfold putC
  split
  ·exact hwb i hi
  ·exact hw i j hi hj
 have hpa:∀k,k<n→∀i j,i<n→j<n→Abs 6 (putC M k bv i j):=fun k hk i j hi hj=>by
  unfold putC
  split
  ·exact hab i hi
  ·exact ha i j hi hj
 have HDK:=hid (fun (k:Nat) (hk:k<n) (d:Option Addr) (c:Nat) (U:World) (hU:FsS U d (mR n (putC M k bv)))=>rDet_any T hT0 hT n (putC M k bv) d c U hn (hpw k hk) (hpa k hk) hU)
 have HDF:Hid (Fits 3505 (detQ n M)):=det_fits hT0 hT hn hw ha
 have HKF:Hid (∀k,k<n→Fits 3505 (detQ n (putC M k bv))):=fun k hk=>det_fits hT0 hT hn (hpw k hk) (hpa k hk)
 have HFR:Hid (∀i,i<n→∃ga oa gr or_ cr,a=some ⟨ga,oa,none⟩∧ga<w.heap.size∧w.cell? ⟨ga,oa+i,none⟩=some (.slice (some ⟨gr,or_,none⟩) n cr)∧FrS w (some ⟨gr,or_,none⟩) (lF n (M i))∧n≤cr):=fun i hi=>by
  have hil:i<(mR n M).length:=by rw[mR_length];exact hi
  obtain⟨g,o,b,c,e1,e2,e3,e4,e5⟩:=hR i hil
  have e6:(mR n M)[i]=lF n (M i):=mR_get hil
  rw[e6] at e3 e4 e5
  rw[lF_length] at e3 e5
  obtain⟨gr,or_,eb,_⟩:=e4 0 (by rw[lF_length];omega)
  subst eb
  exact⟨g,o,gr,or_,c,e1,e2,e3,e4,e5⟩
 have HBV:=hid hb
 have HD0:=hid hd
 clear hw ha hwb hab hR hb hpw hpa hT hT0 hd
 obtain⟨SQ,hSQ⟩:∃SQ:Nat→Rat,SQ=fun k=>detQ n (putC M k bv)/detQ n M:=⟨_,rfl⟩
 have HSQ:Hid (∀k,SQ k=detQ n (putC M k bv)/detQ n M):=fun k=>by rw[hSQ]
 rw[←hSQ]
 clear hSQ
 obtain⟨dq,hdq⟩:∃x,detQ n M=x:=⟨_,rfl⟩
 rw[hdq] at HDT HDF HD0
 simp only[hdq] at HSQ
 clear hdq
 have HE0:Hid (RwF w w.heap.size (.slice none 0 0) (lF 0 SQ)):=⟨rfl,.inl ⟨rfl,rfl⟩⟩
 go_enter Tryz.func56,Tryz.ntmps56
 go_wp2_with fail
 refine HDT.out.mono ?_
 rintro e V0 ⟨rfl,hbv⟩
 have hA:=(Below.refl V0.heap.size V0).alloc (Nat.le_refl _) (FC (qF (dq)).1 (qF (dq)).2.1 (qF (dq)).2.2)
 have HX0:=hid (Box.new V0 (qF (dq)).1 (qF (dq)).2.1 (qF (dq)).2.2)
 have HB0:Hid (Below w.heap.size w (V0.alloc (FC (qF (dq)).1 (qF (dq)).2.1 (qF (dq)).2.2))):=hbv.trans (hA.mono hbv.size)
 have HGD:Hid (w.heap.size≤V0.heap.size):=hbv.size
 clear hA hbv HDT HE0
 go_wp2_with fail
 generalize (V0.alloc (FC (qF (dq)).1 (qF (dq)).2.1 (qF (dq)).2.2))=V1 at *
 obtain⟨gD,hgD⟩:∃x,V0.heap.size=x:=⟨_,rfl⟩
 rw[hgD] at HX0 HGD
 simp only[hgD]
 clear hgD
 have HR0:Hid (RwF V1 V1.heap.size (.slice none 0 0) (lF 0 SQ)):=⟨rfl,.inl ⟨rfl,rfl⟩⟩
 have HZ1:Hid (Below V1.heap.size V1 V1):=Below.refl _ _
 have HGL:=hid HX0.out.lt
 go_loopw [6,7] (fun ov kv wr=>∃k:Nat,k≤n∧kv=.int .i64 k∧Hid (RwF wr V1.heap.size ov (lF k SQ))∧Hid (Below V1.heap.size V1 wr)) (fun _ kv _=>n - (intOf kv).toNat)
 case atStart=>exact⟨0,Nat.zero_le _,rfl,HR0,HZ1⟩
 case round=>
  clear HR0 HZ1
  obtain⟨k,hk,rfl,HRW,HB1V⟩:=hrel
  have HXD:=hid (HX0.out.below HB1V.out HGL.out)
  have HBW:=hid (HB0.out.trans (HB1V.out.mono HB0.out.size))
  by_cases hlk:k<n
  ·have h1n:1≤n:=by omega
   obtain⟨ga,oa,_,_,_,hae,hga, -, -, -⟩:=HFR.out 0 h1n
   subst hae
   obtain⟨gb,ob,hbe0,hgb, -, -, -⟩:=HBV.out 0 (by rw[lF_length];exact h1n)
   subst hbe0
   obtain⟨V9,hV9⟩:∃x,x=wr:=⟨_,rfl⟩
   rw[←hV9] at HRW HXD HBW HB1V⊢
   clear hV9
   obtain⟨dv,nv,cv,hlv⟩:=HRW.out.slv
   subst hlv
   have HO0':Hid (OwR V9 V9.heap.size (.slice none 0 0) []):=OwR.nil _ _
   have HBZ9:Hid (Below V9.heap.size V9 V9):=Below.refl _ _
   go_wp2_with fail
   go_loopw [8,9] (fun cv iv wr=>∃(i:Nat) (Ps:List PR),i≤n∧iv=.int .i64 i∧Hid (OwR wr V9.heap.size cv Ps)∧Hid (Ps.map (·.2)=(List.range i).map fun t=>lF n (putC M k bv t))∧Hid (Below V9.heap.size V9 wr)) (fun _ iv _=>n - (intOf iv).toNat)
   case atStart=>exact⟨0,[],Nat.zero_le _,rfl,HO0',rfl,HBZ9⟩
   case round=>
    clear HO0' HBZ9
    obtain⟨i,Ps,hi,rfl,HO,HP,HB1⟩:=hrel
    by_cases hli:i<n
    ·have HUP:Hid (∀U:World,Below wr.heap.size wr U→Below w.heap.size w U):=fun U hU=>HBW.out.trans ((HB1.out.trans (hU.mono HB1.out.size)).mono HBW.out.size)
     obtain⟨ga',oa',gr,or_,cr,hae,_,x0,hfr,hcr⟩:=HFR.out i hli
     cases hae
     obtain⟨gb',ob',hbe,_,b0,b1,b2⟩:=HBV.out i (by rw[lF_length];exact hli)
     cases hbe
     rw[lF_get] at b0 b1 b2
     have HPL:Hid (Ps.length+1≤100000):=by
      have h9:=congrArg List.length HP.out
      rw[List.length_map,List.length_map,List.length_range] at h9
      show _≤_
      omega
     have HLM:Hid ((lF n (M i)).length=n):=lF_length _ _
     have HFM:Hid (∀U:World,Below wr.heap.size wr U→FrS U (some ⟨gr,or_,none⟩) (lF n (M i))):=fun U hU=>hfr.below (HUP.out U hU)
     obtain⟨bd,nb,cb',hbv⟩:∃d n c,u8=.slice d n c:=by
      obtain⟨d,c,e,_⟩:=owns_slice HO.out.1
      exact⟨d,_,c,e⟩
     subst hbv
     have hbe:Below wr.heap.size wr (wr.alloc (.cells #[] 44)):=(Below.refl _ wr).alloc (Nat.le_refl _) _
     have hRe:RwF (wr.alloc (.cells #[] 44)) wr.heap.size (.slice (some ⟨wr.heap.size,0,none⟩) 0 0) []:=⟨rfl,.inr ⟨wr.heap.size,0, #[],rfl,Nat.le_refl _,heap_alloc_new _ _,Nat.le_refl _,Nat.zero_le _,rfl,rfl⟩⟩
     have c0a:=((HUP.out _ hbe).cell (p:=⟨ga,_,none⟩) hga).trans x0
     have HRe:=hid hRe
     have HBE:=hid hbe
     have hse:=hbe.size
     obtain⟨LM,hLM⟩:∃x,lF n (M i)=x:=⟨_,rfl⟩
     have HLE:=hid hLM
     rw[hLM] at HLM HFM
     clear hbe hRe hLM hfr
     go_upto_region 11 with (at_builtin;refine wpList_append_frs rfl _ _ rfl wr.heap.size _ [] LM rfl HRe.out gr or_ cr (by rw[HLM.out];rfl) (HFM.out _ HBE.out) (by rw[HLM.out];simp;omega) hse ?_;intro v6 w6 hr6 hg6;rw[List.nil_append] at hr6;have HB6:=hid (HBE.out.trans ((Below.refl _ _).grown hg6 hse (fun k e=>by cases e;exact Nat.le_refl _)));have HR6:=hid hr6;clear hr6 hg6)
     obtain⟨g6,c6,hv6⟩:=rwF_some HR6.out HLM.out h1n
     subst hv6
     have HE6:Hid (EqR w6 wr.heap.size g6 n c6 (qN (M i))):=EqR.of (by rw[←lF_rF,HLE.out];exact HR6.out)
     obtain⟨k0,k1,k2⟩:=HE6.out.cells hlk
     have f0:=HE6.out.fz (k*3)
     have f1:=HE6.out.fz (k*3+1)
     have f2:=HE6.out.fz (k*3+2)
     have d0:=((HUP.out _ HB6.out).cell (p:=⟨gb,_,none⟩) hgb).trans b0
     have d1:=((HUP.out _ HB6.out).cell (p:=⟨gb,_,none⟩) hgb).trans b1
     have d2:=((HUP.out _ HB6.out).cell (p:=⟨gb,_,none⟩) hgb).trans b2
     obtain⟨hP7,hg7⟩:=HE6.out.put k (qF (bv i))
     have hgl:=HE6.out.block.1
     have HR7:Hid (RwF (((w6.setCell ⟨g6,k*3,none⟩ (.bool (qF (bv i)).1)).setCell ⟨g6,k*3+1,none⟩ (.string (qF (bv i)).2.1)).setCell ⟨g6,k*3+2,none⟩ (.string (qF (bv i)).2.2)) wr.heap.size (.slice (some ⟨g6,0,none⟩) n c6) (lF n (putC M k bv i))):=by
      show RwF _ _ _ _
      rw[←putC_row]
      exact eqR_rwF hP7
     have HB7:Hid (Below wr.heap.size wr (((w6.setCell ⟨g6,k*3,none⟩ (.bool (qF (bv i)).1)).setCell ⟨g6,k*3+1,none⟩ (.string (qF (bv i)).2.1)).setCell ⟨g6,k*3+2,none⟩ (.string (qF (bv i)).2.2))):=HB6.out.grown hg7 HB6.out.size (fun x e=>by cases e;exact hgl)
     clear hP7 hg7 HE6 HR6 HB6 c0a b0 b1 b2 x0 HRe HBE
     go_upto_region 12 with fail
     generalize (((w6.setCell ⟨g6,k*3,none⟩ (.bool (qF (bv i)).1)).setCell ⟨g6,k*3+1,none⟩ (.string (qF (bv i)).2.1)).setCell ⟨g6,k*3+2,none⟩ (.string (qF (bv i)).2.2))=w7 at *
     clear k0 k1 k2 f0 f1 f2 d0 d1 d2
     have hAL:=(Below.refl w7.heap.size w7).alloc (Nat.le_refl _) (.cells #[.slice (some ⟨g6,0,none⟩) n c6] 23)
     have HC9:Hid ((w7.alloc (.cells #[.slice (some ⟨g6,0,none⟩) n c6] 23)).cell? ⟨w7.heap.size,0,none⟩=some (.slice (some ⟨g6,0,none⟩) n c6)):=by
      show _=_
      rw[cell_of_row _ _ _ _ _ (0,0) (heap_alloc_new w7 _)]
      rfl
     have hb9:=HB7.out.trans (hAL.mono HB7.out.size)
     have HO9:=hid (HO.out.below hb9)
     have HB9:=hid (HB1.out.trans (hb9.mono HB1.out.size))
     have HR9:Hid (RwF (w7.alloc (.cells #[.slice (some ⟨g6,0,none⟩) n c6] 23)) V9.heap.size (.slice (some ⟨g6,0,none⟩) n c6) (lF n (putC M k bv i))):=(HR7.out.below hAL).lower HB1.out.size
     clear hAL hb9 HR7 HB7
     go_wp2_with (at_builtin;refine wpList_append_rs rfl _ _ rfl V9.heap.size _ Ps (.slice (some ⟨g6,0,none⟩) n c6) ⟨_,_,_,rfl⟩ rfl HO9.out.1 w7.heap.size rfl HC9.out HPL.out HB9.out.size ?_;intro v10 w10 hr10 hg10;have HO10:=hid (HO9.out.push hr10 hg10 HR9.out);have HB10:=hid (HB9.out.grown hg10 HB9.out.size (fun k e=>owns_from HO9.out.1 k e));clear hr10 hg10)
     go_roundw
     case rel=>exact⟨i+1,_,by omega,by go_num,HO10,(by show _=_;rw[List.map_append,HP.out,List.range_succ,List.map_append];rfl),HB10⟩
     case measure=>simp[intOf];omega
    ·obtain rfl:i=n:=by omega
     obtain⟨dy,cy,hbv,hfs⟩:=OwR.rows HO.out
     subst hbv
     have hro:rOf Ps=mR i (putC M k bv):=HP.out
     rw[hro] at hfs
     rw[hro,mR_length]
     have HIN:=hid (HDK.out k hlk dy cy _ hfs)
     have hqk:=fits_qw (HKF.out k hlk)
     have hqd:=fits_qw HDF.out
     have HDV:Hid (∀U:World,Calls Tryz.prog 82 #[.agg #[.bool (qF (detQ i (putC M k bv))).1,.string (qF (detQ i (putC M k bv))).2.1,.string (qF (detQ i (putC M k bv))).2.2],.agg #[.bool (qF (dq)).1,.string (qF (dq)).2.1,.string (qF (dq)).2.2]] U fun e w'=>e=.returned (.tuple #[.agg #[.bool (qF (SQ k)).1,.string (qF (SQ k)).2.1,.string (qF (SQ k)).2.2],.int .i64 0])∧Below U.heap.size U w'):=fun U=>by
      have h9:=rDivQ (detQ i (putC M k bv)) dq U HD0.out (by omega) (by omega)
      rw[←HSQ.out k] at h9
      exact h9
     clear hqk hqd hfs hro HO HP
     generalize detQ i (putC M k bv)=dk at *
     go_wp2_with fail
     refine HIN.out.mono ?_
     rintro e V ⟨rfl,hb⟩
     have hbU:=HB1.out.trans (hb.mono HB1.out.size)
     have hAF:=(Below.refl V.heap.size V).alloc (Nat.le_refl _) (FC (qF (dk)).1 (qF (dk)).2.1 (qF (dk)).2.2)
     have hbU2:=hbU.trans (hAF.mono hbU.size)
     have HF:=hid (Box.new V (qF (dk)).1 (qF (dk)).2.1 (qF (dk)).2.2)
     have HFG:Hid (V9.heap.size≤V.heap.size):=hbU.size
     have HX2:=hid (HXD.out.below hbU2 HXD.out.lt)
     have HB2:=hid hbU2
     clear hb hbU hAF hbU2 HIN HB1
     obtain⟨y0,y1,y2⟩:=HF.out.trio
     obtain⟨k0,k1,k2⟩:=HX2.out.trio
     go_upto_region 14 with fail
     generalize (V.alloc (FC (qF (dk)).1 (qF (dk)).2.1 (qF (dk)).2.2))=V2 at *
     obtain⟨gF,hgF⟩:∃x,V.heap.size=x:=⟨_,rfl⟩
     simp only[hgF] at HF HFG y0 y1 y2⊢
     clear hgF
     go_wp2_with fail
     refine(HDV.out _).mono ?_
     rintro e V3 ⟨rfl,hb⟩
     replace HF:=hid (HF.out.below hb HF.out.lt)
     replace HB2:=hid (HB2.out.trans (hb.mono HB2.out.size))
     clear hb k0 k1 k2 y0 y1 y2 HX2
     obtain⟨y0,y1,y2⟩:=HF.out.trio
     have f0:=HF.out.fz 0
     have f1:=HF.out.fz 1
     have f2:=HF.out.fz 2
     obtain⟨sq,hsq⟩:∃x,SQ k=x:=⟨_,rfl⟩
     have HSN:Hid (lF (k+1) SQ=lF k SQ++[qF sq]):=by rw[←hsq];exact lF_snoc k _
     simp only[hsq]
     clear hsq
     have HF2:=hid (HF.out.put (qF (sq)).1 (qF (sq)).2.1 (qF (sq)).2.2)
     have HB3:=hid (((HB2.out.setCell (p:=⟨gF,0,none⟩) HFG.out (.bool (qF sq).1)).setCell (p:=⟨gF,1,none⟩) HFG.out (.string (qF sq).2.1)).setCell (p:=⟨gF,2,none⟩) HFG.out (.string (qF sq).2.2))
     clear HF HB2
     go_upto_region 15 with fail
     clear y0 y1 y2 f0 f1 f2
     generalize (((V3.setCell ⟨gF,0,none⟩ (.bool (qF sq).1)).setCell ⟨gF,1,none⟩ (.string (qF sq).2.1)).setCell ⟨gF,2,none⟩ (.string (qF sq).2.2))=V4 at *
     obtain⟨k0,k1,k2⟩:=HF2.out.trio
     have hAL:=(Below.refl V4.heap.size V4).alloc (Nat.le_refl _) (FC (qF (sq)).1 (qF (sq)).2.1 (qF (sq)).2.2)
     have HC1:=hid (Box.new V4 (qF (sq)).1 (qF (sq)).2.1 (qF (sq)).2.2)
     have hb9:=HB3.out.trans (hAL.mono HB3.out.size)
     have HR4:=hid (HRW.out.below hb9)
     have HB4:=hid (HB1V.out.trans (hb9.mono HB1V.out.size))
     have HLN:Hid ((lF k SQ).length+1≤100000):=by show _≤_;rw[lF_length];omega
     clear hAL hb9 HF2 HB3
     go_wp2_with (at_builtin;refine wpList_append_fr rfl _ _ rfl V1.heap.size (.slice dv nv cv) (lF k SQ) (qF sq) rfl HR4.out V4.heap.size rfl HC1.out HLN.out HB4.out.size ?_;intro v5 w5 hr5 hg5;have HR5:Hid (RwF w5 V1.heap.size v5 (lF (k+1) SQ)):=(by rw[HSN.out];exact hr5);have HB5:=hid (HB4.out.grown hg5 HB4.out.size (fun k e=>HR4.out.own k e)))
     go_roundw
     case rel=>exact⟨k+1,by omega,by go_num,HR5,HB5⟩
     case measure=>simp[intOf];omega
  ·obtain rfl:n=k:=by omega
   obtain⟨dv,nv,cv,hlv⟩:=HRW.out.slv
   subst hlv
   have HRF:=hid (HRW.out.lower HB0.out.size)
   clear HRW
   go_wp2
   go_ret
   exact⟨_,rfl,HRF.out,HBW.out⟩
end Go.Proofs.YtmbjmiioggfneaaGreatDoor

/- The answer's common: what two lists have in common. -/
namespace Go.Proofs.YtmbjmiioggfneaaGreatDoor
open Go.RowKit Go.Shelf
def comI (a b:List Int) (k:Nat):List Int:=(a.take k).filter fun x=>inB x b
theorem comI_yes {a b:List Int} {k:Nat} (h:k<a.length) (hi:inB a[k] b=true):comI a b (k+1)=comI a b k++[a[k]]:=by
 rw[comI,comI,List.take_succ_eq_append_getElem h,List.filter_append];simp[hi]
theorem comI_no {a b:List Int} {k:Nat} (h:k<a.length) (hi:inB a[k] b=false):comI a b (k+1)=comI a b k:=by
 rw[comI,comI,List.take_succ_eq_append_getElem h,List.filter_append];simp[hi]
set_option maxRecDepth 100000 in
set_option maxHeartbeats 2000000 in
theorem common_any (a b:Option Addr) (ca cb:Nat) (x y:List Int) (w:World) (hx:IntS w a x) (hy:IntS w b y) (hxl:x.length≤1000) (hyl:y.length≤1000):
  Calls Tryz.prog 53 #[.slice a x.length ca,.slice b y.length cb] w fun e w'=>∃v,e=.returned v∧RwI w' w.heap.size v (comI x y x.length)∧Below w.heap.size w w':=by
 have HX:=hid hx
 have HIN:=hid (fun (z:Int) (U:World) (hb:Below w.heap.size w U)=>rIn_any z b cb y U (hy.below hb) (by omega))
 have HY:Hid (∀k (h:k<x.length),inB x[k] y=true→comI x y (k+1)=comI x y k++[x[k]]):=fun k h e=>comI_yes h e
 have HN:Hid (∀k (h:k<x.length),inB x[k] y=false→comI x y (k+1)=comI x y k):=fun k h e=>comI_no h e
 have H0:Hid (comI x y 0=[]):=by show _=_;simp[comI]
 have HL:Hid (∀k,(comI x y k).length≤1000):=fun k=>by
  have h1:=List.length_filter_le (fun x=>inB x y) (x.take k)
  have h2:=List.length_take_le k x
  show ((x.take k).filter fun x=>inB x y).length≤1000
  have h3:(x.take k).length≤x.length:=by rw[List.length_take];omega
  omega
 clear hx hy
 generalize comI x y=F at *
 go_enter Tryz.func53,Tryz.ntmps53
 go_wp2_with fail
 go_loopw [5,6] (fun ov iv wr=>∃k:Nat,k≤x.length∧iv=.int .i64 k∧Hid (RwI wr w.heap.size ov (F k))∧Hid (Below w.heap.size w wr)) (fun _ iv _=>x.length - (intOf iv).toNat)
 case atStart=>exact⟨0,Nat.zero_le _,rfl,by rw[H0.out];exact⟨rfl,.inl ⟨rfl,rfl⟩⟩,Below.refl _ _⟩
 case round=>
  obtain⟨k,hk,rfl,HR,HB⟩:=hrel
  obtain⟨d,cd,rfl, -⟩:=HR.out.ints
  by_cases hkl:k<x.length
  ·obtain⟨g,o,rfl,hg,c0⟩:=(HX.out.below HB.out) k hkl
   have HYk:=hid (HY.out k hkl)
   have HNk:=hid (HN.out k hkl)
   have HLk:=hid (HL.out k)
   generalize x[k]=z at *
   have HI:=hid (HIN.out z wr HB.out)
   clear HY HN
   generalize inB z y=q at *
   go_wp2_with fail
   refine HI.out.mono ?_
   rintro e w1 ⟨rfl,rfl⟩
   cases q with
   |true=>
    have HF:=hid (HYk.out rfl)
    clear HYk HNk
    have HOWN:=hid HR.out.own
    have HRA:=hid (World.ownsRow.alloc HR.out (.cells #[.int .i64 z] 3))
    have HBA:=hid (HB.out.alloc HB.out.size (.cells #[.int .i64 z] 3))
    have HIA:=hid (one_intT w1 z)
    go_wp2_with (at_builtin;refine wpList_append_ints rfl _ _ rfl w.heap.size _ (F k) [z] rfl HRA.out (some ⟨w1.heap.size,0,none⟩) 1 rfl HIA.out (fun e=>by cases e) (by have:=HLk.out;simp;omega) HBA.out.size ?_;intro v' w5 hr5 hg5)
    have HR5:Hid (RwI w5 w.heap.size v' (F (k+1))):=by show RwI w5 w.heap.size v' (F (k+1));rw[HF.out];exact hr5
    have HB5:=hid (HBA.out.grown hg5 HBA.out.size HOWN.out)
    clear hr5 hg5
    go_wp2
    go_roundw
    case rel=>exact⟨k+1,by omega,by go_num,HR5,HB5⟩
    case measure=>simp[intOf];omega
   |false=>
    have HF:=hid (HNk.out rfl)
    clear HYk HNk
    go_wp2
    go_roundw
    case rel=>exact⟨k+1,by omega,by go_num,by rw[HF.out];exact HR,HB⟩
    case measure=>simp[intOf];omega
  ·obtain rfl:k=x.length:=by omega
   go_wp2
   go_ret
   exact⟨_,rfl,HR.out,HB.out⟩
end Go.Proofs.YtmbjmiioggfneaaGreatDoor
