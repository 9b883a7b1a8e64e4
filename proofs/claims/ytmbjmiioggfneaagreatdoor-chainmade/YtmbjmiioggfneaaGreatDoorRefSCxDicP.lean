/- The document's answer: differences, products, quotients, comparisons, whole numbers. -/
import Derived.Test.YtmbjmiioggfneaaGreatDoorFracACxRefR
import Derived.Test.YtmbjmiioggfneaaGreatDoorRefCCxNumR
import Derived.BigQuiet
namespace Go.Proofs.YtmbjmiioggfneaaGreatDoor
open Go.RowKit
set_option maxRecDepth 100000 in
set_option maxHeartbeats 2000000 in
theorem rSubF_any (na nb:Bool) (xa ya xb yb:ByteArray) (w:World) (ha:xa.size+ya.size≤50000) (hb:xb.size+yb.size≤50000):
  Calls Tryz.prog 54 #[.agg #[.bool na,.string xa,.string ya],.agg #[.bool nb,.string xb,.string yb]] w fun e w'=>e=.returned (C (val na xa ya - val nb xb yb))∧Below w.heap.size w w':=by
 have HA:=hide (fun V=>rAddF_any na (!nb) xa ya xb yb V ha hb)
 rw[val_not,←Rat.sub_eq_add_neg] at HA
 generalize val na xa ya - val nb xb yb=r at *
 go_enter Tryz.func54,Tryz.ntmps54
 have hbr:=Box.at (w:=(w.alloc (FC na xa ya)).alloc (FC (!nb) xb yb)) (g:=w.heap.size+2) (by simp) false ⟨#[]⟩ ⟨#[]⟩
 have hB0:Below w.heap.size w (((w.alloc (FC na xa ya)).alloc (FC (!nb) xb yb)).alloc (FC false ⟨#[]⟩ ⟨#[]⟩)):=(((Below.refl _ w).alloc (Nat.le_refl _) _).alloc (by simp) _).alloc (by simp;omega) _
 go_wp2_with fail
 refine(HA.out _).mono ?_
 rintro e w1 ⟨rfl,hb1⟩
 have hbr1:=hbr.below hb1 hbr.lt
 have hB1:=hB0.trans (hb1.mono hB0.size)
 obtain⟨k0,k1,k2,f0,f1,f2⟩:=hbr1.facts
 rw[C_eq]
 go_wp2
 refine bodyPost_ret ((hbr1.put _ _ _).result rfl _ rfl) rfl ?_
 exact⟨rfl,below_put hB1 (by omega) _ _ _⟩
set_option maxRecDepth 100000 in
set_option maxHeartbeats 2000000 in
theorem rMulF_any (na nb:Bool) (xa ya xb yb:ByteArray) (w:World) (ha:xa.size+ya.size≤50000) (hb:xb.size+yb.size≤50000):
  Calls Tryz.prog 59 #[.agg #[.bool na,.string xa,.string ya],.agg #[.bool nb,.string xb,.string yb]] w fun e w'=>e=.returned (C (val na xa ya*val nb xb yb))∧Below w.heap.size w w':=by
 have HA:=hide (fun V=>rCanon_any na xa ya V (by omega) (by omega))
 have HB:=hide (fun V=>rCanon_any nb xb yb V (by omega) (by omega))
 have q1:=qw_val na xa ya
 have q2:=qw_val nb xb yb
 generalize val na xa ya=p at *
 generalize val nb xb yb=q at *
 have z1:=own_size p
 have z2:=own_size q
 have s1:=sz_mul p.num.natAbs q.num.natAbs
 have s3:=sz_mul p.den q.den
 have e1:(B p.num.natAbs).size=(nu p).size:=rfl
 have e2:(B p.den).size=(de p).size:=rfl
 have e3:(B q.num.natAbs).size=(nu q).size:=rfl
 have e4:(B q.den).size=(de q).size:=rfl
 have HS:Hid (val (sgn p !=sgn q) (B (p.num.natAbs*q.num.natAbs)) (B (p.den*q.den))=p*q):=by
  show _=_
  have e:=val_mul (sgn p) (sgn q) (nu p) (de p) (nu q) (de q)
  rw[val_own,val_own,N_nu,N_nu,N_de,N_de] at e
  rw[val,N_B,N_B,e]
 have HM1:=hide (fun (V:World)=>rMul_B (w:=V) (p.num.natAbs*q.num.natAbs) (Below.refl _ V) (by rw[N_nu,N_nu]) (show (nu p).size≤_ by omega) (show (nu q).size≤_ by omega))
 have HM3:=hide (fun (V:World)=>rMul_B (w:=V) (p.den*q.den) (Below.refl _ V) (by rw[N_de,N_de]) (show (de p).size≤_ by omega) (show (de q).size≤_ by omega))
 generalize p*q=r at *
 generalize p.num.natAbs*q.num.natAbs=X at *
 generalize p.den*q.den=D at *
 have t1:(B X).size≤200000:=by omega
 have t3:(B D).size≤200000:=by omega
 clear s1 s3 e1 e2 e3 e4 z1 z2 q1 q2 ha hb
 go_enter Tryz.func59,Tryz.ntmps59
 have hba:=((Box.at (w:=w) rfl na xa ya).alloc (FC nb xb yb)).alloc (FC false ⟨#[]⟩ ⟨#[]⟩)
 have hbb:=(Box.at (w:=w.alloc (FC na xa ya)) (g:=w.heap.size+1) (by simp) nb xb yb).alloc (FC false ⟨#[]⟩ ⟨#[]⟩)
 have hbr:=Box.at (w:=(w.alloc (FC na xa ya)).alloc (FC nb xb yb)) (g:=w.heap.size+2) (by simp) false ⟨#[]⟩ ⟨#[]⟩
 have hB0:Below w.heap.size w (((w.alloc (FC na xa ya)).alloc (FC nb xb yb)).alloc (FC false ⟨#[]⟩ ⟨#[]⟩)):=(((Below.refl _ w).alloc (Nat.le_refl _) _).alloc (by simp) _).alloc (by simp;omega) _
 go_wp2_with fail
 refine(HA.out _).mono ?_
 rintro e w1 ⟨rfl,hb1⟩
 have hba1:=hba.below hb1 hba.lt
 have hbb1:=(hbb.below hb1 hbb.lt).far3 (g':=w.heap.size) (by omega) (.bool (sgn p)) (.string (nu p)) (.string (de p))
 have hbr1:=(hbr.below hb1 hbr.lt).far3 (g':=w.heap.size) (by omega) (.bool (sgn p)) (.string (nu p)) (.string (de p))
 have hB1:=below_put (hB0.trans (hb1.mono hB0.size)) (Nat.le_refl _) (.bool (sgn p)) (.string (nu p)) (.string (de p))
 have hba2:=hba1.put (sgn p) (nu p) (de p)
 obtain⟨k0,k1,k2,f0,f1,f2⟩:=hba1.facts
 obtain⟨c0,c1,c2,_,_,_⟩:=hbb1.facts
 rw[C_eq]
 clear hba hbb hbr hB0 hba1 hb1
 go_wp2_with fail
 clear k0 k1 k2 f0 f1 f2 c0 c1 c2
 refine(HB.out _).mono ?_
 rintro e w2 ⟨rfl,hb2⟩
 have hbb2:=hbb1.below hb2 hbb1.lt
 have hba3:=(hba2.below hb2 hba2.lt).far3 (g':=w.heap.size+1) (by omega) (.bool (sgn q)) (.string (nu q)) (.string (de q))
 have hbr3:=(hbr1.below hb2 hbr1.lt).far3 (g':=w.heap.size+1) (by omega) (.bool (sgn q)) (.string (nu q)) (.string (de q))
 have hB3:=below_put (hB1.trans (hb2.mono hB1.size)) (g:=w.heap.size+1) (by omega) (.bool (sgn q)) (.string (nu q)) (.string (de q))
 have hbb3:=hbb2.put (sgn q) (nu q) (de q)
 obtain⟨k0,k1,k2,f0,f1,f2⟩:=hbb2.facts
 have ht:Tri w _ p q false ⟨#[]⟩ ⟨#[]⟩:=⟨hba3,hbb3,hbr3,hB3⟩
 obtain⟨c0,c1,c2,_,_,_⟩:=hba3.facts
 obtain⟨d0,d1,d2,_,_,_⟩:=hbb3.facts
 rw[C_eq]
 clear hba2 hbb1 hbr1 hB1 hbb2 hba3 hbr3 hB3 hbb3 hb2 HA HB
 go_wp2_with fail
 refine(HM1.out _).mono ?_
 rintro e w3 ⟨rfl,hb3⟩
 clear c0 c1 c2 d0 d1 d2 k0 k1 k2 f0 f1 f2
 have ht3:=ht.step hb3
 clear ht hb3 HM1
 obtain⟨c0,c1,c2,_,_,_⟩:=ht3.1.facts
 obtain⟨d0,d1,d2,_,_,_⟩:=ht3.2.1.facts
 go_wp2_with fail
 refine(HM3.out _).mono ?_
 rintro e w4 ⟨rfl,hb4⟩
 clear c0 c1 c2 d0 d1 d2
 have ht4:=ht3.step hb4
 clear ht3 hb4 HM3
 obtain⟨c0,c1,c2,_,_,_⟩:=ht4.1.facts
 obtain⟨d0,d1,d2,_,_,_⟩:=ht4.2.1.facts
 go_wp2_with fail
 refine(rMake_any (sgn p !=sgn q) (B X) (B D) _ (by omega) (by omega)).mono ?_
 rintro e w7 ⟨rfl,hb7⟩
 have ht7:=ht4.step hb7
 obtain⟨g0,g1,g2,i0,i1,i2⟩:=ht7.2.2.1.facts
 rw[HS.out,C_eq]
 go_wp2
 refine bodyPost_ret ((ht7.2.2.1.put _ _ _).result rfl _ rfl) rfl ?_
 exact⟨rfl,below_put ht7.2.2.2 (by omega) _ _ _⟩
theorem nu_zero {q:Rat} (h:q=0):nu q=⟨#[]⟩:=by subst h;exact B_zero
theorem nu_full {q:Rat} (h:¬q=0):(nu q).toList.isEmpty=false:=B_full (by rw[Ne,Int.natAbs_eq_zero,Rat.num_eq_zero];exact h)
set_option maxRecDepth 100000 in
set_option maxHeartbeats 1000000 in
theorem rZero_any (n:Bool) (x y:ByteArray) (w:World) (hx:x.size+y.size≤50000):
  Calls Tryz.prog 80 #[.agg #[.bool n,.string x,.string y]] w fun e w'=>e=.returned (.bool (decide (val n x y=0)))∧Below w.heap.size w w':=by
 have HC:=hide (fun V=>rCanon_any n x y V (by omega) (by omega))
 generalize val n x y=q at *
 have hz:(q=0∧decide (q=0)=true)∨(¬q=0∧decide (q=0)=false):=by
  by_cases h:q=0
  ·exact .inl ⟨h,decide_eq_true h⟩
  ·exact .inr ⟨h,decide_eq_false h⟩
 have HZ:=hide hz
 clear hz
 generalize decide (q=0)=t at *
 go_enter Tryz.func80,Tryz.ntmps80
 have hbx:=Box.at (w:=w) rfl n x y
 have hB0:Below w.heap.size w (w.alloc (FC n x y)):=(Below.refl _ w).alloc (Nat.le_refl _) _
 go_wp2_with fail
 refine(HC.out _).mono ?_
 rintro e w1 ⟨rfl,hb1⟩
 have hx1:=hbx.below hb1 hbx.lt
 have hB1:=below_put (hB0.trans (hb1.mono hB0.size)) (Nat.le_refl _) (.bool (sgn q)) (.string (nu q)) (.string (de q))
 obtain⟨k0,k1,k2,f0,f1,f2⟩:=hx1.facts
 rw[C_eq]
 rcases HZ.out with ⟨h,rfl⟩ |⟨h,rfl⟩
 ·have hn:=nu_zero h
  clear h HZ
  generalize nu q=nq at *
  subst hn
  go_wp2
  go_ret
  exact⟨rfl,hB1⟩
 ·have hn:=nu_full h
  clear h HZ
  go_wp2
  go_ret
  exact⟨rfl,hB1⟩
set_option maxRecDepth 100000 in
set_option maxHeartbeats 1000000 in
theorem rDivF_no (na nb:Bool) (xa ya xb yb:ByteArray) (w:World) (h:val nb xb yb=0) (hb:xb.size+yb.size≤50000):
  Calls Tryz.prog 82 #[.agg #[.bool na,.string xa,.string ya],.agg #[.bool nb,.string xb,.string yb]] w fun e w'=>e=.returned (.tuple #[.agg #[.bool false,.string ⟨#[]⟩,.string ⟨#[]⟩],.int .i64 3])∧Below w.heap.size w w':=by
 have HZ:=hide (fun V=>rZero_any nb xb yb V hb)
 rw[decide_eq_true h] at HZ
 clear h
 go_enter Tryz.func82,Tryz.ntmps82
 have hbr:=Box.at (w:=(w.alloc (FC na xa ya)).alloc (FC nb xb yb)) (g:=w.heap.size+2) (by simp) false ⟨#[]⟩ ⟨#[]⟩
 have hB0:Below w.heap.size w (((w.alloc (FC na xa ya)).alloc (FC nb xb yb)).alloc (FC false ⟨#[]⟩ ⟨#[]⟩)):=(((Below.refl _ w).alloc (Nat.le_refl _) _).alloc (by simp) _).alloc (by simp;omega) _
 go_wp2_with fail
 refine(HZ.out _).mono ?_
 rintro e w1 ⟨rfl,hb1⟩
 have hbr1:=hbr.below hb1 hbr.lt
 have hB1:=hB0.trans (hb1.mono hB0.size)
 obtain⟨k0,k1,k2,f0,f1,f2⟩:=hbr1.facts
 go_wp2
 refine bodyPost_ret ((hbr1.put _ _ _).result2 rfl _ rfl) rfl ?_
 exact⟨rfl,below_put hB1 (by omega) _ _ _⟩
set_option maxRecDepth 100000 in
set_option maxHeartbeats 1000000 in
theorem rDivF_yes (na nb:Bool) (xa ya xb yb:ByteArray) (w:World) (h:¬val nb xb yb=0) (ha:xa.size+ya.size≤40000) (hb:xb.size+yb.size≤40000):
  Calls Tryz.prog 82 #[.agg #[.bool na,.string xa,.string ya],.agg #[.bool nb,.string xb,.string yb]] w fun e w'=>e=.returned (.tuple #[C (val na xa ya/val nb xb yb),.int .i64 0])∧Below w.heap.size w w':=by
 have HZ:=hide (fun V=>rZero_any nb xb yb V (by omega))
 rw[decide_eq_false h] at HZ
 have HC:=hide (fun V=>rCanon_any nb xb yb V (by omega) (by omega))
 have q2:=qw_val nb xb yb
 generalize val nb xb yb=q at *
 have z2:=own_size q
 have HM:=hide (fun V=>rMulF_any na (sgn q) xa ya (de q) (nu q) V (by omega) (by omega))
 have hi:val (sgn q) (de q) (nu q)=q⁻¹:=by
  rw[val_inv (sgn q) (nu q) (de q) (by rw[N_nu,Ne,Int.natAbs_eq_zero,Rat.num_eq_zero];exact h) (by rw[N_de];exact q.den_nz),val_own]
 rw[hi,←Rat.div_def] at HM
 generalize val na xa ya/q=r at *
 clear hi h z2 q2 ha hb
 go_enter Tryz.func82,Tryz.ntmps82
 have hba:=((Box.at (w:=w) rfl na xa ya).alloc (FC nb xb yb)).alloc (FC false ⟨#[]⟩ ⟨#[]⟩)
 have hbb:=(Box.at (w:=w.alloc (FC na xa ya)) (g:=w.heap.size+1) (by simp) nb xb yb).alloc (FC false ⟨#[]⟩ ⟨#[]⟩)
 have hbr:=Box.at (w:=(w.alloc (FC na xa ya)).alloc (FC nb xb yb)) (g:=w.heap.size+2) (by simp) false ⟨#[]⟩ ⟨#[]⟩
 have hB0:Below w.heap.size w (((w.alloc (FC na xa ya)).alloc (FC nb xb yb)).alloc (FC false ⟨#[]⟩ ⟨#[]⟩)):=(((Below.refl _ w).alloc (Nat.le_refl _) _).alloc (by simp) _).alloc (by simp;omega) _
 go_wp2_with fail
 refine(HZ.out _).mono ?_
 rintro e w1 ⟨rfl,hb1⟩
 have hba1:=hba.below hb1 hba.lt
 have hbb1:=hbb.below hb1 hbb.lt
 have hbr1:=hbr.below hb1 hbr.lt
 have hB1:=hB0.trans (hb1.mono hB0.size)
 obtain⟨c0,c1,c2,_,_,_⟩:=hbb1.facts
 clear hba hbb hbr hB0 hb1
 go_wp2_with fail
 refine(HC.out _).mono ?_
 rintro e w2 ⟨rfl,hb2⟩
 have hba2:=(hba1.below hb2 hba1.lt).far3 (g':=w.heap.size+1) (by omega) (.bool (sgn q)) (.string (nu q)) (.string (de q))
 have hbb2:=hbb1.below hb2 hbb1.lt
 have hbr2:=(hbr1.below hb2 hbr1.lt).far3 (g':=w.heap.size+1) (by omega) (.bool (sgn q)) (.string (nu q)) (.string (de q))
 have hB2:=below_put (hB1.trans (hb2.mono hB1.size)) (g:=w.heap.size+1) (by omega) (.bool (sgn q)) (.string (nu q)) (.string (de q))
 clear c0 c1 c2 hba1 hbb1 hbr1 hB1 hb2
 obtain⟨k0,k1,k2,f0,f1,f2⟩:=hbb2.facts
 obtain⟨d0,d1,d2,_,_,_⟩:=hba2.facts
 rw[C_eq]
 go_wp2_with fail
 refine(HM.out _).mono ?_
 rintro e w3 ⟨rfl,hb3⟩
 have hbr3:=hbr2.below hb3 hbr2.lt
 have hB3:=hB2.trans (hb3.mono hB2.size)
 clear k0 k1 k2 f0 f1 f2 d0 d1 d2
 obtain⟨k0,k1,k2,f0,f1,f2⟩:=hbr3.facts
 rw[C_eq]
 go_wp2
 refine bodyPost_ret ((hbr3.put _ _ _).result2 rfl _ rfl) rfl ?_
 exact⟨rfl,below_put hB3 (by omega) _ _ _⟩
theorem cmp_sub (p q:Rat):cmpQ p q=if p - q=0 then 0 else if sgn (p - q)=true then -1 else 1:=by
 have hs:sgn (p - q)=true↔p - q<0:=by
  have h:=Rat.num_nonneg (q:=p - q)
  rw[sgn,decide_eq_true_iff]
  constructor
  ·intro h1;have h2:¬0≤p - q:=fun e=>absurd (h.2 e) (by omega)
   grind
  ·intro h1;have h2:¬0≤(p - q).num:=fun e=>absurd (h.1 e) (by grind)
   omega
 by_cases h:p - q=0
 ·rw[if_pos h,cmpQ,if_neg (by grind),if_pos (by grind)]
 ·rw[if_neg h]
  by_cases h1:p - q<0
  ·rw[if_pos (hs.2 h1),cmpQ,if_pos (by grind)]
  ·rw[if_neg (fun e=>h1 (hs.1 e)),cmpQ,if_neg (by grind),if_neg (by grind)]
set_option maxRecDepth 100000 in
set_option maxHeartbeats 1000000 in
theorem rCmpF_any (na nb:Bool) (xa ya xb yb:ByteArray) (w:World) (ha:xa.size+ya.size≤50000) (hb:xb.size+yb.size≤50000):
  Calls Tryz.prog 75 #[.agg #[.bool na,.string xa,.string ya],.agg #[.bool nb,.string xb,.string yb]] w fun e w'=>e=.returned (.int .i64 (cmpQ (val na xa ya) (val nb xb yb)))∧Below w.heap.size w w':=by
 have HS:=hide (fun V=>rSubF_any na nb xa ya xb yb V ha hb)
 have HK:=hide (cmp_sub (val na xa ya) (val nb xb yb))
 generalize cmpQ (val na xa ya) (val nb xb yb)=k at *
 generalize val na xa ya - val nb xb yb=d at *
 go_enter Tryz.func75,Tryz.ntmps75
 have hB0:Below w.heap.size w ((w.alloc (FC na xa ya)).alloc (FC nb xb yb)):=((Below.refl _ w).alloc (Nat.le_refl _) _).alloc (by simp) _
 go_wp2_with fail
 refine(HS.out _).mono ?_
 rintro e w1 ⟨rfl,hb1⟩
 have hB1:=hB0.trans (hb1.mono hB0.size)
 have hB2:=hB1.alloc hB1.size (FC (sgn d) (nu d) (de d))
 rw[C_eq]
 by_cases h:d=0
 ·rw[if_pos h] at HK
  have hn:=nu_zero h
  clear h
  generalize nu d=nd at *
  subst hn
  go_wp2
  go_ret
  exact⟨by rw[HK.out];rfl,hB2⟩
 ·rw[if_neg h] at HK
  have hn:=nu_full h
  clear h
  generalize sgn d=sd at *
  cases sd
  ·go_wp2
   go_ret
   exact⟨by rw[HK.out];rfl,hB2⟩
  ·go_wp2
   go_ret
   exact⟨by rw[HK.out];rfl,hB2⟩
theorem of_neg {k:Int} (h:k<0):C (mkRat k 1)=.agg #[.bool true,.string (B ((-(k+1)).toNat+1)),.string (B 1)]:=by
 have e:k=sg true ((-(k+1)).toNat+1):=by simp only[sg,if_true];omega
 have h1:=C_make true ((-(k+1)).toNat+1) 1 (by omega) (by decide)
 rw[←e,Nat.gcd_one_right,Nat.div_one,Nat.div_one] at h1
 exact h1
theorem of_pos (n:Nat):C (mkRat (n:Int) 1)=.agg #[.bool false,.string (B n),.string (B 1)]:=by
 by_cases h:n=0
 ·subst h;rw[show ((0:Nat):Int)=0 from rfl,Rat.zero_mkRat,C_zero,B_zero]
 ·have h1:=C_make false n 1 h (by decide)
  rw[Nat.gcd_one_right,Nat.div_one,Nat.div_one] at h1
  exact h1
set_option maxRecDepth 100000 in
set_option maxHeartbeats 1000000 in
theorem rOfF_any (k:Int) (w:World) (h0: -9223372036854775808≤k) (h1:k≤9223372036854775807):
  Calls Tryz.prog 35 #[.int .i64 k] w fun e w'=>e=.returned (C (mkRat k 1))∧Below w.heap.size w w':=by
 by_cases hk:k<0
 ·rw[of_neg hk]
  have HO:=hide (fun V=>rOf_any (-(k+1)) V (by omega) (by omega))
  have s1:(B (-(k+1)).toNat).size≤8:=by rw[B_size];exact bn_fits 8 _ (by show _<18446744073709551616;omega)
  have HA:=hide (fun V=>rAdd_any (B (-(k+1)).toNat) ⟨#[1]⟩ V (by omega) (by show 1≤_;omega))
  rw[N_B,show N ⟨#[1]⟩=1 from rfl] at HA
  rw[B_one]
  generalize (-(k+1)).toNat=n at *
  go_enter Tryz.func35,Tryz.ntmps35
  have hbr:=Box.at (w:=w) rfl false ⟨#[]⟩ ⟨#[]⟩
  have hB0:Below w.heap.size w (w.alloc (FC false ⟨#[]⟩ ⟨#[]⟩)):=(Below.refl _ w).alloc (Nat.le_refl _) _
  go_wp2_with fail
  refine(HO.out _).mono ?_
  rintro e w1 ⟨rfl,hb1⟩
  have hbr1:=hbr.below hb1 hbr.lt
  have hB1:=hB0.trans (hb1.mono hB0.size)
  go_wp2_with fail
  refine(HA.out _).mono ?_
  rintro e w2 ⟨rfl,hb2⟩
  have hbr2:=hbr1.below hb2 hbr1.lt
  have hB2:=hB1.trans (hb2.mono hB1.size)
  obtain⟨k0,k1,k2,f0,f1,f2⟩:=hbr2.facts
  go_wp2
  refine bodyPost_ret ((hbr2.put _ _ _).result rfl _ rfl) rfl ?_
  exact⟨rfl,below_put hB2 (by omega) _ _ _⟩
 ·obtain⟨n,rfl⟩:∃n:Nat,k=n:=⟨k.toNat,by omega⟩
  rw[of_pos n]
  have HO:=hide (fun V=>rOf_any (n:Int) V (by omega) (by omega))
  rw[Int.toNat_natCast] at HO
  rw[B_one]
  go_enter Tryz.func35,Tryz.ntmps35
  have hbr:=Box.at (w:=w) rfl false ⟨#[]⟩ ⟨#[]⟩
  have hB0:Below w.heap.size w (w.alloc (FC false ⟨#[]⟩ ⟨#[]⟩)):=(Below.refl _ w).alloc (Nat.le_refl _) _
  go_wp2_with fail
  refine(HO.out _).mono ?_
  rintro e w1 ⟨rfl,hb1⟩
  have hbr1:=hbr.below hb1 hbr.lt
  have hB1:=hB0.trans (hb1.mono hB0.size)
  obtain⟨k0,k1,k2,f0,f1,f2⟩:=hbr1.facts
  go_wp2
  refine bodyPost_ret ((hbr1.put _ _ _).result rfl _ rfl) rfl ?_
  exact⟨rfl,below_put hB1 (by omega) _ _ _⟩
end Go.Proofs.YtmbjmiioggfneaaGreatDoor

/- Sums of whole lists of fractions: package frac's and the document's answer. -/
namespace Go.Proofs.YtmbjmiioggfneaaGreatDoor
open Go.RowKit
def Fits (m:Nat) (q:Rat):Prop:=∃(A:Int) (D:Nat),D≠0∧q=mkRat A D∧D<256^m∧A.natAbs<256^m
theorem fits_qw {m:Nat} {q:Rat} (h:Fits m q):qw q≤2*m:=by
 obtain⟨A,D,hD,rfl,h1,h2⟩:=h
 rw[mk_norm hD]
 have:=qw_norm (n:=A) hD
 have a1:(B A.natAbs).size≤m:=by rw[B_size];exact bn_fits m _ h2
 have a2:(B D).size≤m:=by rw[B_size];exact bn_fits m _ h1
 omega
theorem pow_mono {m n:Nat} (h:m≤n):256^m≤256^n:=Nat.pow_le_pow_right (by decide) h
theorem fits_val (n:Bool) (x y:ByteArray):Fits (x.size+y.size+1) (val n x y):=by
 by_cases h:N y=0
 ·refine⟨0,1,by decide,by rw[val_den0 h,Rat.zero_mkRat],?_,?_⟩
  ·exact Nat.lt_of_lt_of_le (by decide:1<256^1) (pow_mono (by omega))
  ·exact Nat.pow_pos (by decide)
 ·refine⟨sg n (N x),N y,h,rfl,Nat.lt_of_lt_of_le (N_lt y) (pow_mono (by omega)),?_⟩
  rw[sg_natAbs]
  exact Nat.lt_of_lt_of_le (N_lt x) (pow_mono (by omega))
theorem fits_add {m k:Nat} {p q:Rat} (hp:Fits m p) (hq:Fits k q):Fits (m+k+1) (p+q):=by
 obtain⟨A,D,hD,rfl,h1,h2⟩:=hp
 obtain⟨A',D',hD',rfl,h3,h4⟩:=hq
 refine⟨A*D'+A'*D,D*D',Nat.mul_ne_zero hD hD',Rat.mkRat_add_mkRat _ _ hD hD',?_,?_⟩
 ·have:D*D'<256^m*256^k:=Nat.mul_lt_mul'' h1 h3
  rw[←Nat.pow_add] at this
  exact Nat.lt_of_lt_of_le this (pow_mono (by omega))
 ·have e1:A.natAbs*D'<256^m*256^k:=Nat.mul_lt_mul'' h2 h3
  have e2:A'.natAbs*D<256^k*256^m:=Nat.mul_lt_mul'' h4 h1
  rw[Nat.mul_comm (256^k)] at e2
  rw[←Nat.pow_add] at e1 e2
  have e3:(A*D'+A'*D).natAbs≤A.natAbs*D'+A'.natAbs*D:=by
   refine Nat.le_trans (Int.natAbs_add_le _ _) ?_
   rw[Int.natAbs_mul,Int.natAbs_mul]
   exact Nat.le_refl _
  rw[Nat.pow_succ]
  omega
abbrev Fr:Type:=Bool×ByteArray×ByteArray
def frv (f:Fr):Rat:=val f.1 f.2.1 f.2.2
def fw:List Fr→Nat
 |[]=>0
 |f::l=>f.2.1.size+f.2.2.size+2+fw l
def fsum (l:List Fr):Rat:=l.foldl (fun s f=>s+frv f) 0
theorem fsum_snoc (l:List Fr) (f:Fr):fsum (l++[f])=fsum l+frv f:=by simp[fsum]
theorem fw_append (a b:List Fr):fw (a++b)=fw a+fw b:=by
 induction a with
 |nil=>simp[fw]
 |cons f a ih=>simp only[List.cons_append,fw,ih];omega
theorem fw_take (l:List Fr) (k:Nat):fw (l.take k)≤fw l:=by
 have:=fw_append (l.take k) (l.drop k)
 rw[List.take_append_drop] at this
 omega
theorem fw_mem {l:List Fr} {f:Fr} (h:f∈l):f.2.1.size+f.2.2.size+2≤fw l:=by
 induction l with
 |nil=>cases h
 |cons g l ih=>
  rcases List.mem_cons.1 h with rfl |h
  ·simp only[fw];omega
  ·have:=ih h;simp only[fw];omega
theorem fits_sum (l:List Fr):Fits (fw l+1) (fsum l):=by
 induction l using snoc_ind with
 |h0=>exact⟨0,1,by decide,(Rat.zero_mkRat _).symm,by decide,by decide⟩
 |h1 l f ih=>
  rw[fsum_snoc,fw_append]
  have:=fits_add ih (fits_val f.1 f.2.1 f.2.2)
  have e:fw l+1+(f.2.1.size+f.2.2.size+1)+1=fw l+fw [f]+1:=by simp only[fw];omega
  rwa [e] at this
theorem take_one {l:List Fr} {k:Nat} (h:k<l.length):fsum (l.take (k+1))=fsum (l.take k)+frv l[k]:=by
 rw[List.take_succ_eq_append_getElem h,fsum_snoc]
def FrS (w:World) (a:Option Addr) (l:List Fr):Prop:=∀k (h:k<l.length),∃g o,a=some ⟨g,o,none⟩∧g<w.heap.size∧w.cell? ⟨g,o+k*3,none⟩=some (.bool l[k].1)∧w.cell? ⟨g,o+k*3+1,none⟩=some (.string l[k].2.1)∧w.cell? ⟨g,o+k*3+2,none⟩=some (.string l[k].2.2)
theorem FrS.below {w w':World} {a:Option Addr} {l:List Fr} (h:FrS w a l) (hb:Below w.heap.size w w'):FrS w' a l:=fun k hk=>by
 obtain⟨g,o,h1,h2,h3,h4,h5⟩:=h k hk
 exact⟨g,o,h1,Nat.lt_of_lt_of_le h2 hb.size,(hb.cell (p:=⟨g,_,none⟩) h2).trans h3,(hb.cell (p:=⟨g,_,none⟩) h2).trans h4,(hb.cell (p:=⟨g,_,none⟩) h2).trans h5⟩
set_option maxRecDepth 100000 in
set_option maxHeartbeats 1000000 in
theorem fSum_cw (a:Option Addr) (cap:Nat) (l:List Fr) (w:World) (h:FrS w a l) (hl:∀k (h:k<l.length),l[k].2.1.size+l[k].2.2.size≤40000) (hq:∀k,k≤l.length→qw (fsum (l.take k))≤40000) (hn:l.length≤10000):
  Calls Tryz.prog 64 #[.slice a l.length cap] w fun e w'=>e=.returned (C (fsum l))∧Below w.heap.size w w':=by
 have HF:=hide h
 have HL:=hide hl
 have HQ:=hide hq
 clear h hl hq
 have HFIN:Hid (fsum (l.take l.length)=fsum l):=by show _=_;rw[List.take_length]
 go_enter Tryz.func64,Tryz.ntmps64
 have hbr:=Box.at (w:=w) rfl false ⟨#[]⟩ ⟨#[]⟩
 have hB0:Below w.heap.size w (w.alloc (FC false ⟨#[]⟩ ⟨#[]⟩)):=(Below.refl _ w).alloc (Nat.le_refl _) _
 go_wp2_with fail
 refine(nought_any _).mono ?_
 rintro e w1 ⟨rfl,hb1⟩
 have hr1:=hbr.below hb1 hbr.lt
 have hB1:Below w.heap.size w w1:=hB0.trans (hb1.mono hB0.size)
 clear hbr hB0 hb1
 rw[C_eq]
 go_wp2_with fail
 have hlt1:=hr1.lt
 go_loopw [9] (fun iv wr=>∃k:Nat,k≤l.length∧iv=.int .i64 k∧Hid (Box wr w1.heap.size (sgn (fsum (l.take k))) (nu (fsum (l.take k))) (de (fsum (l.take k))))∧Hid (Box wr w.heap.size false ⟨#[]⟩ ⟨#[]⟩)∧Below w.heap.size w wr) (fun iv _=>l.length - (intOf iv).toNat)
 case atStart=>exact⟨0,Nat.zero_le _,rfl,Box.at rfl _ _ _,hr1.alloc _,hB1.alloc hB1.size _⟩
 case round=>
  obtain⟨k,hk,rfl,HS,HR,hBr⟩:=hrel
  by_cases hlt:k<l.length
  ·obtain⟨g,o,rfl,hg,c0,c1,c2⟩:=(HF.out.below hBr) k hlt
   have hstep:=take_one hlt
   have hmem:=HL.out k hlt
   have hfit:=HQ.out k hk
   have hz:=own_size (fsum (l.take k))
   have HADD:=hide (fun V=>fAdd_any (sgn (fsum (l.take k))) l[k].1 (nu (fsum (l.take k))) (de (fsum (l.take k))) l[k].2.1 l[k].2.2 V (by omega) (by omega) (by omega) (by omega))
   rw[val_own,show val l[k].1 l[k].2.1 l[k].2.2=frv l[k] from rfl,←hstep] at HADD
   have hbq:=HS.out
   clear HS hstep hmem hfit hz
   generalize l[k].1=fn at *
   generalize l[k].2.1=fx at *
   generalize l[k].2.2=fy at *
   obtain⟨k0,k1,k2,f0,f1,f2⟩:=hbq.facts
   have hgl:=hbq.lt
   go_wp2_with fail
   refine(HADD.out _).mono ?_
   rintro e w2 ⟨rfl,hb2⟩
   have hs2:=(hbq.alloc (FC fn fx fy)).below hb2 (hbq.alloc (FC fn fx fy)).lt
   have hr2:=(HR.out.alloc (FC fn fx fy)).below hb2 (HR.out.alloc (FC fn fx fy)).lt
   have hB2':=hBr.alloc hBr.size (FC fn fx fy)
   have hB2:Below w.heap.size w w2:=hB2'.trans (hb2.mono hB2'.size)
   clear k0 k1 k2 f0 f1 f2 c0 c1 c2
   obtain⟨k0,k1,k2,f0,f1,f2⟩:=hs2.facts
   rw[C_eq]
   go_wp2
   go_roundw
   case rel=>exact⟨k+1,by omega,by go_num,hs2.put _ _ _,hr2.far3 (by omega) _ _ _,below_put hB2 hB1.size _ _ _⟩
   case measure=>simp[intOf];omega
  ·obtain rfl:k=l.length:=by omega
   have hbq:=HS.out
   rw[HFIN.out] at hbq
   obtain⟨k0,k1,k2,f0,f1,f2⟩:=hbq.facts
   obtain⟨j0,j1,j2,i0,i1,i2⟩:=HR.out.facts
   go_wp2
   refine bodyPost_ret ((HR.out.put _ _ _).result rfl _ rfl) rfl ?_
   exact⟨rfl,below_put hBr (Nat.le_refl _) _ _ _⟩
theorem fSum_any (a:Option Addr) (cap:Nat) (l:List Fr) (w:World) (h:FrS w a l) (hl:fw l≤10000) (hn:l.length≤10000):
  Calls Tryz.prog 64 #[.slice a l.length cap] w fun e w'=>e=.returned (C (fsum l))∧Below w.heap.size w w':=
 fSum_cw a cap l w h (fun k hk=>by have:=fw_mem (List.getElem_mem hk);omega) (fun k _=>by have:=fits_qw (fits_sum (l.take k));have:=fw_take l k;omega) hn
set_option maxRecDepth 100000 in
set_option maxHeartbeats 2000000 in
theorem rSum_any (a:Option Addr) (cap:Nat) (l:List Fr) (w:World) (h:FrS w a l) (hl:fw l≤10000) (hn:l.length≤10000):
  Calls Tryz.prog 81 #[.slice a l.length cap] w fun e w'=>e=.returned (C (fsum l))∧Below w.heap.size w w':=by
 have HF:=hide h
 clear h
 have HFIN:Hid (fsum (l.take l.length)=fsum l):=by show _=_;rw[List.take_length]
 have HO:=hide (fun V=>rOfF_any 0 V (by omega) (by omega))
 rw[Rat.zero_mkRat] at HO
 go_enter Tryz.func81,Tryz.ntmps81
 have hbr:=Box.at (w:=w) rfl false ⟨#[]⟩ ⟨#[]⟩
 have hB0:Below w.heap.size w (w.alloc (FC false ⟨#[]⟩ ⟨#[]⟩)):=(Below.refl _ w).alloc (Nat.le_refl _) _
 go_wp2_with fail
 refine(HO.out _).mono ?_
 rintro e w1 ⟨rfl,hb1⟩
 have hr1:=hbr.below hb1 hbr.lt
 have hB1:Below w.heap.size w w1:=hB0.trans (hb1.mono hB0.size)
 clear hbr hB0 hb1
 rw[C_eq]
 go_wp2_with fail
 have hlt1:=hr1.lt
 go_loopw [4] (fun iv wr=>∃k:Nat,k≤l.length∧iv=.int .i64 k∧Hid (Box wr w1.heap.size (sgn (fsum (l.take k))) (nu (fsum (l.take k))) (de (fsum (l.take k))))∧Hid (Box wr w.heap.size false ⟨#[]⟩ ⟨#[]⟩)∧Below w.heap.size w wr) (fun iv _=>l.length - (intOf iv).toNat)
 case atStart=>exact⟨0,Nat.zero_le _,rfl,Box.at rfl _ _ _,hr1.alloc _,hB1.alloc hB1.size _⟩
 case round=>
  obtain⟨k,hk,rfl,HS,HR,hBr⟩:=hrel
  by_cases hlt:k<l.length
  ·obtain⟨g,o,rfl,hg,c0,c1,c2⟩:=(HF.out.below hBr) k hlt
   have hstep:=take_one hlt
   have hmem:=fw_mem (List.getElem_mem hlt)
   have hfit:=fits_qw (fits_sum (l.take k))
   have hft:=fw_take l k
   have hz:=own_size (fsum (l.take k))
   have HADD:=hide (fun V=>rAddF_any (sgn (fsum (l.take k))) l[k].1 (nu (fsum (l.take k))) (de (fsum (l.take k))) l[k].2.1 l[k].2.2 V (by omega) (by omega))
   rw[val_own,show val l[k].1 l[k].2.1 l[k].2.2=frv l[k] from rfl,←hstep] at HADD
   have hbq:=HS.out
   clear HS hstep hmem hfit hft hz
   generalize l[k].1=fn at *
   generalize l[k].2.1=fx at *
   generalize l[k].2.2=fy at *
   obtain⟨k0,k1,k2,f0,f1,f2⟩:=hbq.facts
   have hgl:=hbq.lt
   go_upto_region 5 with fail
   go_region_with (
     (go_at_call 55;refine(HADD.out _).mono ?_;rintro e w2 ⟨rfl,hb2⟩;have hs2:=hbq.drew.below hb2 hbq.lt;have hr2:=(Box.drew HR.out).below hb2 HR.out.lt;have hB2:=hBr.drew.trans (hb2.mono hBr.size);obtain⟨k0,k1,k2,f0,f1,f2⟩:=hs2.facts;rw[C_eq]))
   all_goals
    go_wp2
    go_roundw
    case rel=>exact⟨k+1,by omega,by go_num,hs2.put _ _ _,hr2.far3 (by omega) _ _ _,below_put hB2 hB1.size _ _ _⟩
    case measure=>simp[intOf];omega
  ·obtain rfl:k=l.length:=by omega
   have hbq:=HS.out
   rw[HFIN.out] at hbq
   obtain⟨k0,k1,k2,f0,f1,f2⟩:=hbq.facts
   obtain⟨j0,j1,j2,i0,i1,i2⟩:=HR.out.facts
   go_wp2
   refine bodyPost_ret ((HR.out.put _ _ _).result rfl _ rfl) rfl ?_
   exact⟨rfl,below_put hBr (Nat.le_refl _) _ _ _⟩
end Go.Proofs.YtmbjmiioggfneaaGreatDoor

/- Hidden chains, plainly: forward and backward meet; no way is likelier than the path that is found step by step. -/
namespace Go.Proofs.YtmbjmiioggfneaaGreatDoor
def sumR (f:Nat→Rat):Nat→Rat
 |0=>0
 |n+1=>sumR f n+f n
theorem sumR_congr {f g:Nat→Rat}:∀ {n:Nat},(∀i,i<n→f i=g i)→sumR f n=sumR g n
 |0,_=>rfl
 |n+1,h=>by rw[sumR,sumR,sumR_congr fun i hi=>h i (by omega),h n (by omega)]
theorem sumR_add (f g:Nat→Rat):∀n,sumR (fun i=>f i+g i) n=sumR f n+sumR g n
 |0=>by rw[sumR,sumR,sumR,Rat.add_zero]
 |n+1=>by
  rw[sumR,sumR,sumR,sumR_add f g n,Rat.add_assoc,Rat.add_assoc,←Rat.add_assoc (sumR g n),Rat.add_comm (sumR g n),Rat.add_assoc]
theorem sumR_mul (c:Rat) (f:Nat→Rat):∀n,sumR (fun i=>c*f i) n=c*sumR f n
 |0=>by rw[sumR,sumR,Rat.mul_zero]
 |n+1=>by rw[sumR,sumR,sumR_mul c f n,Rat.mul_add]
theorem sumR_mulR (c:Rat) (f:Nat→Rat) (n:Nat):sumR (fun i=>f i*c) n=sumR f n*c:=by
 rw[Rat.mul_comm,←sumR_mul]
 exact sumR_congr fun i _=>Rat.mul_comm _ _
theorem sumR_none:∀n,sumR (fun _=>0) n=0
 |0=>rfl
 |n+1=>by rw[sumR,sumR_none n,Rat.add_zero]
theorem sumR_swap (f:Nat→Nat→Rat) (m:Nat):∀n,sumR (fun i=>sumR (fun j=>f i j) m) n=sumR (fun j=>sumR (fun i=>f i j) n) m
 |0=>by rw[sumR];exact(sumR_none m).symm
 |n+1=>by
  rw[sumR,sumR_swap f m n,←sumR_add]
  rfl
theorem sumR_low {f:Nat→Rat}:∀ {n:Nat},(∀i,i<n→0≤f i)→0≤sumR f n
 |0,_=>Rat.le_refl
 |n+1,h=>Rat.add_nonneg (sumR_low fun i hi=>h i (by omega)) (h n (by omega))
theorem sumR_part {f:Nat→Rat}:∀ {n:Nat},(∀i,i<n→0≤f i)→∀i,i<n→f i≤sumR f n
 |0,_,i,hi=>absurd hi (by omega)
 |n+1,h,i,hi=>by
  rw[sumR]
  have h0:=sumR_low (n:=n) fun i hi=>h i (by omega)
  have hn:=h n (by omega)
  rcases Nat.lt_or_ge i n with h1 |h1
  ·have h2:=sumR_part (n:=n) (fun i hi=>h i (by omega)) i h1
   have h3:=(Rat.add_le_add_left (c:=sumR f n)).2 hn
   rw[Rat.add_zero] at h3
   exact Rat.le_trans h2 h3
  ·obtain rfl:i=n:=by omega
   have h3:=(Rat.add_le_add_right (c:=f i)).2 h0
   rwa [Rat.zero_add] at h3
theorem sumR_mono {f g:Nat→Rat}:∀ {n:Nat},(∀i,i<n→f i≤g i)→sumR f n≤sumR g n
 |0,_=>Rat.le_refl
 |n+1,h=>by
  rw[sumR,sumR]
  exact Rat.le_trans ((Rat.add_le_add_right (c:=f n)).2 (sumR_mono fun i hi=>h i (by omega))) ((Rat.add_le_add_left (c:=sumR g n)).2 (h n (by omega)))
theorem sumR_zero {f:Nat→Rat} {n:Nat} (h:∀i,i<n→f i=0):sumR f n=0:=by
 rw[sumR_congr h]
 exact sumR_none n
structure HC where
 s:Nat
 L:Nat
 st:Nat→Rat
 mv:Nat→Nat→Rat
 sh:Nat→Nat→Rat
variable {h:HC}
end Go.Proofs.YtmbjmiioggfneaaGreatDoor

/- Elimination, plainly: what chain.solve leaves solves the equations; of a chain that may leave from each state, or of what is still in a closed class, no step divides by 0. -/
namespace Go.Proofs.YtmbjmiioggfneaaGreatDoor
def elmS (k:Nat) (M:Nat→Nat→Rat):Nat→Nat→Rat:=fun i c=>if i=k then M k c/M k k else M i c - M k c/M k k*M i k
def elm (M:Nat→Nat→Rat):Nat→Nat→Nat→Rat
 |0=>M
 |k+1=>elmS k (elm M k)
def Sol (n:Nat) (M:Nat→Nat→Rat) (x:Nat→Rat):Prop:=∀i,i<n→sumR (fun j=>M i j*x j) n=M i n
theorem div_mulR {p q:Rat} (h:q≠0):p/q*q=p:=by rw[Rat.div_def,Rat.mul_assoc,Rat.inv_mul_cancel _ h,Rat.mul_one]
theorem sumR_sub (f g:Nat→Rat) (n:Nat):sumR (fun i=>f i - g i) n=sumR f n - sumR g n:=by
 have h:sumR (fun i=>f i - g i) n+sumR g n=sumR f n:=by
  rw[←sumR_add]
  exact sumR_congr fun i _=>by grind
 grind
theorem elmS_sol {n k:Nat} {M:Nat→Nat→Rat} {x:Nat→Rat} (hk:k<n) (hp:M k k≠0) (h:Sol n (elmS k M) x):Sol n M x:=by
 have hkk:sumR (fun j=>M k j*x j) n=M k n:=by
  have h1:=h k hk
  simp only[elmS,if_pos] at h1
  have h2:sumR (fun j=>M k j*x j) n=M k k*sumR (fun j=>M k j/M k k*x j) n:=by
   rw[←sumR_mul]
   refine sumR_congr fun j _=>?_
   rw[←Rat.mul_assoc,Rat.mul_comm (M k k),div_mulR hp]
  rw[h2,h1,Rat.mul_comm,div_mulR hp]
 intro i hi
 by_cases e:i=k
 ·subst e;exact hkk
 ·have h1:=h i hi
  simp only[elmS,if_neg e] at h1
  have h2:sumR (fun j=>(M i j - M k j/M k k*M i k)*x j) n=sumR (fun j=>M i j*x j) n - M i k/M k k*sumR (fun j=>M k j*x j) n:=by
   rw[←sumR_mul,←sumR_sub]
   exact sumR_congr fun j _=>by rw[Rat.div_def,Rat.div_def];grind
  rw[h2,hkk] at h1
  rw[Rat.div_def,Rat.div_def] at h1
  grind
theorem elm_sol {n:Nat} {M:Nat→Nat→Rat} {x:Nat→Rat}:∀k,k≤n→(∀j,j<k→elm M j j j≠0)→Sol n (elm M k) x→Sol n M x
 |0,_,_,h=>h
 |k+1,hk,hp,h=>elm_sol k (by omega) (fun j hj=>hp j (by omega)) (elmS_sol (by omega) (hp k (by omega)) h)
def UnitM (n k:Nat) (M:Nat→Nat→Rat):Prop:=∀i,i<n→∀j,j<k→M i j=if i=j then 1 else 0
theorem elmS_unit {n k:Nat} {M:Nat→Nat→Rat} (hk:k<n) (hp:M k k≠0) (h:UnitM n k M):UnitM n (k+1) (elmS k M):=by
 intro i hi j hj
 rcases Nat.lt_or_ge j k with h1 |h1
 ·have hkj:M k j=0:=by rw[h k hk j h1,if_neg (by omega)]
  by_cases e:i=k
  ·subst e
   rw[elmS,if_pos rfl,hkj,if_neg (by omega),Rat.div_def,Rat.zero_mul]
  ·rw[elmS,if_neg e,hkj,h i hi j h1,Rat.div_def,Rat.zero_mul,Rat.zero_mul]
   grind
 ·obtain rfl:j=k:=by omega
  by_cases e:i=j
  ·subst e
   rw[elmS,if_pos rfl,if_pos rfl,Rat.div_def,Rat.mul_inv_cancel _ hp]
  ·rw[elmS,if_neg e,if_neg e,Rat.div_def,Rat.mul_inv_cancel _ hp,Rat.one_mul]
   grind
theorem elm_unit {n:Nat} {M:Nat→Nat→Rat}:∀k,k≤n→(∀j,j<k→elm M j j j≠0)→UnitM n k (elm M k)
 |0,_,_=>fun i _ j hj=>absurd hj (by omega)
 |k+1,hk,hp=>elmS_unit (by omega) (hp k (by omega)) (elm_unit k (by omega) fun j hj=>hp j (by omega))
theorem sumR_one {n i:Nat} (x:Nat→Rat) (hi:i<n):sumR (fun j=>(if i=j then 1 else 0)*x j) n=x i:=by
 have key:∀n,sumR (fun j=>(if i=j then(1:Rat) else 0)*x j) n=if i<n then x i else 0:=fun n=>by
  induction n with
  |zero=>rfl
  |succ n ih=>
   rw[sumR,ih]
   by_cases h1:i=n
   ·subst h1
    rw[if_neg (by omega),if_pos rfl,if_pos (by omega),Rat.one_mul,Rat.zero_add]
   ·rw[if_neg h1,Rat.zero_mul,Rat.add_zero]
    by_cases h2:i<n
    ·rw[if_pos h2,if_pos (by omega)]
    ·rw[if_neg h2,if_neg (by omega)]
 rw[key,if_pos hi]
theorem elm_solves {n:Nat} {M:Nat→Nat→Rat} (hp:∀j,j<n→elm M j j j≠0):Sol n M fun i=>elm M n i n:=by
 refine elm_sol n (Nat.le_refl _) hp fun i hi=>?_
 have hu:=elm_unit n (Nat.le_refl _) hp
 rw[sumR_congr (g:=fun j=>(if i=j then 1 else 0)*elm M n j n) fun j hj=>by rw[hu i hi j hj]]
 exact sumR_one (fun j=>elm M n j n) hi
def tailR (f:Nat→Rat) (k n:Nat):Rat:=sumR f n - sumR f k
theorem tailR_head (f:Nat→Rat) {k n:Nat}:tailR f k n=f k+tailR f (k+1) n:=by
 rw[tailR,tailR,sumR]
 grind
theorem tailR_low {f:Nat→Rat} {k:Nat}:∀ {n:Nat},k≤n→(∀j,k≤j→j<n→0≤f j)→0≤tailR f k n:=by
 intro n hn h
 obtain⟨d,rfl⟩:=Nat.exists_eq_add_of_le hn
 clear hn
 induction d with
 |zero=>rw[Nat.add_zero,tailR];grind
 |succ d ih=>
  have h1:=ih fun j h1 h2=>h j h1 (by omega)
  have h2:=h (k+d) (by omega) (by omega)
  have e:tailR f k (k+(d+1))=tailR f k (k+d)+f (k+d):=by
   rw[tailR,tailR,←Nat.add_assoc,sumR]
   grind
  rw[e]
  exact Rat.add_nonneg h1 h2
theorem tailR_part {f:Nat→Rat} {k n j:Nat} (hk:k≤j) (hj:j<n) (h:∀i,k≤i→i<n→0≤f i):f j≤tailR f k n:=by
 have h1:=tailR_low (f:=f) (k:=k) (n:=j) hk fun i h1 h2=>h i h1 (by omega)
 have h2:=tailR_low (f:=f) (k:=j+1) (n:=n) (by omega) fun i h1 h2=>h i (by omega) h2
 have e:tailR f k n=tailR f k j+(f j+tailR f (j+1) n):=by rw[tailR,tailR,tailR,sumR];grind
 rw[e]
 grind
structure Wt (n k:Nat) (M:Nat→Nat→Rat):Prop where
 low:∀i,k≤i→i<n→∀j,k≤j→j<n→i≠j→0≤M i j
 sum:∀i,k≤i→i<n→tailR (M i) k n≤0
 trap:∀C:Nat→Prop,(∃i,k≤i∧i<n∧C i)→∃i,k≤i∧i<n∧C i∧(tailR (M i) k n<0∨∃j,k≤j∧j<n∧¬C j∧0<M i j)
theorem Wt.pivot {n k:Nat} {M:Nat→Nat→Rat} (h:Wt n k M) (hk:k<n):M k k<0:=by
 obtain⟨i,h1,h2,rfl,h4⟩:=h.trap (fun i=>i=k) ⟨k,Nat.le_refl _,hk,rfl⟩
 have hs:=h.sum i (Nat.le_refl _) hk
 have hl:0≤tailR (M i) (i+1) n:=tailR_low (by omega) fun j q1 q2=>h.low i (Nat.le_refl _) hk j (by omega) q2 (by omega)
 rw[tailR_head] at hs
 rcases h4 with h4 |⟨j,q1,q2,q3,q4⟩
 ·rw[tailR_head] at h4
  grind
 ·have hj:i+1≤j:=by
   rcases Nat.lt_or_ge i j with q5 |q5
   ·exact q5
   ·exact absurd (by omega:j=i) q3
  have:=tailR_part (f:=M i) hj q2 fun a q5 q6=>h.low i (Nat.le_refl _) hk a (by omega) q6 (by omega)
  grind
theorem tailR_sub (f g:Nat→Rat) (k n:Nat):tailR (fun i=>f i - g i) k n=tailR f k n - tailR g k n:=by
 rw[tailR,tailR,tailR,sumR_sub,sumR_sub]
 grind
theorem tailR_mulR (c:Rat) (f:Nat→Rat) (k n:Nat):tailR (fun i=>f i*c) k n=tailR f k n*c:=by
 rw[tailR,tailR,sumR_mulR,sumR_mulR]
 grind
theorem tailR_congr {f g:Nat→Rat} {k n:Nat} (hk:k≤n) (h:∀i,k≤i→i<n→f i=g i):tailR f k n=tailR g k n:=by
 have h1:0≤tailR (fun i=>f i - g i) k n:=tailR_low hk fun i q1 q2=>by rw[h i q1 q2];grind
 have h2:0≤tailR (fun i=>g i - f i) k n:=tailR_low hk fun i q1 q2=>by rw[h i q1 q2];grind
 rw[tailR_sub] at h1 h2
 grind
theorem inv_low {q:Rat} (hq:q<0):q⁻¹<0:=by
 have h1:q*q⁻¹=1:=Rat.mul_inv_cancel _ (by grind)
 by_cases h:q⁻¹<0
 ·exact h
 ·have h2:0≤ -q*q⁻¹:=Rat.mul_nonneg (by grind) (Rat.not_lt.1 h)
  rw[Rat.neg_mul,h1] at h2
  exact absurd h2 (by decide)
theorem quot_low {p q r:Rat} (hp:0≤p) (hq:q<0) (hr:0≤r):0≤ -(p/q*r):=by
 have h1:=inv_low hq
 have h3:0≤p*(-q⁻¹)*r:=Rat.mul_nonneg (Rat.mul_nonneg hp (by grind)) hr
 rw[Rat.div_def]
 grind
theorem quot_pos {p q r:Rat} (hp:0<p) (hq:q<0) (hr:0<r):0 < -(p/q*r):=by
 have h1:=inv_low hq
 have h3:0<p*(-q⁻¹)*r:=Rat.mul_pos (Rat.mul_pos hp (by grind)) hr
 rw[Rat.div_def]
 grind
theorem Wt.step {n k:Nat} {M:Nat→Nat→Rat} (h:Wt n k M) (hk:k<n):Wt n (k+1) (elmS k M):=by
 have hp:=h.pivot hk
 have hne:M k k≠0:=by grind
 have ev:∀i,k+1≤i→∀j,elmS k M i j=M i j - M k j/M k k*M i k:=fun i hi j=>by rw[elmS,if_neg (by omega)]
 have es:∀i,k+1≤i→i<n→tailR (elmS k M i) (k+1) n=tailR (M i) k n - tailR (M k) k n/M k k*M i k:=fun i hi hn=>by
  have e1:tailR (elmS k M i) (k+1) n=tailR (fun j=>M i j - M k j*(M i k/M k k)) (k+1) n:=tailR_congr (by omega) fun j q1 q2=>by rw[ev i hi j,Rat.div_def,Rat.div_def];grind
  rw[e1,tailR_sub,tailR_mulR,tailR_head (f:=M i) (k:=k),tailR_head (f:=M k) (k:=k)]
  have e2:M k k*(M i k/M k k)=M i k:=by rw[Rat.mul_comm,div_mulR hne]
  rw[Rat.div_def,Rat.div_def] at *
  grind
 have hik:∀i,k+1≤i→i<n→0≤M i k:=fun i h1 h2=>h.low i (by omega) h2 k (Nat.le_refl _) hk (by omega)
 have hkj:∀j,k+1≤j→j<n→0≤M k j:=fun j h1 h2=>h.low k (Nat.le_refl _) hk j (by omega) h2 (by omega)
 have hsk:0≤ -tailR (M k) k n:=by have:=h.sum k (Nat.le_refl _) hk;grind
 refine⟨fun i h1 h2 j h3 h4 h5=>?_,fun i h1 h2=>?_,fun C hC=>?_⟩
 ·rw[ev i h1 j]
  have q1:=h.low i (by omega) h2 j (by omega) h4 h5
  have q2:=quot_low (hkj j h3 h4) hp (hik i h1 h2)
  grind
 ·rw[es i h1 h2]
  have q1:=h.sum i (by omega) h2
  have q2:=quot_low hsk hp (hik i h1 h2)
  rw[Rat.div_def] at *
  grind
 ·have leave:∀i,k+1≤i→i<n→tailR (M i) k n<0→tailR (elmS k M i) (k+1) n<0:=fun i h1 h2 q=>by
   rw[es i h1 h2]
   have q2:=quot_low hsk hp (hik i h1 h2)
   rw[Rat.div_def] at *
   grind
  have goes:∀i,k+1≤i→i<n→∀j,k+1≤j→j<n→0<M i j→0<elmS k M i j:=fun i h1 h2 j h3 h4 q=>by
   rw[ev i h1 j]
   have q2:=quot_low (hkj j h3 h4) hp (hik i h1 h2)
   grind
  obtain⟨i0,c1,c2,c3⟩:=hC
  by_cases hin:∃i,k+1≤i∧i<n∧C i∧0<M i k
  ·obtain⟨i,h1,h2,h3,h4⟩:=hin
   obtain⟨a,a1,a2,a3,a4⟩:=h.trap (fun j=>j=k∨k+1≤j∧C j) ⟨k,Nat.le_refl _,hk,.inl rfl⟩
   have out:∀j,k≤j→¬(j=k∨k+1≤j∧C j)→k+1≤j∧¬C j:=fun j q1 q2=>by
    have q3:j≠k:=fun e=>q2 (.inl e)
    exact⟨by omega,fun e=>q2 (.inr ⟨by omega,e⟩)⟩
   rcases a3 with rfl |⟨b1,b2⟩
   ·refine⟨i,h1,h2,h3,?_⟩
    rcases a4 with a4 |⟨j,j1,j2,j3,j4⟩
    ·left
     rw[es i h1 h2]
     have q1:=h.sum i (by omega) h2
     have q2:=quot_pos (p:= -tailR (M a) a n) (by grind) hp h4
     rw[Rat.div_def] at *
     grind
    ·right
     obtain⟨o1,o2⟩:=out j j1 j3
     refine⟨j,o1,j2,o2,?_⟩
     rw[ev i h1 j]
     have q1:0≤M i j:=h.low i (by omega) h2 j (by omega) j2 (fun e=>o2 (e▸h3))
     have q2:=quot_pos j4 hp h4
     grind
   ·refine⟨a,b1,a2,b2,?_⟩
    rcases a4 with a4 |⟨j,j1,j2,j3,j4⟩
    ·exact .inl (leave a b1 a2 a4)
    ·obtain⟨o1,o2⟩:=out j j1 j3
     exact .inr ⟨j,o1,j2,o2,goes a b1 a2 j o1 j2 j4⟩
  ·obtain⟨a,a1,a2,a3,a4⟩:=h.trap (fun j=>k+1≤j∧C j) ⟨i0,by omega,c2,c1,c3⟩
   refine⟨a,a3.1,a2,a3.2,?_⟩
   rcases a4 with a4 |⟨j,j1,j2,j3,j4⟩
   ·exact .inl (leave a a3.1 a2 a4)
   ·have q1:j≠k:=fun e=>hin ⟨a,a3.1,a2,a3.2,e▸j4⟩
    exact .inr ⟨j,by omega,j2,fun e=>j3 ⟨by omega,e⟩,goes a a3.1 a2 j (by omega) j2 j4⟩
theorem Wt.all {n:Nat} {M:Nat→Nat→Rat} (h:Wt n 0 M):∀k,k≤n→Wt n k (elm M k)
 |0,_=>h
 |k+1,hk=>(h.all k (by omega)).step (by omega)
theorem Wt.solves {n:Nat} {M:Nat→Nat→Rat} (h:Wt n 0 M):Sol n M fun i=>elm M n i n:=
 elm_solves fun j hj=>by have:=(h.all j (by omega)).pivot hj;grind
theorem Wt.congr {n k:Nat} {M M':Nat→Nat→Rat} (h:Wt n k M) (hk:k≤n) (e:∀i,k≤i→i<n→∀j,k≤j→j<n→M' i j=M i j):Wt n k M':=by
 have es:∀i,k≤i→i<n→tailR (M' i) k n=tailR (M i) k n:=fun i h1 h2=>tailR_congr hk fun j q1 q2=>e i h1 h2 j q1 q2
 refine⟨fun i h1 h2 j h3 h4 h5=>by rw[e i h1 h2 j h3 h4];exact h.low i h1 h2 j h3 h4 h5,fun i h1 h2=>by rw[es i h1 h2];exact h.sum i h1 h2,fun C hC=>?_⟩
 obtain⟨i,h1,h2,h3,h4⟩:=h.trap C hC
 refine⟨i,h1,h2,h3,?_⟩
 rcases h4 with h4 |⟨j,q1,q2,q3,q4⟩
 ·exact .inl (by rw[es i h1 h2];exact h4)
 ·exact .inr ⟨j,q1,q2,q3,by rw[e i h1 h2 j q1 q2];exact q4⟩
structure Stl (n k:Nat) (M:Nat→Nat→Rat):Prop where
 wt:Wt (n - 1) k fun i j=>M j i
 col:∀j,k≤j→j< n - 1→0≤M j (n - 1)
 last:∀i,k≤i→i<n→0<M (n - 1) i
theorem Stl.step {n k:Nat} {M:Nat→Nat→Rat} (h:Stl n k M) (hk:k< n - 1):Stl n (k+1) (elmS k M):=by
 have hp:M k k<0:=h.wt.pivot hk
 have ev:∀i,k+1≤i→∀j,elmS k M i j=M i j - M k j/M k k*M i k:=fun i hi j=>by rw[elmS,if_neg (by omega)]
 have hjk:∀j,k+1≤j→j< n - 1→0≤M j k:=fun j h1 h2=>h.wt.low k (Nat.le_refl _) hk j (by omega) h2 (by omega)
 have hki:∀i,k+1≤i→i<n→0≤M k i:=fun i h1 h2=>by
  by_cases e:i=n - 1
  ·rw[e];exact h.col k (Nat.le_refl _) hk
  ·exact h.wt.low i (by omega) (by omega) k (Nat.le_refl _) hk (by omega)
 refine⟨(h.wt.step hk).congr (by omega) fun i h1 h2 j h3 h4=>?_,fun j h1 h2=>?_,fun i h1 h2=>?_⟩
 ·rw[ev j h3 i,elmS,if_neg (by omega)]
  simp only[Rat.div_def]
  grind
 ·rw[ev j h1]
  have q1:=h.col j (by omega) h2
  have q2:=quot_low (hki (n - 1) (by omega) (by omega)) hp (hjk j h1 h2)
  grind
 ·rw[ev (n - 1) (by omega)]
  have q1:=h.last i (by omega) h2
  have q2:=quot_low (hki i h1 h2) hp (Rat.le_of_lt (h.last k (by omega) (by omega)))
  grind
theorem Stl.all {n:Nat} {M:Nat→Nat→Rat} (h:Stl n 0 M):∀k,k≤n - 1→Stl n k (elm M k)
 |0,_=>h
 |k+1,hk=>(h.all k (by omega)).step (by omega)
theorem Stl.solves {n:Nat} {M:Nat→Nat→Rat} (h:Stl n 0 M) (hn:1≤n):Sol n M fun i=>elm M n i n:=
 elm_solves fun j hj=>by
  by_cases e:j=n - 1
  ·have:=(h.all (n - 1) (Nat.le_refl _)).last (n - 1) (Nat.le_refl _) (by omega)
   rw[e]
   grind
  ·have:elm M j j j<0:=(h.all j (by omega)).wt.pivot (by omega)
   grind
end Go.Proofs.YtmbjmiioggfneaaGreatDoor

/- Chains, plainly: which states come to which; the equations of what is come to, and of what is still in a class, may be solved; what solves them is not below 0. -/
namespace Go.Proofs.YtmbjmiioggfneaaGreatDoor
def wsh (R:Nat→Nat→Bool):Nat→Nat→Nat→Bool
 |0=>R
 |k+1=>fun i j=>wsh R k i j ||wsh R k i k&&wsh R k k j
theorem wsh_mono (R:Nat→Nat→Bool):∀ {k i j:Nat},R i j=true→wsh R k i j=true
 |0,_,_,h=>h
 |k+1,i,j,h=>by
  show (wsh R k i j ||wsh R k i k&&wsh R k k j)=true
  rw[wsh_mono R h,Bool.true_or]
theorem wsh_via (R:Nat→Nat→Bool):∀ {k m i j:Nat},m<k→wsh R k i m=true→wsh R k m j=true→wsh R k i j=true
 |0,_,_,_,h,_,_=>absurd h (by omega)
 |k+1,m,i,j,hm,h1,h2=>by
  have hk:=fun {a b c:Nat}=>wsh_via R (k:=k) (m:=a) (i:=b) (j:=c)
  rw[wsh] at h1 h2⊢
  simp only[Bool.or_eq_true,Bool.and_eq_true] at h1 h2⊢
  by_cases e:m=k
  ·subst e
   have q1:wsh R m i m=true:=by rcases h1 with h |h;exact h;exact h.1
   have q2:wsh R m m j=true:=by rcases h2 with h |h;exact h;exact h.2
   exact .inr ⟨q1,q2⟩
  ·have hlt:m<k:=by omega
   rcases h1 with h1 |h1
   ·rcases h2 with h2 |h2
    ·exact .inl (hk hlt h1 h2)
    ·exact .inr ⟨hk hlt h1 h2.1,h2.2⟩
   ·rcases h2 with h2 |h2
    ·exact .inr ⟨h1.1,hk hlt h1.2 h2⟩
    ·exact .inr ⟨h1.1,h2.2⟩
theorem wsh_shut (R:Nat→Nat→Bool) {S:Nat→Prop} {n:Nat} (hS:∀i j,i<n→j<n→S i→R i j=true→S j):∀ {k i j:Nat},k≤n→i<n→j<n→S i→wsh R k i j=true→S j
 |0,i,j,_,hi,hj,h,hw=>hS i j hi hj h hw
 |k+1,i,j,hk,hi,hj,h,hw=>by
  rw[wsh] at hw
  simp only[Bool.or_eq_true,Bool.and_eq_true] at hw
  rcases hw with hw |hw
  ·exact wsh_shut R hS (by omega) hi hj h hw
  ·exact wsh_shut R hS (by omega) (by omega) hj (wsh_shut R hS (by omega) hi (by omega) h hw.1) hw.2
theorem wsh_row (R:Nat→Nat→Bool) (k j:Nat):wsh R (k+1) k j=wsh R k k j:=by
 show (wsh R k k j ||wsh R k k k&&wsh R k k j)=wsh R k k j
 cases wsh R k k j<;>simp
theorem wsh_col (R:Nat→Nat→Bool) (k i:Nat):wsh R (k+1) i k=wsh R k i k:=by
 show (wsh R k i k ||wsh R k i k&&wsh R k k k)=wsh R k i k
 cases wsh R k i k<;>simp
structure Chn (n:Nat) (P:Nat→Nat→Rat):Prop where
 low:∀i j,i<n→j<n→0≤P i j
 one:∀i,i<n→sumR (P i) n=1
def stepB (P:Nat→Nat→Rat):Nat→Nat→Bool:=fun i j=>decide (i=j) ||decide (0<P i j)
def cmsB (n:Nat) (P:Nat→Nat→Rat):Nat→Nat→Bool:=wsh (stepB P) n
theorem cms_self (n:Nat) (P:Nat→Nat→Rat) (i:Nat):cmsB n P i i=true:=wsh_mono _ (by simp[stepB])
theorem cms_step (n:Nat) (P:Nat→Nat→Rat) {i j:Nat} (h:0<P i j):cmsB n P i j=true:=wsh_mono _ (by simp[stepB,h])
theorem cms_trans {n:Nat} {P:Nat→Nat→Rat} {i m j:Nat} (hm:m<n) (h1:cmsB n P i m=true) (h2:cmsB n P m j=true):cmsB n P i j=true:=wsh_via _ hm h1 h2
theorem cms_shut {n:Nat} {P:Nat→Nat→Rat} {S:Nat→Prop} (hS:∀i j,i<n→j<n→S i→0<P i j→S j) {i j:Nat} (hi:i<n) (hj:j<n) (h:S i) (hc:cmsB n P i j=true):S j:=by
 refine wsh_shut (stepB P) (S:=S) (n:=n) (fun a b ha hb hsa hab=>?_) (Nat.le_refl _) hi hj h hc
 simp only[stepB,Bool.or_eq_true,decide_eq_true_eq] at hab
 rcases hab with rfl |hab
 ·exact hsa
 ·exact hS a b ha hb hsa hab
theorem sumR_out (f:Nat→Rat) {x:Nat}:∀ {n:Nat},x<n→sumR f n=f x+sumR (fun j=>if j=x then 0 else f j) n
 |0,h=>absurd h (by omega)
 |n+1,h=>by
  rw[sumR,sumR]
  by_cases e:n=x
  ·subst e
   rw[if_pos rfl,sumR_congr (f:=fun j=>if j=n then 0 else f j) (g:=f) fun i hi=>if_neg (by omega)]
   grind
  ·have hx:x<n:=by omega
   rw[if_neg e,sumR_out f hx]
   grind
def lsm (f:Nat→Rat):List Nat→Rat
 |[]=>0
 |x::l=>f x+lsm f l
theorem lsm_congr {f g:Nat→Rat}:∀ {l:List Nat},(∀x∈l,f x=g x)→lsm f l=lsm g l
 |[],_=>rfl
 |x::l,h=>by rw[lsm,lsm,h x List.mem_cons_self,lsm_congr fun y hy=>h y (List.mem_cons_of_mem _ hy)]
theorem lsm_le {n:Nat}:∀ {l:List Nat} {f:Nat→Rat},(∀i,i<n→0≤f i)→l.Nodup→(∀x∈l,x<n)→lsm f l≤sumR f n
 |[],f,hf,_,_=>sumR_low hf
 |x::l,f,hf,hn,hl=>by
  rw[lsm,sumR_out f (hl x List.mem_cons_self)]
  have hx:x∉l:=(List.nodup_cons.1 hn).1
  have h1:lsm f l=lsm (fun j=>if j=x then 0 else f j) l:=lsm_congr fun y hy=>(if_neg (fun e:y=x=>hx (e▸hy))).symm
  rw[h1]
  have h2:=lsm_le (l:=l) (f:=fun j=>if j=x then 0 else f j) (fun i hi=>by
   by_cases e:i=x
   ·rw[if_pos e];exact Rat.le_refl
   ·rw[if_neg e];exact hf i hi) (List.nodup_cons.1 hn).2 fun y hy=>hl y (List.mem_cons_of_mem _ hy)
  grind
theorem lsm_rest {n:Nat} {l:List Nat} {f:Nat→Rat} (hf:∀i,i<n→0≤f i) (hn:l.Nodup) (hl:∀x∈l,x<n) (he:sumR f n≤lsm f l) {j:Nat} (hj:j<n) (hjl:j∉l):f j=0:=by
 have h1:=lsm_le (l:=j::l) hf (List.nodup_cons.2 ⟨hjl,hn⟩) fun x hx=>by
  rcases List.mem_cons.1 hx with rfl |hx
  ·exact hj
  ·exact hl x hx
 rw[lsm] at h1
 have h2:=hf j hj
 grind
theorem lsm_all {n:Nat} {l:List Nat} {f:Nat→Rat} (hf:∀i,i<n→0≤f i) (hn:l.Nodup) (hl:∀x∈l,x<n) (hz:∀j,j<n→j∉l→f j=0):lsm f l=sumR f n:=by
 induction l generalizing f with
 |nil=>exact(sumR_zero fun i hi=>hz i hi (by simp)).symm
 |cons x l ih=>
  have hx:x∉l:=(List.nodup_cons.1 hn).1
  rw[lsm,sumR_out f (hl x List.mem_cons_self),lsm_congr (g:=fun j=>if j=x then 0 else f j) fun y hy=>(if_neg (fun e:y=x=>hx (e▸hy))).symm]
  congr 1
  refine ih (fun i hi=>?_) (List.nodup_cons.1 hn).2 (fun y hy=>hl y (List.mem_cons_of_mem _ hy)) fun j hj hjl=>?_
  ·by_cases e:i=x
   ·rw[if_pos e];exact Rat.le_refl
   ·rw[if_neg e];exact hf i hi
  ·by_cases e:j=x
   ·rw[if_pos e]
   ·rw[if_neg e]
    exact hz j hj (by simp[e,hjl])
theorem lsm_at (f:Nat→Rat):∀l:List Nat,sumR (fun k=>f (l.getD k 0)) l.length=lsm f l:=fun l=>by
 have key:∀l:List Nat,∀m:List Nat,sumR (fun k=>f ((m++l).getD k 0)) (m.length+l.length)=sumR (fun k=>f (m.getD k 0)) m.length+lsm f l:=fun l=>by
  induction l with
  |nil=>
   intro m
   rw[lsm,Rat.add_zero,List.append_nil]
   rfl
  |cons x l ih=>
   intro m
   have h1:=ih (m++[x])
   rw[List.append_assoc,List.singleton_append,List.length_append,List.length_singleton,sumR] at h1
   rw[List.length_cons,show m.length+(l.length+1)=m.length+1+l.length by omega,h1,lsm]
   have e1:(m++[x]).getD m.length 0=x:=by simp
   rw[e1,sumR_congr (f:=fun k=>f ((m++[x]).getD k 0)) (g:=fun k=>f (m.getD k 0)) fun i hi=>by simp[List.getD_eq_getElem?_getD,List.getElem?_append_left hi]]
   grind
 have h:=key l []
 rw[List.nil_append,List.length_nil,Nat.zero_add,sumR,Rat.zero_add] at h
 exact h
theorem getD_mem {l:List Nat} {k:Nat} (h:k<l.length):l.getD k 0∈l:=by
 rw[List.getD_eq_getElem?_getD,List.getElem?_eq_getElem h]
 exact List.getElem_mem h
theorem getD_of {l:List Nat} {x:Nat} (h:x∈l):∃k,k<l.length∧l.getD k 0=x:=by
 obtain⟨k,hk,e⟩:=List.getElem_of_mem h
 exact⟨k,hk,by rw[List.getD_eq_getElem?_getD,List.getElem?_eq_getElem hk];exact e⟩
theorem sumR_delta {n i:Nat} (hi:i<n):sumR (fun j=>if i=j then(1:Rat) else 0) n=1:=by
 have h:=sumR_one (fun _=>1) hi
 rw[sumR_congr (g:=fun j=>if i=j then(1:Rat) else 0) fun j _=>Rat.mul_one _] at h
 exact h
theorem wt_hits {n:Nat} {P M:Nat→Nat→Rat} {l:List Nat} (hc:Chn n P) (hn:l.Nodup) (hl:∀x∈l,x<n) (ht:∀x∈l,∃j,j<n∧j∉l∧cmsB n P x j=true)
  (hM:∀k,k<l.length→∀c,c<l.length→M k c=P (l.getD k 0) (l.getD c 0) - if k=c then 1 else 0):Wt l.length 0 M:=by
 have hlt:∀k,k<l.length→l.getD k 0<n:=fun k hk=>hl _ (getD_mem hk)
 have hs:∀k,k<l.length→tailR (M k) 0 l.length=lsm (P (l.getD k 0)) l - 1:=fun k hk=>by
  have e:sumR (M k) l.length=sumR (fun c=>P (l.getD k 0) (l.getD c 0) - if k=c then 1 else 0) l.length:=sumR_congr fun c hcl=>hM k hk c hcl
  rw[tailR,e,sumR_sub,sumR_delta hk,lsm_at (P (l.getD k 0)) l,sumR]
  grind
 have hle:∀k,k<l.length→lsm (P (l.getD k 0)) l≤1:=fun k hk=>by
  have h1:=lsm_le (l:=l) (f:=P (l.getD k 0)) (fun j hj=>hc.low _ j (hlt k hk) hj) hn hl
  rwa [hc.one _ (hlt k hk)] at h1
 refine⟨fun i _ h2 j _ h4 h5=>?_,fun i _ h2=>?_,fun C hC=>?_⟩
 ·rw[hM i h2 j h4,if_neg h5]
  have:=hc.low _ _ (hlt i h2) (hlt j h4)
  grind
 ·rw[hs i h2]
  have:=hle i h2
  grind
 ·by_cases hex:∃i,0≤i∧i<l.length∧C i∧(tailR (M i) 0 l.length<0∨∃j,0≤j∧j<l.length∧¬C j∧0<M i j)
  ·exact hex
  ·exfalso
   obtain⟨i0,_,c2,c3⟩:=hC
   obtain⟨j0,q1,q2,q3⟩:=ht _ (getD_mem c2)
   have shut:∀x y,x<n→y<n→(∃i,i<l.length∧C i∧l.getD i 0=x)→0<P x y→∃i,i<l.length∧C i∧l.getD i 0=y:=by
    rintro x y hx hy ⟨i,a1,a2,rfl⟩ hp
    have hsum:¬tailR (M i) 0 l.length<0:=fun h=>hex ⟨i,Nat.zero_le _,a1,a2,.inl h⟩
    have hyl:y∈l:=by
     by_cases e:y∈l
     ·exact e
     ·have h1:=lsm_rest (l:=l) (f:=P (l.getD i 0)) (fun j hj=>hc.low _ j hx hj) hn hl (by
       rw[hs i a1] at hsum
       rw[hc.one _ hx]
       grind) hy e
      grind
    obtain⟨j,b1,rfl⟩:=getD_of hyl
    by_cases hCj:C j
    ·exact⟨j,b1,hCj,rfl⟩
    ·exfalso
     refine hex ⟨i,Nat.zero_le _,a1,a2,.inr ⟨j,Nat.zero_le _,b1,hCj,?_⟩⟩
     have hij:¬i=j:=fun e=>hCj (e▸a2)
     rw[hM i a1 j b1,if_neg hij]
     grind
   obtain⟨k,k1,_,k3⟩:=cms_shut (S:=fun x=>∃i,i<l.length∧C i∧l.getD i 0=x) shut (hlt i0 c2) q1 ⟨i0,c2,c3,rfl⟩ q3
   exact q2 (k3▸getD_mem k1)
theorem stl_class {n:Nat} {P M:Nat→Nat→Rat} {l:List Nat} (hc:Chn n P) (hn:l.Nodup) (hl:∀x∈l,x<n) (h1:1≤l.length) (hshut:∀x∈l,∀y,y<n→0<P x y→y∈l) (hcom:∀x∈l,∀y∈l,cmsB n P x y=true)
  (hM:∀k,k<l.length - 1→∀c,c<l.length→M k c=P (l.getD c 0) (l.getD k 0) - if k=c then 1 else 0) (hlast:∀c,c<l.length→M (l.length - 1) c=1):Stl l.length 0 M:=by
 have hlt:∀k,k<l.length→l.getD k 0<n:=fun k hk=>hl _ (getD_mem hk)
 have inj:∀i j,i<l.length→j<l.length→l.getD i 0=l.getD j 0→i=j:=fun i j hi hj e=>by
  rw[List.getD_eq_getElem?_getD,List.getD_eq_getElem?_getD,List.getElem?_eq_getElem hi,List.getElem?_eq_getElem hj] at e
  exact(List.getElem_inj hn).1 e
 have h0:∀k,k<l.length→∀c,c<l.length→0≤P (l.getD k 0) (l.getD c 0):=fun k hk c hcl=>hc.low _ _ (hlt k hk) (hlt c hcl)
 have tot:∀k,k<l.length→sumR (fun c=>P (l.getD k 0) (l.getD c 0)) l.length=1:=fun k hk=>by
  rw[lsm_at (P (l.getD k 0)) l,lsm_all (fun j hj=>hc.low _ j (hlt k hk) hj) hn hl fun j hj hjl=>?_]
  ·exact hc.one _ (hlt k hk)
  ·by_cases hp:0<P (l.getD k 0) j
   ·exact absurd (hshut _ (getD_mem hk) j hj hp) hjl
   ·have:=hc.low _ j (hlt k hk) hj
    grind
 have hs:∀i,i<l.length - 1→tailR (fun j=>M j i) 0 (l.length - 1)= -P (l.getD i 0) (l.getD (l.length - 1) 0):=fun i hi=>by
  have e:sumR (fun j=>M j i) (l.length - 1)=sumR (fun c=>P (l.getD i 0) (l.getD c 0) - if i=c then 1 else 0) (l.length - 1):=sumR_congr fun c hcl=>by
   rw[hM c hcl i (by omega)]
   by_cases q:c=i
   ·rw[if_pos q,if_pos q.symm]
   ·rw[if_neg q,if_neg (fun e=>q e.symm)]
  have t:=tot i (by omega)
  have t2:sumR (fun c=>P (l.getD i 0) (l.getD c 0)) (l.length - 1+1)=1:=by
   rw[show l.length - 1+1=l.length by omega]
   exact t
  rw[sumR] at t2
  rw[tailR,e,sumR_sub,sumR_delta hi,sumR]
  grind
 refine⟨⟨fun i _ h2 j _ h4 h5=>?_,fun i _ h2=>?_,fun C hC=>?_⟩,fun j _ h2=>?_,fun i _ h2=>?_⟩
 ·rw[hM j h4 i (by omega),if_neg (fun e=>h5 e.symm)]
  have:=h0 i (by omega) j (by omega)
  grind
 ·rw[hs i h2]
  have:=h0 i (by omega) (l.length - 1) (by omega)
  grind
 ·by_cases hex:∃i,0≤i∧i<l.length - 1∧C i∧(tailR (fun j=>M j i) 0 (l.length - 1)<0∨∃j,0≤j∧j<l.length - 1∧¬C j∧0<M j i)
  ·exact hex
  ·exfalso
   obtain⟨i0,_,c2,c3⟩:=hC
   have shut:∀x y,x<n→y<n→(∃i,i<l.length - 1∧C i∧l.getD i 0=x)→0<P x y→∃i,i<l.length - 1∧C i∧l.getD i 0=y:=by
    rintro x y hx hy ⟨i,a1,a2,rfl⟩ hp
    obtain⟨j,b1,rfl⟩:=getD_of (hshut _ (getD_mem (by omega)) y hy hp)
    have hsum:¬tailR (fun j=>M j i) 0 (l.length - 1)<0:=fun h=>hex ⟨i,Nat.zero_le _,a1,a2,.inl h⟩
    rw[hs i a1] at hsum
    by_cases hjl:j=l.length - 1
    ·subst hjl
     exfalso
     grind
    ·by_cases hCj:C j
     ·exact⟨j,by omega,hCj,rfl⟩
     ·exfalso
      refine hex ⟨i,Nat.zero_le _,a1,a2,.inr ⟨j,Nat.zero_le _,by omega,hCj,?_⟩⟩
      have hij:¬j=i:=fun e=>hCj (e▸a2)
      rw[hM j (by omega) i (by omega),if_neg hij]
      grind
   obtain⟨k,k1,_,k3⟩:=cms_shut (S:=fun x=>∃i,i<l.length - 1∧C i∧l.getD i 0=x) shut (hlt i0 (by omega)) (hlt (l.length - 1) (by omega)) ⟨i0,c2,c3,rfl⟩ (hcom _ (getD_mem (by omega)) _ (getD_mem (by omega)))
   have:=inj k (l.length - 1) (by omega) (by omega) k3
   omega
 ·rw[hM j h2 (l.length - 1) (by omega),if_neg (by omega)]
  have:=h0 (l.length - 1) (by omega) j (by omega)
  grind
 ·rw[hlast i h2]
  decide
end Go.Proofs.YtmbjmiioggfneaaGreatDoor

/- Chains, plainly: what is ever come to, and what is still. -/
namespace Go.Proofs.YtmbjmiioggfneaaGreatDoor
theorem lsm_append (f:Nat→Rat):∀l m:List Nat,lsm f (l++m)=lsm f l+lsm f m
 |[],m=>by rw[List.nil_append,lsm,Rat.zero_add]
 |x::l,m=>by rw[List.cons_append,lsm,lsm,lsm_append f l m,Rat.add_assoc]
theorem if_le {q:Rat} {b:Prop} [Decidable b] (h:0≤q):q*(if b then 1 else 0)≤q:=by
 split
 ·rw[Rat.mul_one];exact Rat.le_refl
 ·rw[Rat.mul_zero];exact h
theorem if_less (q:Rat) {b:Prop} [Decidable b]:q*(if b then 1 else 0)=q - q*(if b then 0 else 1):=by
 split<;>grind
theorem still_pos {n:Nat} {Q:Nat→Nat→Rat} {x:Nat→Rat} (low:∀i j,i<n→j<n→0≤Q i j) (one:∀i,i<n→sumR (Q i) n=1) (irr:∀C:Nat→Prop,(∃i,i<n∧C i)→(∃j,j<n∧¬C j)→∃i j,i<n∧j<n∧C i∧¬C j∧0<Q i j)
  (still:∀j,j<n→sumR (fun i=>x i*Q i j) n=x j) (sum:sumR x n=1):∀i,i<n→0<x i:=by
 intro i hi
 by_cases hall:∃j,j<n∧¬0<x j
 ·exfalso
  by_cases hsome:∃i,i<n∧0<x i
  ·obtain⟨a,b,ha,hb,h1,h2,h3⟩:=irr (fun i=>0<x i) hsome hall
   have e1:sumR (fun j=>x j*if 0<x j then 1 else 0) n=sumR (fun i=>x i*sumR (fun j=>Q i j*if 0<x j then 1 else 0) n) n:=by
    rw[sumR_congr (g:=fun j=>sumR (fun i=>x i*Q i j*if 0<x j then 1 else 0) n) fun j hj=>by rw[sumR_mulR,still j hj],sumR_swap]
    exact sumR_congr fun i _=>by rw[←sumR_mul];exact sumR_congr fun j _=>by rw[Rat.mul_assoc]
   have hw:∀i,i<n→0≤sumR (fun j=>Q i j*if 0<x j then 1 else 0) n∧sumR (fun j=>Q i j*if 0<x j then 1 else 0) n≤1:=fun i hi=>by
    refine⟨sumR_low fun j hj=>Rat.mul_nonneg (low i j hi hj) (by split<;>decide),?_⟩
    have h0:sumR (fun j=>Q i j*if 0<x j then 1 else 0) n≤sumR (Q i) n:=sumR_mono fun j hj=>if_le (b:=0<x j) (low i j hi hj)
    rw[one i hi] at h0
    exact h0
   have hwa:sumR (fun j=>Q a j*if 0<x j then 1 else 0) n<1:=by
    have h4:sumR (fun j=>Q a j*if 0<x j then 1 else 0) n=sumR (Q a) n - sumR (fun j=>Q a j*if 0<x j then 0 else 1) n:=by
     rw[←sumR_sub]
     exact sumR_congr fun j _=>if_less (b:=0<x j) _
    have h5:=sumR_part (f:=fun j=>Q a j*if 0<x j then 0 else 1) (fun j hj=>Rat.mul_nonneg (low a j ha hj) (by split<;>decide)) b hb
    rw[if_neg h2,Rat.mul_one] at h5
    rw[h4,one a ha]
    grind
   have e2:sumR (fun i=>x i*((if 0<x i then 1 else 0) - sumR (fun j=>Q i j*if 0<x j then 1 else 0) n)) n=0:=by
    rw[sumR_congr (g:=fun i=>x i*(if 0<x i then 1 else 0) - x i*sumR (fun j=>Q i j*if 0<x j then 1 else 0) n) fun i _=>by grind,sumR_sub,e1]
    grind
   have h6:=sumR_part (f:=fun i=>x i*((if 0<x i then 1 else 0) - sumR (fun j=>Q i j*if 0<x j then 1 else 0) n)) (fun i hi=>by
    by_cases q:0<x i
    ·rw[if_pos q]
     have:=(hw i hi).2
     exact Rat.mul_nonneg (Rat.le_of_lt q) (by grind)
    ·rw[if_neg q]
     have h7:=Rat.mul_nonneg (a:= -x i) (by grind) (hw i hi).1
     grind) a ha
   rw[e2,if_pos h1] at h6
   have h8:0<x a*(1 - sumR (fun j=>Q a j*if 0<x j then 1 else 0) n):=Rat.mul_pos h1 (by grind)
   grind
  ·have h1:sumR x n≤0:=by
    have:=sumR_low (f:=fun i=> -x i) (n:=n) fun i hi=>by
     have:¬0<x i:=fun e=>hsome ⟨i,hi,e⟩
     grind
    rw[sumR_congr (g:=fun i=>(-1)*x i) fun i _=>by grind,sumR_mul] at this
    grind
   rw[sum] at h1
   exact absurd h1 (by decide)
 ·by_cases q:0<x i
  ·exact q
  ·exact absurd ⟨i,hi,q⟩ hall
end Go.Proofs.YtmbjmiioggfneaaGreatDoor

/- Shares of dice, plainly: which share a die falls into, how many fall into each. -/
namespace Go.Proofs.YtmbjmiioggfneaaGreatDoor
theorem fits_tim {m k:Nat} {p q:Rat} (hp:Fits m p) (hq:Fits k q):Fits (m+k) (p*q):=by
 obtain⟨A,D,h1,rfl,h3,h4⟩:=hp
 obtain⟨A',D',h1',rfl,h3',h4'⟩:=hq
 refine⟨A*A',D*D',Nat.mul_ne_zero h1 h1',by rw[Rat.mkRat_mul_mkRat],?_,?_⟩
 ·rw[Nat.pow_add]
  exact Nat.mul_lt_mul'' h3 h3'
 ·rw[Int.natAbs_mul,Nat.pow_add]
  exact Nat.mul_lt_mul'' h4 h4'
end Go.Proofs.YtmbjmiioggfneaaGreatDoor
