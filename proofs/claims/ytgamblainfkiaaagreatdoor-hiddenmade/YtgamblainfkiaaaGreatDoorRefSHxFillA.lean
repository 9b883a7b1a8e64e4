/- The document's answer: differences, products, quotients, comparisons, whole numbers. -/
import Derived.Test.YtgamblainfkiaaaGreatDoorFracAHxRefR
import Derived.Test.YtgamblainfkiaaaGreatDoorRefCHxNumR
import Derived.BigQuiet
import Derived.Test.YtgamblainfkiaaaGreatDoorProg
import Derived.WalkKit
import Derived.WalkSpells
import Derived.WalkLawsBesides
import Derived.Deep.QuietTactic
import Derived.Test.YtgamblainfkiaaaGreatDoorMostAHxRefA
import Derived.Test.YtgamblainfkiaaaGreatDoorCore1HxCore2b
import Derived.Deep.RegionHeld3
import Derived.Deep.OwnRows
import Derived.Laws.EntriesVeiled
import Derived.Laws.BitsAllLaws
import Derived.Test.YtgamblainfkiaaaGreatDoorReckBHxShiftB
namespace Go.Proofs.YtgamblainfkiaaaGreatDoor
open Go.RowKit
set_option maxRecDepth 100000 in
set_option maxHeartbeats 2000000 in
theorem rSubF_any (na nb:Bool) (xa ya xb yb:ByteArray) (w:World) (ha:xa.size+ya.size≤50000) (hb:xb.size+yb.size≤50000):
  Calls Tryz.prog 91 #[.agg #[.bool na,.string xa,.string ya],.agg #[.bool nb,.string xb,.string yb]] w fun e w'=>e=.returned (C (val na xa ya - val nb xb yb))∧Below w.heap.size w w':=by
 have HA:=hide (fun V=>rAddF_any na (!nb) xa ya xb yb V ha hb)
 rw[val_not,←Rat.sub_eq_add_neg] at HA
 generalize val na xa ya - val nb xb yb=r at *
 go_enter Tryz.func91,Tryz.ntmps91
 have hbr:=Box.at (w:=(w.alloc (FC na xa ya)).alloc (FC (!nb) xb yb)) (g:=w.heap.size+2) (by simp) false ⟨#[]⟩ ⟨#[]⟩
 have hB0:Below w.heap.size w (((w.alloc (FC na xa ya)).alloc (FC (!nb) xb yb)).alloc (FC false ⟨#[]⟩ ⟨#[]⟩)):=(((Below.refl _ w).alloc (Nat.le_refl _) _).alloc (by simp) _).alloc (by simp;omega) _
 go_wp2_with fail
 refine(HA.out _).mono ?_
 rintro e w1 ⟨rfl,hb1⟩
 have hbr1:=hbr.below hb1 hbr.lt
 have hB1:=hB0.trans (hb1.mono hB0.size)
 obtain⟨k0,k1,k2,f0,f1,f2⟩:=hbr1.facts
 rw[C_eq]
 go_wp2
 refine bodyPost_ret ((hbr1.put _ _ _).result rfl _ rfl) rfl ?_
 exact⟨rfl,below_put hB1 (by omega) _ _ _⟩
set_option maxRecDepth 100000 in
set_option maxHeartbeats 2000000 in
theorem rMulF_any (na nb:Bool) (xa ya xb yb:ByteArray) (w:World) (ha:xa.size+ya.size≤50000) (hb:xb.size+yb.size≤50000):
  Calls Tryz.prog 75 #[.agg #[.bool na,.string xa,.string ya],.agg #[.bool nb,.string xb,.string yb]] w fun e w'=>e=.returned (C (val na xa ya*val nb xb yb))∧Below w.heap.size w w':=by
 have HA:=hide (fun V=>rCanon_any na xa ya V (by omega) (by omega))
 have HB:=hide (fun V=>rCanon_any nb xb yb V (by omega) (by omega))
 have q1:=qw_val na xa ya
 have q2:=qw_val nb xb yb
 generalize val na xa ya=p at *
 generalize val nb xb yb=q at *
 have z1:=own_size p
 have z2:=own_size q
 have s1:=sz_mul p.num.natAbs q.num.natAbs
 have s3:=sz_mul p.den q.den
 have e1:(B p.num.natAbs).size=(nu p).size:=rfl
 have e2:(B p.den).size=(de p).size:=rfl
 have e3:(B q.num.natAbs).size=(nu q).size:=rfl
 have e4:(B q.den).size=(de q).size:=rfl
 have HS:Hid (val (sgn p !=sgn q) (B (p.num.natAbs*q.num.natAbs)) (B (p.den*q.den))=p*q):=by
  show _=_
  have e:=val_mul (sgn p) (sgn q) (nu p) (de p) (nu q) (de q)
  rw[val_own,val_own,N_nu,N_nu,N_de,N_de] at e
  rw[val,N_B,N_B,e]
 have HM1:=hide (fun (V:World)=>rMul_B (w:=V) (p.num.natAbs*q.num.natAbs) (Below.refl _ V) (by rw[N_nu,N_nu]) (show (nu p).size≤_ by omega) (show (nu q).size≤_ by omega))
 have HM3:=hide (fun (V:World)=>rMul_B (w:=V) (p.den*q.den) (Below.refl _ V) (by rw[N_de,N_de]) (show (de p).size≤_ by omega) (show (de q).size≤_ by omega))
 generalize p*q=r at *
 generalize p.num.natAbs*q.num.natAbs=X at *
 generalize p.den*q.den=D at *
 have t1:(B X).size≤200000:=by omega
 have t3:(B D).size≤200000:=by omega
 clear s1 s3 e1 e2 e3 e4 z1 z2 q1 q2 ha hb
 go_enter Tryz.func75,Tryz.ntmps75
 have hba:=((Box.at (w:=w) rfl na xa ya).alloc (FC nb xb yb)).alloc (FC false ⟨#[]⟩ ⟨#[]⟩)
 have hbb:=(Box.at (w:=w.alloc (FC na xa ya)) (g:=w.heap.size+1) (by simp) nb xb yb).alloc (FC false ⟨#[]⟩ ⟨#[]⟩)
 have hbr:=Box.at (w:=(w.alloc (FC na xa ya)).alloc (FC nb xb yb)) (g:=w.heap.size+2) (by simp) false ⟨#[]⟩ ⟨#[]⟩
 have hB0:Below w.heap.size w (((w.alloc (FC na xa ya)).alloc (FC nb xb yb)).alloc (FC false ⟨#[]⟩ ⟨#[]⟩)):=(((Below.refl _ w).alloc (Nat.le_refl _) _).alloc (by simp) _).alloc (by simp;omega) _
 go_wp2_with fail
 refine(HA.out _).mono ?_
 rintro e w1 ⟨rfl,hb1⟩
 have hba1:=hba.below hb1 hba.lt
 have hbb1:=(hbb.below hb1 hbb.lt).far3 (g':=w.heap.size) (by omega) (.bool (sgn p)) (.string (nu p)) (.string (de p))
 have hbr1:=(hbr.below hb1 hbr.lt).far3 (g':=w.heap.size) (by omega) (.bool (sgn p)) (.string (nu p)) (.string (de p))
 have hB1:=below_put (hB0.trans (hb1.mono hB0.size)) (Nat.le_refl _) (.bool (sgn p)) (.string (nu p)) (.string (de p))
 have hba2:=hba1.put (sgn p) (nu p) (de p)
 obtain⟨k0,k1,k2,f0,f1,f2⟩:=hba1.facts
 obtain⟨c0,c1,c2,_,_,_⟩:=hbb1.facts
 rw[C_eq]
 clear hba hbb hbr hB0 hba1 hb1
 go_wp2_with fail
 clear k0 k1 k2 f0 f1 f2 c0 c1 c2
 refine(HB.out _).mono ?_
 rintro e w2 ⟨rfl,hb2⟩
 have hbb2:=hbb1.below hb2 hbb1.lt
 have hba3:=(hba2.below hb2 hba2.lt).far3 (g':=w.heap.size+1) (by omega) (.bool (sgn q)) (.string (nu q)) (.string (de q))
 have hbr3:=(hbr1.below hb2 hbr1.lt).far3 (g':=w.heap.size+1) (by omega) (.bool (sgn q)) (.string (nu q)) (.string (de q))
 have hB3:=below_put (hB1.trans (hb2.mono hB1.size)) (g:=w.heap.size+1) (by omega) (.bool (sgn q)) (.string (nu q)) (.string (de q))
 have hbb3:=hbb2.put (sgn q) (nu q) (de q)
 obtain⟨k0,k1,k2,f0,f1,f2⟩:=hbb2.facts
 have ht:Tri w _ p q false ⟨#[]⟩ ⟨#[]⟩:=⟨hba3,hbb3,hbr3,hB3⟩
 obtain⟨c0,c1,c2,_,_,_⟩:=hba3.facts
 obtain⟨d0,d1,d2,_,_,_⟩:=hbb3.facts
 rw[C_eq]
 clear hba2 hbb1 hbr1 hB1 hbb2 hba3 hbr3 hB3 hbb3 hb2 HA HB
 go_wp2_with fail
 refine(HM1.out _).mono ?_
 rintro e w3 ⟨rfl,hb3⟩
 clear c0 c1 c2 d0 d1 d2 k0 k1 k2 f0 f1 f2
 have ht3:=ht.step hb3
 clear ht hb3 HM1
 obtain⟨c0,c1,c2,_,_,_⟩:=ht3.1.facts
 obtain⟨d0,d1,d2,_,_,_⟩:=ht3.2.1.facts
 go_wp2_with fail
 refine(HM3.out _).mono ?_
 rintro e w4 ⟨rfl,hb4⟩
 clear c0 c1 c2 d0 d1 d2
 have ht4:=ht3.step hb4
 clear ht3 hb4 HM3
 obtain⟨c0,c1,c2,_,_,_⟩:=ht4.1.facts
 obtain⟨d0,d1,d2,_,_,_⟩:=ht4.2.1.facts
 go_wp2_with fail
 refine(rMake_any (sgn p !=sgn q) (B X) (B D) _ (by omega) (by omega)).mono ?_
 rintro e w7 ⟨rfl,hb7⟩
 have ht7:=ht4.step hb7
 obtain⟨g0,g1,g2,i0,i1,i2⟩:=ht7.2.2.1.facts
 rw[HS.out,C_eq]
 go_wp2
 refine bodyPost_ret ((ht7.2.2.1.put _ _ _).result rfl _ rfl) rfl ?_
 exact⟨rfl,below_put ht7.2.2.2 (by omega) _ _ _⟩
theorem nu_zero {q:Rat} (h:q=0):nu q=⟨#[]⟩:=by subst h;exact B_zero
theorem nu_full {q:Rat} (h:¬q=0):(nu q).toList.isEmpty=false:=B_full (by rw[Ne,Int.natAbs_eq_zero,Rat.num_eq_zero];exact h)
set_option maxRecDepth 100000 in
set_option maxHeartbeats 1000000 in
theorem rZero_any (n:Bool) (x y:ByteArray) (w:World) (hx:x.size+y.size≤50000):
  Calls Tryz.prog 49 #[.agg #[.bool n,.string x,.string y]] w fun e w'=>e=.returned (.bool (decide (val n x y=0)))∧Below w.heap.size w w':=by
 have HC:=hide (fun V=>rCanon_any n x y V (by omega) (by omega))
 generalize val n x y=q at *
 have hz:(q=0∧decide (q=0)=true)∨(¬q=0∧decide (q=0)=false):=by
  by_cases h:q=0
  ·exact .inl ⟨h,decide_eq_true h⟩
  ·exact .inr ⟨h,decide_eq_false h⟩
 have HZ:=hide hz
 clear hz
 generalize decide (q=0)=t at *
 go_enter Tryz.func49,Tryz.ntmps49
 have hbx:=Box.at (w:=w) rfl n x y
 have hB0:Below w.heap.size w (w.alloc (FC n x y)):=(Below.refl _ w).alloc (Nat.le_refl _) _
 go_wp2_with fail
 refine(HC.out _).mono ?_
 rintro e w1 ⟨rfl,hb1⟩
 have hx1:=hbx.below hb1 hbx.lt
 have hB1:=below_put (hB0.trans (hb1.mono hB0.size)) (Nat.le_refl _) (.bool (sgn q)) (.string (nu q)) (.string (de q))
 obtain⟨k0,k1,k2,f0,f1,f2⟩:=hx1.facts
 rw[C_eq]
 rcases HZ.out with ⟨h,rfl⟩ |⟨h,rfl⟩
 ·have hn:=nu_zero h
  clear h HZ
  generalize nu q=nq at *
  subst hn
  go_wp2
  go_ret
  exact⟨rfl,hB1⟩
 ·have hn:=nu_full h
  clear h HZ
  go_wp2
  go_ret
  exact⟨rfl,hB1⟩
set_option maxRecDepth 100000 in
set_option maxHeartbeats 1000000 in
theorem rDivF_no (na nb:Bool) (xa ya xb yb:ByteArray) (w:World) (h:val nb xb yb=0) (hb:xb.size+yb.size≤50000):
  Calls Tryz.prog 87 #[.agg #[.bool na,.string xa,.string ya],.agg #[.bool nb,.string xb,.string yb]] w fun e w'=>e=.returned (.tuple #[.agg #[.bool false,.string ⟨#[]⟩,.string ⟨#[]⟩],.int .i64 3])∧Below w.heap.size w w':=by
 have HZ:=hide (fun V=>rZero_any nb xb yb V hb)
 rw[decide_eq_true h] at HZ
 clear h
 go_enter Tryz.func87,Tryz.ntmps87
 have hbr:=Box.at (w:=(w.alloc (FC na xa ya)).alloc (FC nb xb yb)) (g:=w.heap.size+2) (by simp) false ⟨#[]⟩ ⟨#[]⟩
 have hB0:Below w.heap.size w (((w.alloc (FC na xa ya)).alloc (FC nb xb yb)).alloc (FC false ⟨#[]⟩ ⟨#[]⟩)):=(((Below.refl _ w).alloc (Nat.le_refl _) _).alloc (by simp) _).alloc (by simp;omega) _
 go_wp2_with fail
 refine(HZ.out _).mono ?_
 rintro e w1 ⟨rfl,hb1⟩
 have hbr1:=hbr.below hb1 hbr.lt
 have hB1:=hB0.trans (hb1.mono hB0.size)
 obtain⟨k0,k1,k2,f0,f1,f2⟩:=hbr1.facts
 go_wp2
 refine bodyPost_ret ((hbr1.put _ _ _).result2 rfl _ rfl) rfl ?_
 exact⟨rfl,below_put hB1 (by omega) _ _ _⟩
set_option maxRecDepth 100000 in
set_option maxHeartbeats 1000000 in
theorem rDivF_yes (na nb:Bool) (xa ya xb yb:ByteArray) (w:World) (h:¬val nb xb yb=0) (ha:xa.size+ya.size≤40000) (hb:xb.size+yb.size≤40000):
  Calls Tryz.prog 87 #[.agg #[.bool na,.string xa,.string ya],.agg #[.bool nb,.string xb,.string yb]] w fun e w'=>e=.returned (.tuple #[C (val na xa ya/val nb xb yb),.int .i64 0])∧Below w.heap.size w w':=by
 have HZ:=hide (fun V=>rZero_any nb xb yb V (by omega))
 rw[decide_eq_false h] at HZ
 have HC:=hide (fun V=>rCanon_any nb xb yb V (by omega) (by omega))
 have q2:=qw_val nb xb yb
 generalize val nb xb yb=q at *
 have z2:=own_size q
 have HM:=hide (fun V=>rMulF_any na (sgn q) xa ya (de q) (nu q) V (by omega) (by omega))
 have hi:val (sgn q) (de q) (nu q)=q⁻¹:=by
  rw[val_inv (sgn q) (nu q) (de q) (by rw[N_nu,Ne,Int.natAbs_eq_zero,Rat.num_eq_zero];exact h) (by rw[N_de];exact q.den_nz),val_own]
 rw[hi,←Rat.div_def] at HM
 generalize val na xa ya/q=r at *
 clear hi h z2 q2 ha hb
 go_enter Tryz.func87,Tryz.ntmps87
 have hba:=((Box.at (w:=w) rfl na xa ya).alloc (FC nb xb yb)).alloc (FC false ⟨#[]⟩ ⟨#[]⟩)
 have hbb:=(Box.at (w:=w.alloc (FC na xa ya)) (g:=w.heap.size+1) (by simp) nb xb yb).alloc (FC false ⟨#[]⟩ ⟨#[]⟩)
 have hbr:=Box.at (w:=(w.alloc (FC na xa ya)).alloc (FC nb xb yb)) (g:=w.heap.size+2) (by simp) false ⟨#[]⟩ ⟨#[]⟩
 have hB0:Below w.heap.size w (((w.alloc (FC na xa ya)).alloc (FC nb xb yb)).alloc (FC false ⟨#[]⟩ ⟨#[]⟩)):=(((Below.refl _ w).alloc (Nat.le_refl _) _).alloc (by simp) _).alloc (by simp;omega) _
 go_wp2_with fail
 refine(HZ.out _).mono ?_
 rintro e w1 ⟨rfl,hb1⟩
 have hba1:=hba.below hb1 hba.lt
 have hbb1:=hbb.below hb1 hbb.lt
 have hbr1:=hbr.below hb1 hbr.lt
 have hB1:=hB0.trans (hb1.mono hB0.size)
 obtain⟨c0,c1,c2,_,_,_⟩:=hbb1.facts
 clear hba hbb hbr hB0 hb1
 go_wp2_with fail
 refine(HC.out _).mono ?_
 rintro e w2 ⟨rfl,hb2⟩
 have hba2:=(hba1.below hb2 hba1.lt).far3 (g':=w.heap.size+1) (by omega) (.bool (sgn q)) (.string (nu q)) (.string (de q))
 have hbb2:=hbb1.below hb2 hbb1.lt
 have hbr2:=(hbr1.below hb2 hbr1.lt).far3 (g':=w.heap.size+1) (by omega) (.bool (sgn q)) (.string (nu q)) (.string (de q))
 have hB2:=below_put (hB1.trans (hb2.mono hB1.size)) (g:=w.heap.size+1) (by omega) (.bool (sgn q)) (.string (nu q)) (.string (de q))
 clear c0 c1 c2 hba1 hbb1 hbr1 hB1 hb2
 obtain⟨k0,k1,k2,f0,f1,f2⟩:=hbb2.facts
 obtain⟨d0,d1,d2,_,_,_⟩:=hba2.facts
 rw[C_eq]
 go_wp2_with fail
 refine(HM.out _).mono ?_
 rintro e w3 ⟨rfl,hb3⟩
 have hbr3:=hbr2.below hb3 hbr2.lt
 have hB3:=hB2.trans (hb3.mono hB2.size)
 clear k0 k1 k2 f0 f1 f2 d0 d1 d2
 obtain⟨k0,k1,k2,f0,f1,f2⟩:=hbr3.facts
 rw[C_eq]
 go_wp2
 refine bodyPost_ret ((hbr3.put _ _ _).result2 rfl _ rfl) rfl ?_
 exact⟨rfl,below_put hB3 (by omega) _ _ _⟩
theorem cmp_sub (p q:Rat):cmpQ p q=if p - q=0 then 0 else if sgn (p - q)=true then -1 else 1:=by
 have hs:sgn (p - q)=true↔p - q<0:=by
  have h:=Rat.num_nonneg (q:=p - q)
  rw[sgn,decide_eq_true_iff]
  constructor
  ·intro h1;have h2:¬0≤p - q:=fun e=>absurd (h.2 e) (by omega)
   grind
  ·intro h1;have h2:¬0≤(p - q).num:=fun e=>absurd (h.1 e) (by grind)
   omega
 by_cases h:p - q=0
 ·rw[if_pos h,cmpQ,if_neg (by grind),if_pos (by grind)]
 ·rw[if_neg h]
  by_cases h1:p - q<0
  ·rw[if_pos (hs.2 h1),cmpQ,if_pos (by grind)]
  ·rw[if_neg (fun e=>h1 (hs.1 e)),cmpQ,if_neg (by grind),if_neg (by grind)]
set_option maxRecDepth 100000 in
set_option maxHeartbeats 1000000 in
theorem rCmpF_any (na nb:Bool) (xa ya xb yb:ByteArray) (w:World) (ha:xa.size+ya.size≤50000) (hb:xb.size+yb.size≤50000):
  Calls Tryz.prog 56 #[.agg #[.bool na,.string xa,.string ya],.agg #[.bool nb,.string xb,.string yb]] w fun e w'=>e=.returned (.int .i64 (cmpQ (val na xa ya) (val nb xb yb)))∧Below w.heap.size w w':=by
 have HS:=hide (fun V=>rSubF_any na nb xa ya xb yb V ha hb)
 have HK:=hide (cmp_sub (val na xa ya) (val nb xb yb))
 generalize cmpQ (val na xa ya) (val nb xb yb)=k at *
 generalize val na xa ya - val nb xb yb=d at *
 go_enter Tryz.func56,Tryz.ntmps56
 have hB0:Below w.heap.size w ((w.alloc (FC na xa ya)).alloc (FC nb xb yb)):=((Below.refl _ w).alloc (Nat.le_refl _) _).alloc (by simp) _
 go_wp2_with fail
 refine(HS.out _).mono ?_
 rintro e w1 ⟨rfl,hb1⟩
 have hB1:=hB0.trans (hb1.mono hB0.size)
 have hB2:=hB1.alloc hB1.size (FC (sgn d) (nu d) (de d))
 rw[C_eq]
 by_cases h:d=0
 ·rw[if_pos h] at HK
  have hn:=nu_zero h
  clear h
  generalize nu d=nd at *
  subst hn
  go_wp2
  go_ret
  exact⟨by rw[HK.out];rfl,hB2⟩
 ·rw[if_neg h] at HK
  have hn:=nu_full h
  clear h
  generalize sgn d=sd at *
  cases sd
  ·go_wp2
   go_ret
   exact⟨by rw[HK.out];rfl,hB2⟩
  ·go_wp2
   go_ret
   exact⟨by rw[HK.out];rfl,hB2⟩
theorem of_neg {k:Int} (h:k<0):C (mkRat k 1)=.agg #[.bool true,.string (B ((-(k+1)).toNat+1)),.string (B 1)]:=by
 have e:k=sg true ((-(k+1)).toNat+1):=by simp only[sg,if_true];omega
 have h1:=C_make true ((-(k+1)).toNat+1) 1 (by omega) (by decide)
 rw[←e,Nat.gcd_one_right,Nat.div_one,Nat.div_one] at h1
 exact h1
theorem of_pos (n:Nat):C (mkRat (n:Int) 1)=.agg #[.bool false,.string (B n),.string (B 1)]:=by
 by_cases h:n=0
 ·subst h;rw[show ((0:Nat):Int)=0 from rfl,Rat.zero_mkRat,C_zero,B_zero]
 ·have h1:=C_make false n 1 h (by decide)
  rw[Nat.gcd_one_right,Nat.div_one,Nat.div_one] at h1
  exact h1
set_option maxRecDepth 100000 in
set_option maxHeartbeats 1000000 in
theorem rOfF_any (k:Int) (w:World) (h0: -9223372036854775808≤k) (h1:k≤9223372036854775807):
  Calls Tryz.prog 33 #[.int .i64 k] w fun e w'=>e=.returned (C (mkRat k 1))∧Below w.heap.size w w':=by
 by_cases hk:k<0
 ·rw[of_neg hk]
  have HO:=hide (fun V=>rOf_any (-(k+1)) V (by omega) (by omega))
  have s1:(B (-(k+1)).toNat).size≤8:=by rw[B_size];exact bn_fits 8 _ (by show _<18446744073709551616;omega)
  have HA:=hide (fun V=>rAdd_any (B (-(k+1)).toNat) ⟨#[1]⟩ V (by omega) (by show 1≤_;omega))
  rw[N_B,show N ⟨#[1]⟩=1 from rfl] at HA
  rw[B_one]
  generalize (-(k+1)).toNat=n at *
  go_enter Tryz.func33,Tryz.ntmps33
  have hbr:=Box.at (w:=w) rfl false ⟨#[]⟩ ⟨#[]⟩
  have hB0:Below w.heap.size w (w.alloc (FC false ⟨#[]⟩ ⟨#[]⟩)):=(Below.refl _ w).alloc (Nat.le_refl _) _
  go_wp2_with fail
  refine(HO.out _).mono ?_
  rintro e w1 ⟨rfl,hb1⟩
  have hbr1:=hbr.below hb1 hbr.lt
  have hB1:=hB0.trans (hb1.mono hB0.size)
  go_wp2_with fail
  refine(HA.out _).mono ?_
  rintro e w2 ⟨rfl,hb2⟩
  have hbr2:=hbr1.below hb2 hbr1.lt
  have hB2:=hB1.trans (hb2.mono hB1.size)
  obtain⟨k0,k1,k2,f0,f1,f2⟩:=hbr2.facts
  go_wp2
  refine bodyPost_ret ((hbr2.put _ _ _).result rfl _ rfl) rfl ?_
  exact⟨rfl,below_put hB2 (by omega) _ _ _⟩
 ·obtain⟨n,rfl⟩:∃n:Nat,k=n:=⟨k.toNat,by omega⟩
  rw[of_pos n]
  have HO:=hide (fun V=>rOf_any (n:Int) V (by omega) (by omega))
  rw[Int.toNat_natCast] at HO
  rw[B_one]
  go_enter Tryz.func33,Tryz.ntmps33
  have hbr:=Box.at (w:=w) rfl false ⟨#[]⟩ ⟨#[]⟩
  have hB0:Below w.heap.size w (w.alloc (FC false ⟨#[]⟩ ⟨#[]⟩)):=(Below.refl _ w).alloc (Nat.le_refl _) _
  go_wp2_with fail
  refine(HO.out _).mono ?_
  rintro e w1 ⟨rfl,hb1⟩
  have hbr1:=hbr.below hb1 hbr.lt
  have hB1:=hB0.trans (hb1.mono hB0.size)
  obtain⟨k0,k1,k2,f0,f1,f2⟩:=hbr1.facts
  go_wp2
  refine bodyPost_ret ((hbr1.put _ _ _).result rfl _ rfl) rfl ?_
  exact⟨rfl,below_put hB1 (by omega) _ _ _⟩
end Go.Proofs.YtgamblainfkiaaaGreatDoor

/- Sums of whole lists of fractions: package frac's and the document's answer. -/
namespace Go.Proofs.YtgamblainfkiaaaGreatDoor
open Go.RowKit
def Fits (m:Nat) (q:Rat):Prop:=∃(A:Int) (D:Nat),D≠0∧q=mkRat A D∧D<256^m∧A.natAbs<256^m
theorem fits_qw {m:Nat} {q:Rat} (h:Fits m q):qw q≤2*m:=by
 obtain⟨A,D,hD,rfl,h1,h2⟩:=h
 rw[mk_norm hD]
 have:=qw_norm (n:=A) hD
 have a1:(B A.natAbs).size≤m:=by rw[B_size];exact bn_fits m _ h2
 have a2:(B D).size≤m:=by rw[B_size];exact bn_fits m _ h1
 omega
theorem pow_mono {m n:Nat} (h:m≤n):256^m≤256^n:=Nat.pow_le_pow_right (by decide) h
theorem fits_val (n:Bool) (x y:ByteArray):Fits (x.size+y.size+1) (val n x y):=by
 by_cases h:N y=0
 ·refine⟨0,1,by decide,by rw[val_den0 h,Rat.zero_mkRat],?_,?_⟩
  ·exact Nat.lt_of_lt_of_le (by decide:1<256^1) (pow_mono (by omega))
  ·exact Nat.pow_pos (by decide)
 ·refine⟨sg n (N x),N y,h,rfl,Nat.lt_of_lt_of_le (N_lt y) (pow_mono (by omega)),?_⟩
  rw[sg_natAbs]
  exact Nat.lt_of_lt_of_le (N_lt x) (pow_mono (by omega))
theorem fits_add {m k:Nat} {p q:Rat} (hp:Fits m p) (hq:Fits k q):Fits (m+k+1) (p+q):=by
 obtain⟨A,D,hD,rfl,h1,h2⟩:=hp
 obtain⟨A',D',hD',rfl,h3,h4⟩:=hq
 refine⟨A*D'+A'*D,D*D',Nat.mul_ne_zero hD hD',Rat.mkRat_add_mkRat _ _ hD hD',?_,?_⟩
 ·have:D*D'<256^m*256^k:=Nat.mul_lt_mul'' h1 h3
  rw[←Nat.pow_add] at this
  exact Nat.lt_of_lt_of_le this (pow_mono (by omega))
 ·have e1:A.natAbs*D'<256^m*256^k:=Nat.mul_lt_mul'' h2 h3
  have e2:A'.natAbs*D<256^k*256^m:=Nat.mul_lt_mul'' h4 h1
  rw[Nat.mul_comm (256^k)] at e2
  rw[←Nat.pow_add] at e1 e2
  have e3:(A*D'+A'*D).natAbs≤A.natAbs*D'+A'.natAbs*D:=by
   refine Nat.le_trans (Int.natAbs_add_le _ _) ?_
   rw[Int.natAbs_mul,Int.natAbs_mul]
   exact Nat.le_refl _
  rw[Nat.pow_succ]
  omega
abbrev Fr:Type:=Bool×ByteArray×ByteArray
def frv (f:Fr):Rat:=val f.1 f.2.1 f.2.2
def fw:List Fr→Nat
 |[]=>0
 |f::l=>f.2.1.size+f.2.2.size+2+fw l
def fsum (l:List Fr):Rat:=l.foldl (fun s f=>s+frv f) 0
theorem fsum_snoc (l:List Fr) (f:Fr):fsum (l++[f])=fsum l+frv f:=by simp[fsum]
theorem fw_append (a b:List Fr):fw (a++b)=fw a+fw b:=by
 induction a with
 |nil=>simp[fw]
 |cons f a ih=>simp only[List.cons_append,fw,ih];omega
theorem fw_take (l:List Fr) (k:Nat):fw (l.take k)≤fw l:=by
 have:=fw_append (l.take k) (l.drop k)
 rw[List.take_append_drop] at this
 omega
theorem fw_mem {l:List Fr} {f:Fr} (h:f∈l):f.2.1.size+f.2.2.size+2≤fw l:=by
 induction l with
 |nil=>cases h
 |cons g l ih=>
  rcases List.mem_cons.1 h with rfl |h
  ·simp only[fw];omega
  ·have:=ih h;simp only[fw];omega
theorem fits_sum (l:List Fr):Fits (fw l+1) (fsum l):=by
 induction l using snoc_ind with
 |h0=>exact⟨0,1,by decide,(Rat.zero_mkRat _).symm,by decide,by decide⟩
 |h1 l f ih=>
  rw[fsum_snoc,fw_append]
  have:=fits_add ih (fits_val f.1 f.2.1 f.2.2)
  have e:fw l+1+(f.2.1.size+f.2.2.size+1)+1=fw l+fw [f]+1:=by simp only[fw];omega
  rwa [e] at this
theorem take_one {l:List Fr} {k:Nat} (h:k<l.length):fsum (l.take (k+1))=fsum (l.take k)+frv l[k]:=by
 rw[List.take_succ_eq_append_getElem h,fsum_snoc]
def FrS (w:World) (a:Option Addr) (l:List Fr):Prop:=∀k (h:k<l.length),∃g o,a=some ⟨g,o,none⟩∧g<w.heap.size∧w.cell? ⟨g,o+k*3,none⟩=some (.bool l[k].1)∧w.cell? ⟨g,o+k*3+1,none⟩=some (.string l[k].2.1)∧w.cell? ⟨g,o+k*3+2,none⟩=some (.string l[k].2.2)
theorem FrS.below {w w':World} {a:Option Addr} {l:List Fr} (h:FrS w a l) (hb:Below w.heap.size w w'):FrS w' a l:=fun k hk=>by
 obtain⟨g,o,h1,h2,h3,h4,h5⟩:=h k hk
 exact⟨g,o,h1,Nat.lt_of_lt_of_le h2 hb.size,(hb.cell (p:=⟨g,_,none⟩) h2).trans h3,(hb.cell (p:=⟨g,_,none⟩) h2).trans h4,(hb.cell (p:=⟨g,_,none⟩) h2).trans h5⟩
set_option maxRecDepth 100000 in
set_option maxHeartbeats 1000000 in
theorem fSum_cw (a:Option Addr) (cap:Nat) (l:List Fr) (w:World) (h:FrS w a l) (hl:∀k (h:k<l.length),l[k].2.1.size+l[k].2.2.size≤40000) (hq:∀k,k≤l.length→qw (fsum (l.take k))≤40000) (hn:l.length≤10000):
  Calls Tryz.prog 30 #[.slice a l.length cap] w fun e w'=>e=.returned (C (fsum l))∧Below w.heap.size w w':=by
 have HF:=hide h
 have HL:=hide hl
 have HQ:=hide hq
 clear h hl hq
 have HFIN:Hid (fsum (l.take l.length)=fsum l):=by show _=_;rw[List.take_length]
 go_enter Tryz.func30,Tryz.ntmps30
 have hbr:=Box.at (w:=w) rfl false ⟨#[]⟩ ⟨#[]⟩
 have hB0:Below w.heap.size w (w.alloc (FC false ⟨#[]⟩ ⟨#[]⟩)):=(Below.refl _ w).alloc (Nat.le_refl _) _
 go_wp2_with fail
 refine(nought_any _).mono ?_
 rintro e w1 ⟨rfl,hb1⟩
 have hr1:=hbr.below hb1 hbr.lt
 have hB1:Below w.heap.size w w1:=hB0.trans (hb1.mono hB0.size)
 clear hbr hB0 hb1
 rw[C_eq]
 go_wp2_with fail
 have hlt1:=hr1.lt
 go_loopw [9] (fun iv wr=>∃k:Nat,k≤l.length∧iv=.int .i64 k∧Hid (Box wr w1.heap.size (sgn (fsum (l.take k))) (nu (fsum (l.take k))) (de (fsum (l.take k))))∧Hid (Box wr w.heap.size false ⟨#[]⟩ ⟨#[]⟩)∧Below w.heap.size w wr) (fun iv _=>l.length - (intOf iv).toNat)
 case atStart=>exact⟨0,Nat.zero_le _,rfl,Box.at rfl _ _ _,hr1.alloc _,hB1.alloc hB1.size _⟩
 case round=>
  obtain⟨k,hk,rfl,HS,HR,hBr⟩:=hrel
  by_cases hlt:k<l.length
  ·obtain⟨g,o,rfl,hg,c0,c1,c2⟩:=(HF.out.below hBr) k hlt
   have hstep:=take_one hlt
   have hmem:=HL.out k hlt
   have hfit:=HQ.out k hk
   have hz:=own_size (fsum (l.take k))
   have HADD:=hide (fun V=>fAdd_any (sgn (fsum (l.take k))) l[k].1 (nu (fsum (l.take k))) (de (fsum (l.take k))) l[k].2.1 l[k].2.2 V (by omega) (by omega) (by omega) (by omega))
   rw[val_own,show val l[k].1 l[k].2.1 l[k].2.2=frv l[k] from rfl,←hstep] at HADD
   have hbq:=HS.out
   clear HS hstep hmem hfit hz
   generalize l[k].1=fn at *
   generalize l[k].2.1=fx at *
   generalize l[k].2.2=fy at *
   obtain⟨k0,k1,k2,f0,f1,f2⟩:=hbq.facts
   have hgl:=hbq.lt
   go_wp2_with fail
   refine(HADD.out _).mono ?_
   rintro e w2 ⟨rfl,hb2⟩
   have hs2:=(hbq.alloc (FC fn fx fy)).below hb2 (hbq.alloc (FC fn fx fy)).lt
   have hr2:=(HR.out.alloc (FC fn fx fy)).below hb2 (HR.out.alloc (FC fn fx fy)).lt
   have hB2':=hBr.alloc hBr.size (FC fn fx fy)
   have hB2:Below w.heap.size w w2:=hB2'.trans (hb2.mono hB2'.size)
   clear k0 k1 k2 f0 f1 f2 c0 c1 c2
   obtain⟨k0,k1,k2,f0,f1,f2⟩:=hs2.facts
   rw[C_eq]
   go_wp2
   go_roundw
   case rel=>exact⟨k+1,by omega,by go_num,hs2.put _ _ _,hr2.far3 (by omega) _ _ _,below_put hB2 hB1.size _ _ _⟩
   case measure=>simp[intOf];omega
  ·obtain rfl:k=l.length:=by omega
   have hbq:=HS.out
   rw[HFIN.out] at hbq
   obtain⟨k0,k1,k2,f0,f1,f2⟩:=hbq.facts
   obtain⟨j0,j1,j2,i0,i1,i2⟩:=HR.out.facts
   go_wp2
   refine bodyPost_ret ((HR.out.put _ _ _).result rfl _ rfl) rfl ?_
   exact⟨rfl,below_put hBr (Nat.le_refl _) _ _ _⟩
theorem fSum_any (a:Option Addr) (cap:Nat) (l:List Fr) (w:World) (h:FrS w a l) (hl:fw l≤10000) (hn:l.length≤10000):
  Calls Tryz.prog 30 #[.slice a l.length cap] w fun e w'=>e=.returned (C (fsum l))∧Below w.heap.size w w':=
 fSum_cw a cap l w h (fun k hk=>by have:=fw_mem (List.getElem_mem hk);omega) (fun k _=>by have:=fits_qw (fits_sum (l.take k));have:=fw_take l k;omega) hn
set_option maxRecDepth 100000 in
set_option maxHeartbeats 2000000 in
theorem rSum_any (a:Option Addr) (cap:Nat) (l:List Fr) (w:World) (h:FrS w a l) (hl:fw l≤10000) (hn:l.length≤10000):
  Calls Tryz.prog 85 #[.slice a l.length cap] w fun e w'=>e=.returned (C (fsum l))∧Below w.heap.size w w':=by
 have HF:=hide h
 clear h
 have HFIN:Hid (fsum (l.take l.length)=fsum l):=by show _=_;rw[List.take_length]
 have HO:=hide (fun V=>rOfF_any 0 V (by omega) (by omega))
 rw[Rat.zero_mkRat] at HO
 go_enter Tryz.func85,Tryz.ntmps85
 have hbr:=Box.at (w:=w) rfl false ⟨#[]⟩ ⟨#[]⟩
 have hB0:Below w.heap.size w (w.alloc (FC false ⟨#[]⟩ ⟨#[]⟩)):=(Below.refl _ w).alloc (Nat.le_refl _) _
 go_wp2_with fail
 refine(HO.out _).mono ?_
 rintro e w1 ⟨rfl,hb1⟩
 have hr1:=hbr.below hb1 hbr.lt
 have hB1:Below w.heap.size w w1:=hB0.trans (hb1.mono hB0.size)
 clear hbr hB0 hb1
 rw[C_eq]
 go_wp2_with fail
 have hlt1:=hr1.lt
 go_loopw [4] (fun iv wr=>∃k:Nat,k≤l.length∧iv=.int .i64 k∧Hid (Box wr w1.heap.size (sgn (fsum (l.take k))) (nu (fsum (l.take k))) (de (fsum (l.take k))))∧Hid (Box wr w.heap.size false ⟨#[]⟩ ⟨#[]⟩)∧Below w.heap.size w wr) (fun iv _=>l.length - (intOf iv).toNat)
 case atStart=>exact⟨0,Nat.zero_le _,rfl,Box.at rfl _ _ _,hr1.alloc _,hB1.alloc hB1.size _⟩
 case round=>
  obtain⟨k,hk,rfl,HS,HR,hBr⟩:=hrel
  by_cases hlt:k<l.length
  ·obtain⟨g,o,rfl,hg,c0,c1,c2⟩:=(HF.out.below hBr) k hlt
   have hstep:=take_one hlt
   have hmem:=fw_mem (List.getElem_mem hlt)
   have hfit:=fits_qw (fits_sum (l.take k))
   have hft:=fw_take l k
   have hz:=own_size (fsum (l.take k))
   have HADD:=hide (fun V=>rAddF_any (sgn (fsum (l.take k))) l[k].1 (nu (fsum (l.take k))) (de (fsum (l.take k))) l[k].2.1 l[k].2.2 V (by omega) (by omega))
   rw[val_own,show val l[k].1 l[k].2.1 l[k].2.2=frv l[k] from rfl,←hstep] at HADD
   have hbq:=HS.out
   clear HS hstep hmem hfit hft hz
   generalize l[k].1=fn at *
   generalize l[k].2.1=fx at *
   generalize l[k].2.2=fy at *
   obtain⟨k0,k1,k2,f0,f1,f2⟩:=hbq.facts
   have hgl:=hbq.lt
   go_upto_region 5 with fail
   go_region_with (
     (go_at_call 36;refine(HADD.out _).mono ?_;rintro e w2 ⟨rfl,hb2⟩;have hs2:=hbq.drew.below hb2 hbq.lt;have hr2:=(Box.drew HR.out).below hb2 HR.out.lt;have hB2:=hBr.drew.trans (hb2.mono hBr.size);obtain⟨k0,k1,k2,f0,f1,f2⟩:=hs2.facts;rw[C_eq]))
   all_goals
    go_wp2
    go_roundw
    case rel=>exact⟨k+1,by omega,by go_num,hs2.put _ _ _,hr2.far3 (by omega) _ _ _,below_put hB2 hB1.size _ _ _⟩
    case measure=>simp[intOf];omega
  ·obtain rfl:k=l.length:=by omega
   have hbq:=HS.out
   rw[HFIN.out] at hbq
   obtain⟨k0,k1,k2,f0,f1,f2⟩:=hbq.facts
   obtain⟨j0,j1,j2,i0,i1,i2⟩:=HR.out.facts
   go_wp2
   refine bodyPost_ret ((HR.out.put _ _ _).result rfl _ rfl) rfl ?_
   exact⟨rfl,below_put hBr (Nat.le_refl _) _ _ _⟩
end Go.Proofs.YtgamblainfkiaaaGreatDoor

/- Lists of ints in memory; the document's answer: what is in a list, sizes that may be, lists that rise. -/
namespace Go.Proofs.YtgamblainfkiaaaGreatDoor
open Go.RowKit
theorem hid {p:Prop} (h:p):Hid p:=h
def IntS (w:World) (a:Option Addr) (l:List Int):Prop:=∀k (h:k<l.length),∃g o,a=some ⟨g,o,none⟩∧g<w.heap.size∧w.cell? ⟨g,o+k,none⟩=some (.int .i64 l[k])
theorem IntS.below {w w':World} {a:Option Addr} {l:List Int} (h:IntS w a l) (hb:Below w.heap.size w w'):IntS w' a l:=fun k hk=>by
 obtain⟨g,o,h1,h2,h3⟩:=h k hk
 exact⟨g,o,h1,Nat.lt_of_lt_of_le h2 hb.size,(hb.cell (p:=⟨g,_,none⟩) h2).trans h3⟩
theorem below_dn {B:Nat} {a b:World} (h:Below B a b) (k:Nat):Below B a (b.drewN k):=⟨h.os,h.tape,h.output,h.size,h.block⟩
end Go.Proofs.YtgamblainfkiaaaGreatDoor

/- The document's answer: lists that rise. -/
namespace Go.Proofs.YtgamblainfkiaaaGreatDoor
open Go.RowKit
def okAt (l:List Int) (n:Int) (i:Nat):Bool:=decide (0≤l.getD i 0∧l.getD i 0<n∧(0<i→l.getD (i - 1) 0<l.getD i 0))
def risB (l:List Int) (n:Int):Bool:=(List.range l.length).all (okAt l n)
end Go.Proofs.YtgamblainfkiaaaGreatDoor

/- Plain facts on assignments of variables and their places in tables; nothing of the program is named here. -/
namespace Go.Proofs.YtgamblainfkiaaaGreatDoor
def sz (S:List Nat) (v:Nat):Nat:=S[v]?.getD 1
def cnt (S:List Nat):List Nat→Nat
 |[]=>1
 |v::vs=>sz S v*cnt S vs
def asg (S:List Nat):List Nat→Nat→Nat→Nat
 |[],_,_=>0
 |u::vs,k,v=>if v=u then k/cnt S vs else asg S vs (k % cnt S vs) v
theorem asg_out {S:List Nat}:∀ {vs:List Nat} {k v:Nat},¬v∈vs→asg S vs k v=0
 |[],_,_,_=>rfl
 |u::vs,k,v,h=>by
  rw[asg,if_neg (fun e=>h (by rw[e];exact List.mem_cons_self))]
  exact asg_out fun e=>h (List.mem_cons_of_mem _ e)
def stp (S:List Nat):List Nat→Nat→Nat
 |[],_=>0
 |u::vs,v=>if v=u then cnt S vs else stp S vs v
theorem stp_out {S:List Nat}:∀ {vs:List Nat} {v:Nat},¬v∈vs→stp S vs v=0
 |[],_,_=>rfl
 |u::vs,v,h=>by
  rw[stp,if_neg (fun e=>h (by rw[e];exact List.mem_cons_self))]
  exact stp_out fun e=>h (List.mem_cons_of_mem _ e)
def pos (S:List Nat) (f:Nat→Nat) (vs:List Nat):Nat:=vs.foldl (fun k v=>k*sz S v+f v) 0
def sumL (g:Nat→Nat):List Nat→Nat
 |[]=>0
 |v::vs=>g v+sumL g vs
theorem sumL_append (g:Nat→Nat) (a b:List Nat):sumL g (a++b)=sumL g a+sumL g b:=by
 induction a with
 |nil=>simp[sumL]
 |cons v a ih=>simp only[List.cons_append,sumL,ih];omega
theorem sumL_congr {g h:Nat→Nat}:∀ {l:List Nat},(∀v∈l,g v=h v)→sumL g l=sumL h l
 |[],_=>rfl
 |v::l,e=>by rw[sumL,sumL,e v List.mem_cons_self,sumL_congr fun u hu=>e u (List.mem_cons_of_mem _ hu)]
theorem foldl_pos (S:List Nat) (f:Nat→Nat):∀(vs:List Nat) (k:Nat),vs.foldl (fun k v=>k*sz S v+f v) k=k*cnt S vs+pos S f vs
 |[],k=>by simp[pos,cnt]
 |v::vs,k=>by
  have e:pos S f (v::vs)=f v*cnt S vs+pos S f vs:=by
   show vs.foldl (fun k v=>k*sz S v+f v) (0*sz S v+f v)=_
   rw[foldl_pos S f vs,Nat.zero_mul,Nat.zero_add]
  rw[List.foldl_cons,foldl_pos S f vs,e,cnt,Nat.add_mul,Nat.mul_assoc]
  omega
theorem pos_sum (S:List Nat) (f:Nat→Nat):∀ {vs:List Nat},vs.Nodup→pos S f vs=sumL (fun v=>f v*stp S vs v) vs
 |[],_=>rfl
 |u::vs,h=>by
  rw[List.nodup_cons] at h
  rw[pos,List.foldl_cons,foldl_pos,sumL,pos_sum S f h.2,Nat.zero_mul,Nat.zero_add]
  congr 1
  ·rw[stp,if_pos rfl]
  ·exact sumL_congr fun v hv=>by rw[stp,if_neg (fun e=>h.1 (by rw[←e];exact hv))]
theorem sumL_all (g:Nat→Nat) (n:Nat):∀ {vs:List Nat},vs.Nodup→(∀v∈vs,v<n)→(∀v,¬v∈vs→g v=0)→sumL g vs=sumL g (List.range n):=by
 intro vs hn hlt h0
 have key:∀ {vs:List Nat},vs.Nodup→(∀v∈vs,v<n)→sumL g vs=sumL (fun v=>if v∈vs then g v else 0) (List.range n):=by
  intro vs
  induction vs with
  |nil=>
   intro _ _
   have:∀l:List Nat,sumL (fun v=>if v∈([]:List Nat) then g v else 0) l=0:=by
    intro l
    induction l with
    |nil=>rfl
    |cons x l ih=>rw[sumL,ih];simp
   rw[this];rfl
  |cons u vs ih=>
   intro hn hlt
   rw[List.nodup_cons] at hn
   rw[sumL,ih hn.2 fun v hv=>hlt v (List.mem_cons_of_mem _ hv)]
   have hu:=hlt u List.mem_cons_self
   have one:∀m,u<m→sumL (fun v=>if v∈u::vs then g v else 0) (List.range m)=g u+sumL (fun v=>if v∈vs then g v else 0) (List.range m):=by
    intro m
    induction m with
    |zero=>intro h;omega
    |succ m ihm=>
     intro h
     rw[List.range_succ,sumL_append,sumL_append]
     by_cases e:u=m
     ·subst e
      have:sumL (fun v=>if v∈u::vs then g v else 0) (List.range u)=sumL (fun v=>if v∈vs then g v else 0) (List.range u):=sumL_congr fun v hv=>by
       have:¬v=u:=by have:=List.mem_range.1 hv;omega
       simp[this]
      rw[this]
      simp[sumL,hn.1]
      omega
     ·rw[ihm (by omega)]
      have:¬m=u:=fun h=>e h.symm
      simp[sumL,this]
      omega
   rw[one n hu]
 rw[key hn hlt]
 exact sumL_congr fun v _=>by
  by_cases h:v∈vs
  ·rw[if_pos h]
  ·rw[if_neg h,h0 v h]
theorem stand {S vs other:List Nat} (n k:Nat) (hv:vs.Nodup) (ho:other.Nodup) (hvl:∀v∈vs,v<n) (hol:∀v∈other,v<n):sumL (fun v=>asg S vs k v*stp S other v) vs=pos S (asg S vs k) other:=by
 rw[pos_sum S _ ho,sumL_all _ n hv hvl,sumL_all _ n ho hol]
 ·intro v h;rw[stp_out h,Nat.mul_zero]
 ·intro v h;rw[asg_out h,Nat.zero_mul]
end Go.Proofs.YtgamblainfkiaaaGreatDoor

/- Sizes and variables that may be, as natural numbers; the document's answer: how many assignments there are. -/
namespace Go.Proofs.YtgamblainfkiaaaGreatDoor
open Go.RowKit
def toN (l:List Int):List Nat:=l.map Int.toNat
structure Up (l:List Int) (n:Nat):Prop where
 each:∀i (h:i<l.length),0≤l[i]∧l[i]<n
 lt:∀i j (hj:j<l.length) (hi:i<j),l[i]<l[j]
end Go.Proofs.YtgamblainfkiaaaGreatDoor

/- The document's answer: the assignment of a place. -/
namespace Go.Proofs.YtgamblainfkiaaaGreatDoor
open Go.RowKit
def partD (l:List Nat) (i:Nat):List Nat:=l.take i++List.replicate (l.length - i) 0
theorem partD_zero (l:List Nat):partD l 0=List.replicate l.length 0:=by simp[partD]
theorem partD_length (l:List Nat) {i:Nat} (h:i≤l.length):(partD l i).length=l.length:=by simp[partD];omega
theorem partD_all (l:List Nat):partD l l.length=l:=by simp[partD]
theorem partD_set (l:List Nat) {i:Nat} (h:i<l.length):(partD l i).set i l[i]=partD l (i+1):=by
 rw[partD,partD,List.set_append_right _ _ (by simp;omega),List.take_succ_eq_append_getElem h]
 have e:l.length - i=(l.length - (i+1))+1:=by omega
 rw[e,List.replicate_succ,List.length_take,Nat.min_eq_left (by omega),Nat.sub_self,List.set_cons_zero,List.append_assoc]
 rfl
def iL (l:List Nat):List Int:=l.map fun x:Nat=>(x:Int)
theorem iL_length (l:List Nat):(iL l).length=l.length:=by simp[iL]
theorem RowI.ints {w:World} {g:Nat} {l:List Nat} (h:RowI w g l):IntS w (some ⟨g,0,none⟩) (iL l):=fun k hk=>by
 rw[iL_length] at hk
 refine⟨g,0,rfl,h.lt,?_⟩
 rw[Nat.zero_add,h.cell k hk]
 simp[iL]
end Go.Proofs.YtgamblainfkiaaaGreatDoor

/- Package table: the assignment of a place. -/
namespace Go.Proofs.YtgamblainfkiaaaGreatDoor
open Go.RowKit Go.Shelf
attribute [local go_sem] Oper.semAt_some
theorem RowI.off {V:World} {g:Nat} {l:List Nat} (h:RowI V g l) (b j:Nat) (y:Value) (hne:g≠b):RowI (V.setCell ⟨b,j,none⟩ y) g l:=(Below.heap_setCell V ⟨b,j,none⟩ y g hne).trans h
end Go.Proofs.YtgamblainfkiaaaGreatDoor

/- Package table: join. -/
namespace Go.Proofs.YtgamblainfkiaaaGreatDoor
open Go.RowKit Go.Shelf
abbrev frV (f:Fr):Value:=.agg #[.bool f.1,.string f.2.1,.string f.2.2]
end Go.Proofs.YtgamblainfkiaaaGreatDoor

/- Package table: the ways of joining. -/
namespace Go.Proofs.YtgamblainfkiaaaGreatDoor
open Go.RowKit Go.Shelf
abbrev frQ (f:Fr):Rat:=val f.1 f.2.1 f.2.2
def great (f g:Fr):Fr:=if cmpQ (frQ f) (frQ g)<0 then g else f
end Go.Proofs.YtgamblainfkiaaaGreatDoor

/- Package graph: lists of lists, and their sets. -/
namespace Go.Proofs.YtgamblainfkiaaaGreatDoor
open Go.RowKit
def LsS (w:World) (a:Option Addr) (L:List (List Int)):Prop:=∀k (h:k<L.length),∃g o b c,a=some ⟨g,o,none⟩∧g<w.heap.size∧w.cell? ⟨g,o+k,none⟩=some (.slice b L[k].length c)∧IntS w b L[k]
theorem LsS.below {w w':World} {a:Option Addr} {L:List (List Int)} (h:LsS w a L) (hb:Below w.heap.size w w'):LsS w' a L:=fun k hk=>by
 obtain⟨g,o,b,c,h1,h2,h3,h4⟩:=h k hk
 exact⟨g,o,b,c,h1,Nat.lt_of_lt_of_le h2 hb.size,(hb.cell (p:=⟨g,o+k,none⟩) h2).trans h3,h4.below hb⟩
def LsN (w:World) (a:Option Addr) (L:List (List Int)):Prop:=∀k,k<L.length→∀g o b n c,a=some ⟨g,o,none⟩→w.cell? ⟨g,o+k,none⟩=some (.slice b n c)→b=none→c=0
def allRis (L:List (List Int)) (n:Nat):Bool:=L.all fun l=>risB l n
end Go.Proofs.YtgamblainfkiaaaGreatDoor

/- Package graph: readOthers. -/
namespace Go.Proofs.YtgamblainfkiaaaGreatDoor
open Go.RowKit
def noSelf (L:List (List Int)):Bool:=(List.range L.length).all fun v=>!decide (v∈toN (L.getD v []))
def gB (L:List (List Int)):Bool:=decide (1≤L.length∧L.length≤8)&&allRis L L.length&&noSelf L
end Go.Proofs.YtgamblainfkiaaaGreatDoor

/- Lists of names: checkNames of package net, namesOK of the document's answer. -/
namespace Go.Proofs.YtgamblainfkiaaaGreatDoor
open Go.RowKit
def StS (w:World) (a:Option Addr) (l:List ByteArray):Prop:=∀k (h:k<l.length),∃g o,a=some ⟨g,o,none⟩∧g<w.heap.size∧w.cell? ⟨g,o+k,none⟩=some (.string l[k])
theorem StS.below {w w':World} {a:Option Addr} {l:List ByteArray} (h:StS w a l) (hb:Below w.heap.size w w'):StS w' a l:=fun k hk=>by
 obtain⟨g,o,h1,h2,h3⟩:=h k hk
 exact⟨g,o,h1,Nat.lt_of_lt_of_le h2 hb.size,(hb.cell (p:=⟨g,o+k,none⟩) h2).trans h3⟩
theorem bytes_eq {a b:ByteArray}:(a.toList==b.toList)=decide (a=b):=by
 rw[Bool.eq_iff_iff,beq_iff_eq,decide_eq_true_iff]
 constructor
 ·intro h
  rw[toList_data,toList_data] at h
  obtain⟨⟨x⟩⟩:=a
  obtain⟨⟨y⟩⟩:=b
  simp only at h
  rw[h]
 ·intro h;rw[h]
end Go.Proofs.YtgamblainfkiaaaGreatDoor

/- Rows of chances: isRow of package net. -/
namespace Go.Proofs.YtgamblainfkiaaaGreatDoor
open Go.RowKit Go.Shelf
def rowB (l:List Fr):Bool:=(l.all fun f=>decide (¬frQ f<0))&&decide (fsum l=1)
theorem cmp_below {p:Rat}:cmpQ p 0<0↔p<0:=by
 rw[cmpQ]
 by_cases h:p<0
 ·rw[if_pos h];exact⟨fun _=>h,fun _=>by decide⟩
 ·rw[if_neg h]
  by_cases e:p=0
  ·rw[if_pos e];exact⟨fun h=>absurd h (by decide),fun h'=>absurd h' h⟩
  ·rw[if_neg e];exact⟨fun h=>absurd h (by decide),fun h'=>absurd h' h⟩
theorem cmp_same {p:Rat}:(cmpQ p 1==0)=decide (p=1):=by
 rw[Bool.eq_iff_iff,beq_iff_eq,decide_eq_true_iff,cmpQ]
 by_cases h:p<1
 ·rw[if_pos h];exact⟨fun h=>absurd h (by decide),fun e=>by rw[e] at h;exact absurd h (by decide)⟩
 ·rw[if_neg h]
  by_cases e:p=1
  ·rw[if_pos e];exact⟨fun _=>e,fun _=>rfl⟩
  ·rw[if_neg e];exact⟨fun h=>absurd h (by decide),fun h'=>absurd h' e⟩
theorem rowB_neg {l:List Fr} {i:Nat} (h:i<l.length) (e:frQ l[i]<0):rowB l=false:=by
 have:(l.all fun f=>decide (¬frQ f<0))=false:=by
  rw[List.all_eq_false];exact⟨l[i],List.getElem_mem h,by simpa using e⟩
 rw[rowB,this];rfl
theorem rowB_all {l:List Fr} (h:∀i (hi:i<l.length),¬frQ l[i]<0):rowB l=decide (fsum l=1):=by
 have:(l.all fun f=>decide (¬frQ f<0))=true:=by
  rw[List.all_eq_true]
  intro f hf
  obtain⟨i,hi,rfl⟩:=List.getElem_of_mem hf
  exact decide_eq_true (h i hi)
 rw[rowB,this,Bool.true_and]
theorem qw_one2:qw 1≤2:=by
 show (B 1).size+(B 1).size≤2
 have:=B_one_size
 omega
theorem fw_each {l:List Fr} {i:Nat} (h:i<l.length) (hw:fw l≤10000):l[i].2.1.size+l[i].2.2.size≤10000:=by have:=fw_mem (List.getElem_mem h);omega
end Go.Proofs.YtgamblainfkiaaaGreatDoor

/- slices.IndexFunc and slices.ContainsFunc of fractions, whatever is asked; the first number of which something holds. -/
namespace Go.Proofs.YtgamblainfkiaaaGreatDoor
open Go.RowKit Go.Shelf
set_option maxRecDepth 100000 in
set_option maxHeartbeats 400000 in
theorem idxFr_any (a:Option Addr) (ca f:Nat) (lb:Array Value) (F:List Fr) (p:Fr→Bool) (w:World) (h:FrS w a F) (hn:F.length≤10000) (eF:∀args w,(callFunc f args).run Tryz.prog w=.ok (.enter f args) w)
  (hp:∀q∈F,∀U:World,Below w.heap.size w U→Calls Tryz.prog f (#[.agg #[.bool q.1,.string q.2.1,.string q.2.2]]++lb) U fun e w'=>e=.returned (.bool (p q))∧Below U.heap.size U w'):
  Calls Tryz.prog 112 #[.slice a F.length ca,.func (.func f) #[] lb] w fun e w'=>∃j:Int,e=.returned (.int .i64 j)∧decide (0≤j)=F.any p∧Below w.heap.size w w':=by
 have HF:=hid h
 have HP:=hid hp
 have HNO:Hid ((∀i (hi:i<F.length),p F[i]=false)→F.any p=false):=fun hh=>List.any_eq_false.2 fun q hq=>by
  obtain⟨i,hi,rfl⟩:=List.getElem_of_mem hq
  rw[hh i hi];decide
 have HYE:Hid (∀i (hi:i<F.length),p F[i]=true→F.any p=true):=fun i hi hh=>List.any_eq_true.2 ⟨_,List.getElem_mem hi,hh⟩
 clear h hp
 generalize F.any p=R at *
 go_enter Tryz.func112,Tryz.ntmps112
 go_wp2_with fail
 go_loopw [8] (fun iv wr=>∃i:Nat,i≤F.length∧iv=.int .i64 i∧Hid (∀j (hj:j<F.length),j<i→p F[j]=false)∧Hid (Below w.heap.size w wr)) (fun iv _=>F.length - (intOf iv).toNat)
 case atStart=>exact⟨0,Nat.zero_le _,rfl,(fun j _ hj=>absurd hj (by omega)),Below.refl _ _⟩
 case round=>
  obtain⟨i,hi,rfl,HN,HB⟩:=hrel
  by_cases hlt:i<F.length
  ·obtain⟨g,o,rfl,hg,h0,h1,h2⟩:=HF.out i hlt
   have k0:=(HB.out.cell (p:=⟨g,_,none⟩) hg).trans h0
   have k1:=(HB.out.cell (p:=⟨g,_,none⟩) hg).trans h1
   have k2:=(HB.out.cell (p:=⟨g,_,none⟩) hg).trans h2
   have HC:=hid (HP.out F[i] (List.getElem_mem hlt) wr HB.out)
   have HYi:=hid (HYE.out i hlt)
   have HNX:Hid (p F[i]=false→∀j (hj:j<F.length),j<i+1→p F[j]=false):=fun e j hj hlt'=>by
    rcases Nat.lt_or_ge j i with h2 |h2
    ·exact HN.out j hj h2
    ·obtain rfl:j=i:=by omega
     exact e
   clear h0 h1 h2
   generalize p F[i]=q at *
   generalize F[i].1=f1 at *
   generalize F[i].2.1=f2 at *
   generalize F[i].2.2=f3 at *
   go_wp2_with fail
   refine HC.out.mono ?_
   rintro e w2 ⟨rfl,hb2⟩
   have HB2:=hid (HB.out.trans (hb2.mono HB.out.size))
   clear hb2 HC
   cases q with
   |true=>
    have HE:=hid (HYi.out rfl)
    go_wp2
    go_ret
    exact⟨(i:Nat),rfl,by rw[HE.out];simp,HB2.out⟩
   |false=>
    have HE:=hid (HNX.out rfl)
    go_wp2
    go_roundw
    case rel=>exact⟨i+1,by omega,by go_num,HE,HB2⟩
    case measure=>simp[intOf];omega
  ·obtain rfl:i=F.length:=by omega
   have HE:=hid (HNO.out fun j hj=>HN.out j hj hj)
   go_wp2
   go_ret
   exact⟨-1,rfl,by rw[HE.out];rfl,HB.out⟩
set_option maxRecDepth 100000 in
set_option maxHeartbeats 400000 in
theorem conFr_any (a:Option Addr) (ca f:Nat) (lb:Array Value) (F:List Fr) (p:Fr→Bool) (w:World) (h:FrS w a F) (hn:F.length≤10000) (eF:∀args w,(callFunc f args).run Tryz.prog w=.ok (.enter f args) w)
  (hp:∀q∈F,∀U:World,Below w.heap.size w U→Calls Tryz.prog f (#[.agg #[.bool q.1,.string q.2.1,.string q.2.2]]++lb) U fun e w'=>e=.returned (.bool (p q))∧Below U.heap.size U w'):
  Calls Tryz.prog 84 #[.slice a F.length ca,.func (.func f) #[] lb] w fun e w'=>e=.returned (.bool (F.any p))∧Below w.heap.size w w':=by
 have HI:=hid (idxFr_any a ca f lb F p w h hn eF hp)
 clear h hp
 generalize F.any p=R at *
 go_enter Tryz.func84,Tryz.ntmps84
 go_wp2_with fail
 refine HI.out.mono ?_
 rintro e w2 ⟨j,rfl,hj,hb2⟩
 have HB:=hid hb2
 have HJ:=hid hj
 clear hb2 hj
 go_wp2
 go_ret
 exact⟨by rw[←HJ.out];rfl,HB.out⟩
end Go.Proofs.YtgamblainfkiaaaGreatDoor

/- Rows of chances: Chances of the document's answer. -/
namespace Go.Proofs.YtgamblainfkiaaaGreatDoor
open Go.RowKit Go.Shelf
theorem one_eq {α:Type} {s:Rat} {T F:α}:(if sgn s=sgn 1 then if (nu s).toList=(nu 1).toList then if (de s).toList=(de 1).toList then T else F else F else F)=if s=1 then T else F:=by
 by_cases h:s=1
 ·subst h;simp
 ·rw[if_neg h]
  by_cases h1:sgn s=sgn 1
  ·by_cases h2:(nu s).toList=(nu 1).toList
   ·by_cases h3:(de s).toList=(de 1).toList
    ·exfalso
     apply h
     have e2:nu s=nu 1:=of_decide_eq_true (bytes_eq.symm.trans (beq_iff_eq.2 h2))
     have e3:de s=de 1:=of_decide_eq_true (bytes_eq.symm.trans (beq_iff_eq.2 h3))
     rw[←val_own s,h1,e2,e3,val_own]
    ·rw[if_pos h1,if_pos h2,if_neg h3]
   ·rw[if_pos h1,if_neg h2]
  ·rw[if_neg h1]
theorem rOf_zero (w:World):Calls Tryz.prog 33 #[.int .i64 0] w fun e w'=>e=.returned (.agg #[.bool (sgn 0),.string (nu 0),.string (de 0)])∧Below w.heap.size w w':=by
 have:=rOfF_any 0 w (by omega) (by omega)
 exact this
theorem rOf_one (w:World):Calls Tryz.prog 33 #[.int .i64 1] w fun e w'=>e=.returned (.agg #[.bool (sgn 1),.string (nu 1),.string (de 1)])∧Below w.heap.size w w':=by
 have:=rOfF_any 1 w (by omega) (by omega)
 exact this
set_option maxRecDepth 100000 in
set_option maxHeartbeats 1000000 in
theorem chances_any (a:Option Addr) (ca:Nat) (l:List Fr) (w:World) (h:FrS w a l) (hw:fw l≤10000) (hn:l.length≤10000):
  Calls Tryz.prog 42 #[.slice a l.length ca] w fun e w'=>e=.returned (.bool (rowB l))∧Below w.heap.size w w':=by
 have HF:=hid h
 have HW:=hid hw
 have HO:=hid rOf_zero
 have HO1:=hid rOf_one
 have HS:Hid (∀V:World,FrS V a l→Calls Tryz.prog 85 #[.slice a l.length ca] V fun e w'=>e=.returned (.agg #[.bool (sgn (fsum l)),.string (nu (fsum l)),.string (de (fsum l))])∧Below V.heap.size V w'):=fun V hV=>rSum_any a ca l V hV hw hn
 have HN:=hid (fun i h e=>rowB_neg (l:=l) (i:=i) h e)
 have HA:=hid (fun h=>rowB_all (l:=l) h)
 have HZ:Hid (val (sgn 0) (nu 0) (de 0)=0∧(nu 0).size+(de 0).size≤50000):=⟨val_own _,by have:=qw_zero;rw[own_size];omega⟩
 generalize rowB l=rb at *
 clear h hw
 go_enter Tryz.func42,Tryz.ntmps42
 go_wp2_with fail
 go_loopw [3] (fun iv wr=>∃i:Nat,i≤l.length∧iv=.int .i64 i∧Hid (∀j (hj:j<l.length),j<i→¬frQ l[j]<0)∧Hid (Below w.heap.size w wr)) (fun iv _=>l.length - (intOf iv).toNat)
 case atStart=>exact⟨0,Nat.zero_le _,rfl,fun j _ h=>absurd h (by omega),Below.refl _ _⟩
 case round=>
  obtain⟨i,hi,rfl,HP,HB⟩:=hrel
  by_cases hlt:i<l.length
  ·obtain⟨g,o,rfl,hg,c0,c1,c2⟩:=(HF.out.below HB.out) i hlt
   have hfe:=fw_each hlt HW.out
   have HNi:=hid (HN.out i hlt)
   have HPi:Hid (¬frQ l[i]<0→∀j (hj:j<l.length),j<i+1→¬frQ l[j]<0):=fun h j hj hji=>by
    rcases Nat.lt_or_ge j i with h2 |h2
    ·exact HP.out j hj h2
    ·obtain rfl:j=i:=by omega
     exact h
   generalize l[i]=f at *
   obtain⟨fn,fx,fy⟩:=f
   simp only at c0 c1 c2 hfe
   go_upto_region 4 with fail
   refine wp_region_held_drew (S:=fun u=>u.cell? ⟨g,o+i*3,none⟩=some (.bool fn)∧u.cell? ⟨g,o+i*3+1,none⟩=some (.string fx)∧u.cell? ⟨g,o+i*3+2,none⟩=some (.string fy)) (by kernel_rfl) ⟨c0,c1,c2⟩ (fun hSd=>?_)
   have hSg:g<wr.drew.heap.size:=hg
   have HBd:=hid HB.out.drew
   clear c0 c1 c2
   generalize wr.drew=u0 at *
   (try simp only[List.getElem_toArray,List.getElem_cons_zero,List.getElem_cons_succ])
   (try simp only[Act.put,List.setIfInBounds_toArray,List.set_cons_zero,List.set_cons_succ])
   refine wpAnyH_take (i:=0) (oi:=_) (v:=.slice (some ⟨g,o,none⟩) l.length ca) rfl (by kernel_rfl) (by kernel_rfl) (by kernel_rfl) (fun _ _ _ h=>h) (Or.inl ⟨by rfl,?_⟩) (by assumption) ?_
   ·intro u' hSu
    (try simp only[List.getElem_toArray,List.getElem_cons_zero])
    go_simp
   (try simp only[List.getElem_toArray,List.getElem_cons_zero])
   (try simp only[Act.put,List.setIfInBounds_toArray,List.set_cons_zero,List.set_cons_succ])
   refine wpAnyH_take (i:=1) (oi:=_) (v:=.int .i64 (i:Nat)) rfl (by kernel_rfl) (by kernel_rfl) (by kernel_rfl) (fun _ _ _ h=>h) (Or.inl ⟨by rfl,?_⟩) (by assumption) ?_
   ·intro u' hSu
    (try simp only[List.getElem_toArray,List.getElem_cons_zero,List.getElem_cons_succ])
    go_simp
   (try simp only[List.getElem_toArray,List.getElem_cons_zero,List.getElem_cons_succ])
   (try simp only[Act.put,List.setIfInBounds_toArray,List.set_cons_zero,List.set_cons_succ])
   refine wpAnyH_take (i:=2) (oi:=_) (v:=.pointer (some ⟨g,o+i*3,none⟩)) rfl (by kernel_rfl) (by kernel_rfl) (by kernel_rfl) (fun _ _ _ h=>h) (Or.inl ⟨by rfl,?_⟩) (by assumption) ?_
   ·intro u' hSu
    (try simp only[List.getElem_toArray,List.getElem_cons_zero,List.getElem_cons_succ])
    go_simp
   (try simp only[List.getElem_toArray,List.getElem_cons_zero,List.getElem_cons_succ])
   (try simp only[Act.put,List.setIfInBounds_toArray,List.set_cons_zero,List.set_cons_succ])
   refine wpAnyH_take (i:=3) (oi:=_) (v:=.agg #[.bool fn,.string fx,.string fy]) rfl (by kernel_rfl) (by kernel_rfl) (by kernel_rfl) (fun _ _ _ h=>h) (Or.inl ⟨by rfl,?_⟩) (by assumption) ?_
   ·intro u' hSu
    (try simp only[List.getElem_toArray,List.getElem_cons_zero,List.getElem_cons_succ])
    obtain⟨s0,s1,s2⟩:=hSu
    go_simp
   (try simp only[List.getElem_toArray,List.getElem_cons_zero,List.getElem_cons_succ])
   (try simp only[Act.put,List.setIfInBounds_toArray,List.set_cons_zero,List.set_cons_succ])
   refine wpAnyH_ready (rs:=[4]) (by kernel_rfl) (by simp) (AllReadyH.cons rfl ?_ (AllReadyH.nil))
   ·intro K' hK'
    (try simp only[List.getElem_toArray,List.getElem_cons_zero,List.getElem_cons_succ])
    go_simp
    refine(HO.out _).mono ?_
    rintro e u1 ⟨rfl,hb⟩
    refine hK'.out _ _ ⟨(hb.cell (p:=⟨g,o+i*3,none⟩) hSg).trans hSd.1,(hb.cell (p:=⟨g,o+i*3+1,none⟩) hSg).trans hSd.2.1,(hb.cell (p:=⟨g,o+i*3+2,none⟩) hSg).trans hSd.2.2⟩ (fun hSe=>?_)
    clear hK' K' hSd
    have hSd:=hSe
    clear hSe
    have hSg:=Nat.lt_of_lt_of_le hSg hb.size
    replace HBd:=hid (HBd.out.trans (hb.mono HBd.out.size))
    clear hb
    (try simp only[List.getElem_toArray,List.getElem_cons_zero,List.getElem_cons_succ])
    (try simp only[Act.put,List.setIfInBounds_toArray,List.set_cons_zero,List.set_cons_succ])
    refine wpAnyH_ready (rs:=[5]) (by kernel_rfl) (by simp) (AllReadyH.cons rfl ?_ (AllReadyH.nil))
    ·intro K' hK'
     (try simp only[List.getElem_toArray,List.getElem_cons_zero,List.getElem_cons_succ])
     go_simp
     refine(rCmpF_any fn (sgn 0) fx fy (nu 0) (de 0) _ (by omega) HZ.out.2).mono ?_
     rintro e u2 ⟨rfl,hb⟩
     rw[HZ.out.1]
     refine hK'.out _ _ ⟨(hb.cell (p:=⟨g,o+i*3,none⟩) hSg).trans hSd.1,(hb.cell (p:=⟨g,o+i*3+1,none⟩) hSg).trans hSd.2.1,(hb.cell (p:=⟨g,o+i*3+2,none⟩) hSg).trans hSd.2.2⟩ (fun hSe=>?_)
     clear hK' K' hSd
     have hSd:=hSe
     clear hSe
     have hSg:=Nat.lt_of_lt_of_le hSg hb.size
     replace HBd:=hid (HBd.out.trans (hb.mono HBd.out.size))
     clear hb
     (try simp only[List.getElem_toArray,List.getElem_cons_zero,List.getElem_cons_succ])
     (try simp only[Act.put,List.setIfInBounds_toArray,List.set_cons_zero,List.set_cons_succ])
     refine wpAnyH_take (i:=6) (oi:=_) (v:=.int .i64 (cmpQ (val fn fx fy) 0)) rfl (by kernel_rfl) (by kernel_rfl) (by kernel_rfl) (fun _ _ _ h=>h) (Or.inl ⟨by rfl,?_⟩) (by assumption) ?_
     ·intro u' hSu
      (try simp only[List.getElem_toArray,List.getElem_cons_zero,List.getElem_cons_succ])
      go_simp
     (try simp only[List.getElem_toArray,List.getElem_cons_zero,List.getElem_cons_succ])
     (try simp only[Act.put,List.setIfInBounds_toArray,List.set_cons_zero,List.set_cons_succ])
     refine wpAnyH_done (by kernel_rfl) ?_ _
     clear hSd hSg
     by_cases hneg:val fn fx fy<0
     ·have HE:=hid (HNi.out hneg)
      have hc:cmpQ (val fn fx fy) 0<0:=cmp_below.2 hneg
      clear hneg
      generalize cmpQ (val fn fx fy) 0=q at *
      go_wp2
      go_ret
      exact⟨by rw[HE.out];rfl,HBd.out⟩
     ·have HE:=hid (HPi.out hneg)
      have hc:0≤cmpQ (val fn fx fy) 0:=by
       have:¬cmpQ (val fn fx fy) 0<0:=fun h=>hneg (cmp_below.1 h)
       omega
      clear hneg
      generalize cmpQ (val fn fx fy) 0=q at *
      go_wp2
      go_roundw
      case rel=>exact⟨i+1,by omega,by go_num,HE,HBd⟩
      case measure=>simp[intOf];omega
  ·obtain rfl:i=l.length:=by omega
   have HE:=hid (HA.out fun j hj=>HP.out j hj hj)
   generalize fsum l=s at *
   go_wp2_with fail
   refine(HS.out _ (HF.out.below HB.out)).mono ?_
   rintro e w5 ⟨rfl,hb5⟩
   have HB5:=hid (HB.out.trans (hb5.mono HB.out.size))
   have HBX:=hid (Box.new w5 (sgn s) (nu s) (de s))
   have HBA:=hid (HB5.out.alloc HB5.out.size (FC (sgn s) (nu s) (de s)))
   clear hb5
   go_upto_region 8 with fail
   have hBd:Box (w5.alloc (FC (sgn s) (nu s) (de s))).drew w5.heap.size (sgn s) (nu s) (de s):=HBX.out
   have HBd:=hid HBA.out.drew
   generalize w5.heap.size=B5 at *
   refine wp_region_held_drew (S:=fun u=>u.cell? ⟨B5,0,none⟩=some (.bool (sgn s))∧u.cell? ⟨B5,1,none⟩=some (.string (nu s))∧u.cell? ⟨B5,2,none⟩=some (.string (de s))) (by kernel_rfl) ⟨hBd.c0,hBd.c1,hBd.c2⟩ (fun hSd=>?_)
   generalize (w5.alloc (FC (sgn s) (nu s) (de s))).drew=u0 at *
   (try simp only[List.getElem_toArray,List.getElem_cons_zero,List.getElem_cons_succ])
   (try simp only[Act.put,List.setIfInBounds_toArray,List.set_cons_zero,List.set_cons_succ])
   refine wpAnyH_take (i:=0) (oi:=_) (v:=.agg #[.bool (sgn s),.string (nu s),.string (de s)]) rfl (by kernel_rfl) (by kernel_rfl) (by kernel_rfl) (fun _ _ _ h=>h) (Or.inl ⟨by rfl,?_⟩) (by assumption) ?_
   ·intro u' hSu
    (try simp only[List.getElem_toArray,List.getElem_cons_zero])
    obtain⟨s0,s1,s2⟩:=hSu
    go_simp
   (try simp only[List.getElem_toArray,List.getElem_cons_zero])
   (try simp only[Act.put,List.setIfInBounds_toArray,List.set_cons_zero,List.set_cons_succ])
   refine wpAnyH_ready (rs:=[1]) (by kernel_rfl) (by simp) (AllReadyH.cons rfl ?_ (AllReadyH.nil))
   ·intro K' hK'
    (try simp only[List.getElem_toArray,List.getElem_cons_zero,List.getElem_cons_succ])
    go_simp
    refine(HO1.out _).mono ?_
    rintro e u1 ⟨rfl,hb⟩
    replace hBd:=hBd.below hb hBd.lt
    refine hK'.out _ _ ⟨hBd.c0,hBd.c1,hBd.c2⟩ (fun hSe=>?_)
    clear hK' K' hSd
    have hSd:=hSe
    clear hSe
    replace HBd:=hid (HBd.out.trans (hb.mono HBd.out.size))
    clear hb
    (try simp only[List.getElem_toArray,List.getElem_cons_zero,List.getElem_cons_succ])
    (try simp only[Act.put,List.setIfInBounds_toArray,List.set_cons_zero,List.set_cons_succ])
    refine wpAnyH_ready (rs:=[2]) (by kernel_rfl) (by simp) (AllReadyH.cons rfl ?_ (AllReadyH.nil))
    ·intro K' hK'
     (try simp only[List.getElem_toArray,List.getElem_cons_zero,List.getElem_cons_succ])
     go_simp
     rw[one_eq]
     by_cases h1:s=1
     ·rw[if_pos h1]
      go_simp
      refine hK'.out _ _ ⟨hBd.c0,hBd.c1,hBd.c2⟩ (fun hSe=>?_)
      clear hK' K' hSe
      have HT:Hid (decide (s=1)=true):=decide_eq_true h1
      clear h1
      (try simp only[List.getElem_toArray,List.getElem_cons_zero,List.getElem_cons_succ])
      (try simp only[Act.put,List.setIfInBounds_toArray,List.set_cons_zero,List.set_cons_succ])
      refine wpAnyH_take (i:=3) (oi:=_) (v:=.bool true) rfl (by kernel_rfl) (by kernel_rfl) (by kernel_rfl) (fun _ _ _ h=>h) (Or.inl ⟨by rfl,?_⟩) (by assumption) ?_
      ·intro u' hSu
       (try simp only[List.getElem_toArray,List.getElem_cons_zero,List.getElem_cons_succ])
       go_simp
      (try simp only[List.getElem_toArray,List.getElem_cons_zero,List.getElem_cons_succ])
      (try simp only[Act.put,List.setIfInBounds_toArray,List.set_cons_zero,List.set_cons_succ])
      refine wpAnyH_done (by kernel_rfl) ?_ _
      go_wp2
      go_ret
      exact⟨by rw[HE.out,HT.out];rfl,HBd.out⟩
     ·rw[if_neg h1]
      go_simp
      refine hK'.out _ _ ⟨hBd.c0,hBd.c1,hBd.c2⟩ (fun hSe=>?_)
      clear hK' K' hSe
      have HT:Hid (decide (s=1)=false):=decide_eq_false h1
      clear h1
      (try simp only[List.getElem_toArray,List.getElem_cons_zero,List.getElem_cons_succ])
      (try simp only[Act.put,List.setIfInBounds_toArray,List.set_cons_zero,List.set_cons_succ])
      refine wpAnyH_take (i:=3) (oi:=_) (v:=.bool false) rfl (by kernel_rfl) (by kernel_rfl) (by kernel_rfl) (fun _ _ _ h=>h) (Or.inl ⟨by rfl,?_⟩) (by assumption) ?_
      ·intro u' hSu
       (try simp only[List.getElem_toArray,List.getElem_cons_zero,List.getElem_cons_succ])
       go_simp
      (try simp only[List.getElem_toArray,List.getElem_cons_zero,List.getElem_cons_succ])
      (try simp only[Act.put,List.setIfInBounds_toArray,List.set_cons_zero,List.set_cons_succ])
      refine wpAnyH_done (by kernel_rfl) ?_ _
      go_wp2
      go_ret
      exact⟨by rw[HE.out,HT.out];rfl,HBd.out⟩
end Go.Proofs.YtgamblainfkiaaaGreatDoor

/- Rows of fractions. -/
namespace Go.Proofs.YtgamblainfkiaaaGreatDoor
open Go.RowKit Go.Shelf
def frC:List Fr→List Value
 |[]=>[]
 |f::l=>.bool f.1::.string f.2.1::.string f.2.2::frC l
theorem frC_length:∀l:List Fr,(frC l).length=3*l.length
 |[]=>rfl
 |f::l=>by simp only[frC,List.length_cons,frC_length l];omega
theorem frC_get:∀(l:List Fr) (k:Nat) (h:k<l.length),(frC l)[k*3]? =some (.bool l[k].1)∧(frC l)[k*3+1]? =some (.string l[k].2.1)∧(frC l)[k*3+2]? =some (.string l[k].2.2)
 |[],_,h=>absurd h (by simp)
 |f::l,0,_=>⟨rfl,rfl,rfl⟩
 |f::l,k+1,h=>by
  have h':k<l.length:=by simpa using h
  obtain⟨h1,h2,h3⟩:=frC_get l k h'
  have e:(k+1)*3=k*3+1+1+1:=by omega
  refine⟨?_,?_,?_⟩
  ·rw[e];exact h1
  ·rw[show (k+1)*3+1=(k*3+1)+1+1+1 by omega];exact h2
  ·rw[show (k+1)*3+2=(k*3+2)+1+1+1 by omega];exact h3
theorem frC_set:∀(l:List Fr) (k:Nat) (f:Fr),(((frC l).set (k*3) (.bool f.1)).set (k*3+1) (.string f.2.1)).set (k*3+2) (.string f.2.2)=frC (l.set k f)
 |[],k,f=>by simp[frC]
 |x::l,0,f=>by simp[frC]
 |x::l,k+1,f=>by
  rw[show (k+1)*3=k*3+1+1+1 by omega,show k*3+1+1+1+1=(k*3+1)+1+1+1 by omega,show k*3+1+1+1+2=(k*3+2)+1+1+1 by omega]
  simp only[frC,List.set_cons_succ,frC_set l k f]
def RowF (w:World) (g:Nat) (l:List Fr):Prop:=w.heap[g]? =some (.cells (frC l).toArray 30 (0,0))
theorem RowF.lt {w:World} {g:Nat} {l:List Fr} (h:RowF w g l):g<w.heap.size:=(Array.getElem?_eq_some_iff.1 h).1
theorem RowF.fz {w:World} {g:Nat} {l:List Fr} (h:RowF w g l) (j:Nat):w.frozen? ⟨g,j,none⟩=false:=frozen_of_row w g j _ _ h
theorem RowF.below {w w':World} {g b:Nat} {l:List Fr} (h:RowF w g l) (hb:Below b w w') (hg:g<b):RowF w' g l:=(hb.block g hg).trans h
theorem RowF.cells {w:World} {g:Nat} {l:List Fr} (h:RowF w g l) (k:Nat) (hk:k<l.length):w.cell? ⟨g,k*3,none⟩=some (.bool l[k].1)∧w.cell? ⟨g,k*3+1,none⟩=some (.string l[k].2.1)∧w.cell? ⟨g,k*3+2,none⟩=some (.string l[k].2.2):=by
 obtain⟨h1,h2,h3⟩:=frC_get l k hk
 refine⟨?_,?_,?_⟩<;>rw[cell_of_row w g _ _ _ (0,0) h]<;>simpa using (by assumption)
theorem RowF.fr {w:World} {g:Nat} {l:List Fr} (h:RowF w g l):FrS w (some ⟨g,0,none⟩) l:=fun k hk=>by
 obtain⟨h1,h2,h3⟩:=h.cells k hk
 refine⟨g,0,rfl,h.lt,?_,?_,?_⟩
 ·rw[Nat.zero_add];exact h1
 ·rw[Nat.zero_add];exact h2
 ·rw[Nat.zero_add];exact h3
theorem RowF.put {w:World} {g:Nat} {l:List Fr} (h:RowF w g l) (k:Nat) (f:Fr):RowF (((w.setCell ⟨g,k*3,none⟩ (.bool f.1)).setCell ⟨g,k*3+1,none⟩ (.string f.2.1)).setCell ⟨g,k*3+2,none⟩ (.string f.2.2)) g (l.set k f):=by
 have h1:=heap_setCell_same w g (k*3) _ _ (.bool f.1) h
 have h2:=heap_setCell_same _ g (k*3+1) _ _ (.string f.2.1) h1
 have h3:=heap_setCell_same _ g (k*3+2) _ _ (.string f.2.2) h2
 rw[RowF,h3,←frC_set]
 simp
end Go.Proofs.YtgamblainfkiaaaGreatDoor
