/- Package frac's differences, comparisons and quotients. -/
import Derived.Test.YtnnfmfdjgdgdhaaDoorNumRToFracD
import Derived.BigQuiet
import Derived.Test.YtnnfmfdjgdgdhaaDoorRefHToRefJ
import Derived.Test.YtnnfmfdjgdgdhaaDoorRefCToRefG
namespace Go.Proofs.YtnnfmfdjgdgdhaaDoor
open Go.RowKit

theorem Box.result2 {w : World} {g : Nat} {neg : Bool} {num den : ByteArray} (h : Box w g neg num den) {fn : Func} {p u : Tmp} (hr : fn.results = #[.cell p 30, .tmp u]) (tmps : Array Value) (hp : tmps.getD p undef = .pointer (some ⟨g, 0, none⟩)) :
    (results fn tmps).run Tryd.prog w = .ok (.tuple #[.agg #[.bool neg, .string num, .string den], tmps.getD u undef]) w := by
  rw [results_cell_tmp hr, hp]
  simp only [asAddr, Sem.run_pure, Result.andThen_ok]
  rw [run_loadVar_row w g _ 30 _ _ _ h Tryd.underlying30 rfl (by kernel_rfl)]
  simp only [Result.andThen_ok]

theorem cmp_of {p q : Rat} {n : Bool} {x d : Nat} (hd : d ≠ 0) (h : mkRat (sg n x) d = p - q) : cmpQ p q = if x = 0 then 0 else if n = true then -1 else 1 := by
  by_cases hx : x = 0
  · rw [if_pos hx]
    rw [hx, sg_zero, Rat.zero_mkRat] at h
    have : p = q := by grind
    subst this
    rw [cmpQ, if_neg (by grind), if_pos rfl]
  · rw [if_neg hx]
    obtain ⟨h1, h2⟩ := mk_sign n x d hd hx
    cases n
    · have := h2 rfl
      rw [h] at this
      rw [if_neg (by decide), cmpQ, if_neg (by grind), if_neg (by grind)]
    · have := h1 rfl
      rw [h] at this
      rw [if_pos rfl, cmpQ, if_pos (by grind)]

set_option maxRecDepth 100000 in
set_option maxHeartbeats 4000000 in
theorem fCmp_any (na nb : Bool) (xa ya xb yb : ByteArray) (w : World) (hxa : xa.size ≤ 137438953472) (hya : ya.size ≤ 137438953472) (hxb : xb.size ≤ 137438953472) (hyb : yb.size ≤ 137438953472) :
    Calls Tryd.prog 24 #[.agg #[.bool na, .string xa, .string ya], .agg #[.bool nb, .string xb, .string yb]] w fun e w' => e = .returned (.int .i64 (cmpQ (val na xa ya) (val nb xb yb))) ∧ Below w.heap.size w w' := by
  have hq : val na xa ya + val (!nb) xb yb = val na xa ya - val nb xb yb := by rw [val_not, Rat.sub_eq_add_neg]
  have HQ := hide hq
  clear hq
  go_enter Tryd.func24, Tryd.ntmps24
  have hba := ((Box.at (w := w) rfl na xa ya).alloc (FC nb xb yb)).drew
  have hbb := (Box.at (w := w.alloc (FC na xa ya)) (g := w.heap.size + 1) (by simp) nb xb yb).drew
  have hB0 : Below w.heap.size w ((w.alloc (FC na xa ya)).alloc (FC nb xb yb)).drew := (((Below.refl _ w).alloc (Nat.le_refl _) _).alloc (by simp) _).drew
  go_upto_region 1 with fail
  go_region_held3 (fun w' => (w'.cell? ⟨w.heap.size, 0, none⟩ = some (.bool na) ∧ w'.cell? ⟨w.heap.size, 1, none⟩ = some (.string xa) ∧ w'.cell? ⟨w.heap.size, 2, none⟩ = some (.string ya) ∧ w'.cell? ⟨w.heap.size + 1, 0, none⟩ = some (.bool nb) ∧ w'.cell? ⟨w.heap.size + 1, 1, none⟩ = some (.string xb) ∧ w'.cell? ⟨w.heap.size + 1, 2, none⟩ = some (.string yb)) ∧ Hid (Box w' w.heap.size na xa ya ∧ Box w' (w.heap.size + 1) nb xb yb ∧ Below w.heap.size w w'))
    (first
      | exact six_of hba2 hbb2 hB2 | exact six_of hba1 hbb1 hB1 | exact six_of hba hbb hB0)
    (first
      | (have hba1' := hba1; go_at_call 38; refine (together_any na (!nb) xa ya xb yb _ hxa hya hxb hyb).mono ?_; rintro e w2 ⟨n, x, d, rfl, hd, hv, sx, sd, hb2⟩; have hba2 := hba1'.below hb2 hba1'.lt; have hbb2 := hbb1.below hb2 hbb1.lt; have hB2 := hB1.trans (hb2.mono hB1.size); have hcmp := hide (cmp_of hd (hv.trans HQ.out)); clear hv)
      | (go_at_call 39; refine (opposite_any nb xb yb _).mono ?_; rintro e w1 ⟨rfl, hb1⟩; have hba1 := hba.below hb1 hba.lt; have hbb1 := hbb.below hb1 hbb.lt; have hB1 := hB0.trans (hb1.mono hB0.size)))
  have hN : ∀ V : World, Calls Tryd.prog 40 #[.string (B x)] V fun e w' => e = .returned (.bool (decide (x = 0))) ∧ w' = V := fun V => by
    have := isNought_any (B x) V
    rwa [N_B] at this
  have HN := hide hN
  clear hN
  go_wp2_with fail
  refine (HN.out _).mono ?_
  rintro e w3 ⟨rfl, hw⟩
  subst hw
  by_cases h0 : x = 0
  · rw [decide_eq_true h0]
    go_wp2
    go_ret
    exact ⟨by rw [hcmp.out, if_pos h0]; rfl, hB2⟩
  · rw [decide_eq_false h0]
    cases n
    · go_wp2
      go_ret
      exact ⟨by rw [hcmp.out, if_neg h0]; rfl, hB2⟩
    · go_wp2
      go_ret
      exact ⟨by rw [hcmp.out, if_neg h0]; rfl, hB2⟩
end Go.Proofs.YtnnfmfdjgdgdhaaDoor


/- Package frac's quotients and whole numbers. -/
namespace Go.Proofs.YtnnfmfdjgdgdhaaDoor
open Go.RowKit

set_option maxRecDepth 100000 in
set_option maxHeartbeats 1000000 in
theorem fOf_nat (n : Nat) (w : World) (h : n ≤ 9223372036854775807) :
    Calls Tryd.prog 26 #[.int .i64 (n : Int)] w fun e w' => e = .returned (C (n : Rat)) ∧ Below w.heap.size w w' := by
  have hq : val false (B n) (B 1) = (n : Rat) := by
    rw [val, N_B, N_B]
    show mkRat (n : Int) 1 = _
    rw [Rat.mkRat_one]
    rfl
  have s1 := B_one_size
  have s2 : (B n).size ≤ 1099511627776 := by
    have := bn_fits 8 n (by show n < 18446744073709551616; omega)
    rw [← B_size n] at this
    omega
  go_enter Tryd.func26, Tryd.ntmps26
  have hbr := Box.at (w := w) rfl false ⟨#[]⟩ ⟨#[]⟩
  have hB0 : Below w.heap.size w (w.alloc (FC false ⟨#[]⟩ ⟨#[]⟩)) := (Below.refl _ w).alloc (Nat.le_refl _) _
  have hB := Below.refl (w.alloc (FC false ⟨#[]⟩ ⟨#[]⟩)).heap.size (w.alloc (FC false ⟨#[]⟩ ⟨#[]⟩))
  go_wp2_with fail
  refine (Of_to n hB rfl (by omega)).mono ?_
  rintro e w1 ⟨rfl, hB⟩
  go_wp2_with fail
  refine (Of_to 1 hB rfl (by omega)).mono ?_
  rintro e w1 ⟨rfl, hB⟩
  go_wp2_with fail
  refine (Make_any false (B n) (B 1) _ s2 (by omega)).mono ?_
  rintro e w2 ⟨rfl, hb2⟩
  rw [hq]
  have hx1 := (hbr.below hB hbr.lt).below hb2 (hbr.below hB hbr.lt).lt
  have hB1 : Below w.heap.size w w2 := (hB0.trans (hB.mono hB0.size)).trans (hb2.mono (hB0.trans (hB.mono hB0.size)).size)
  obtain ⟨k0, k1, k2, f0, f1, f2⟩ := hx1.facts
  clear hbr hB0 hB
  rw [C_eq]
  go_wp2
  refine bodyPost_ret ((hx1.put _ _ _).result rfl _ rfl) rfl ?_
  exact ⟨rfl, below_put hB1 (by omega) _ _ _⟩
end Go.Proofs.YtnnfmfdjgdgdhaaDoor


/- Three fractions in a row: how many bytes they have, and their sum. -/
namespace Go.Proofs.YtnnfmfdjgdgdhaaDoor
open Go.RowKit

/-- The block g holds three fractions. -/
def Trio (w : World) (g : Nat) (na nb nc : Bool) (xa ya xb yb xc yc : ByteArray) : Prop := w.heap[g]? = some (.cells #[.bool na, .string xa, .string ya, .bool nb, .string xb, .string yb, .bool nc, .string xc, .string yc] 30 (0, 0))
theorem Trio.facts {w : World} {g : Nat} {na nb nc : Bool} {xa ya xb yb xc yc : ByteArray} (h : Trio w g na nb nc xa ya xb yb xc yc) : w.cell? ⟨g, 0, none⟩ = some (.bool na) ∧ w.cell? ⟨g, 1, none⟩ = some (.string xa) ∧ w.cell? ⟨g, 2, none⟩ = some (.string ya) ∧ w.cell? ⟨g, 3, none⟩ = some (.bool nb) ∧ w.cell? ⟨g, 4, none⟩ = some (.string xb) ∧ w.cell? ⟨g, 5, none⟩ = some (.string yb) ∧ w.cell? ⟨g, 6, none⟩ = some (.bool nc) ∧ w.cell? ⟨g, 7, none⟩ = some (.string xc) ∧ w.cell? ⟨g, 8, none⟩ = some (.string yc) := by
  refine ⟨?_, ?_, ?_, ?_, ?_, ?_, ?_, ?_, ?_⟩ <;> (rw [cell_of_row w g _ _ _ (0, 0) h]; rfl)
theorem Trio.lt {w : World} {g : Nat} {na nb nc : Bool} {xa ya xb yb xc yc : ByteArray} (h : Trio w g na nb nc xa ya xb yb xc yc) : g < w.heap.size := (Array.getElem?_eq_some_iff.1 h).1
theorem Trio.below {w w' : World} {g B : Nat} {na nb nc : Bool} {xa ya xb yb xc yc : ByteArray} (h : Trio w g na nb nc xa ya xb yb xc yc) (hb : Below B w w') (hB : g < B) : Trio w' g na nb nc xa ya xb yb xc yc := (hb.block g hB).trans h
theorem Trio.drew {w : World} {g : Nat} {na nb nc : Bool} {xa ya xb yb xc yc : ByteArray} (h : Trio w g na nb nc xa ya xb yb xc yc) : Trio w.drew g na nb nc xa ya xb yb xc yc := h

theorem below_drewN {B : Nat} {a b : World} (h : Below B a b) (k : Nat) : Below B a (b.drewN k) := ⟨h.os, h.tape, h.output, h.size, h.block⟩

set_option maxRecDepth 100000 in
set_option maxHeartbeats 4000000 in
theorem Sum_trio (g : Nat) (na nb nc : Bool) (xa ya xb yb xc yc : ByteArray) (w : World) (ht : Trio w g na nb nc xa ya xb yb xc yc) (hxa : xa.size + ya.size ≤ 1000) (hxb : xb.size + yb.size ≤ 1000) (hxc : xc.size + yc.size ≤ 1000) :
    Calls Tryd.prog 25 #[.slice (some ⟨g, 0, none⟩) 3 3] w fun e w' => e = .returned (C (val na xa ya + val nb xb yb + val nc xc yc)) ∧ Below w.heap.size w w' := by
  obtain ⟨c0, c1, c2, c3, c4, c5, c6, c7, c8⟩ := ht.facts
  go_enter Tryd.func25, Tryd.ntmps25
  have hbr := Box.at (w := w) rfl false ⟨#[]⟩ ⟨#[]⟩
  have hB0 : Below w.heap.size w (w.alloc (FC false ⟨#[]⟩ ⟨#[]⟩)) := (Below.refl _ w).alloc (Nat.le_refl _) _
  go_wp2_with fail
  refine (nought_any _).mono ?_
  rintro e w1 ⟨rfl, hb1⟩
  have hr1 := hbr.below hb1 hbr.lt
  have hB1 : Below w.heap.size w w1 := hB0.trans (hb1.mono hB0.size)
  have ht1 := ht.below hB1 ht.lt
  clear hbr hB0 c0 c1 c2 c3 c4 c5 c6 c7 c8
  obtain ⟨c0, c1, c2, c3, c4, c5, c6, c7, c8⟩ := ht1.facts
  have hg1 : g < w1.heap.size := ht1.lt
  have hlt : w.heap.size < w1.heap.size := hr1.lt
  have hg2 : ¬ g = w1.heap.size := by omega
  have hg3 : ¬ w1.heap.size = g := by omega
  rw [C_eq]
  go_wp2_with fail
  refine wp_loop_rounds 4 ?_
  rw [rounds_succ]
  go_wp2_with fail
  have z0 := own_size 0
  have z1 := qw_zero
  refine (fAdd_any (sgn 0) na (nu 0) (de 0) xa ya _ (by omega) (by omega) (by omega) (by omega)).mono ?_
  rintro e w2 ⟨rfl, hb2⟩
  have q2 : val (sgn 0) (nu 0) (de 0) + val na xa ya = val na xa ya := by rw [val_own, Rat.zero_add]
  have qs2 := qw_val na xa ya
  obtain ⟨p, hp⟩ : ∃ p, val na xa ya = p := ⟨_, rfl⟩
  rw [q2, hp, C_eq]
  rw [hp] at qs2
  have hs1 := (Box.at (w := w1) rfl (sgn 0) (nu 0) (de 0)).alloc (FC na xa ya)
  have hs2 := hs1.below hb2 hs1.lt
  have hr2 := ((hr1.alloc (FC (sgn 0) (nu 0) (de 0))).alloc (FC na xa ya)).below hb2 ((hr1.alloc (FC (sgn 0) (nu 0) (de 0))).alloc (FC na xa ya)).lt
  have hV1 : Below w.heap.size w ((w1.alloc (FC (sgn 0) (nu 0) (de 0))).alloc (FC na xa ya)) := (hB1.alloc hB1.size _).alloc (by simp; have := hB1.size; omega) _
  have hB2 : Below w.heap.size w w2 := hV1.trans (hb2.mono hV1.size)
  have ht2 := ht.below hB2 ht.lt
  have hz2 : w1.heap.size + 2 ≤ w2.heap.size := by have := hb2.size; simpa using this
  have HP := hide hp
  clear hp
  clear q2 hs1 hV1 hb2 hr1 ht1 c0 c1 c2 c3 c4 c5 c6 c7 c8 hb1
  obtain ⟨c0, c1, c2, c3, c4, c5, c6, c7, c8⟩ := ht2.facts
  obtain ⟨k0, k1, k2, f0, f1, f2⟩ := hs2.facts
  have hgs : w.heap.size ≤ w1.heap.size := hB1.size
  have hg4 : ¬ g = w2.heap.size := by omega
  have hg5 : ¬ w2.heap.size = g := by omega
  have hg6 : ¬ w1.heap.size = w2.heap.size := by omega
  have hg7 : ¬ w2.heap.size = w1.heap.size := by omega
  have hg8 : g < w2.heap.size := by omega
  have hg9 : w1.heap.size < w2.heap.size := by omega
  go_wp2_with fail
  rw [rounds_succ]
  go_wp2_with fail
  have zp := own_size p
  refine (fAdd_any (sgn p) nb (nu p) (de p) xb yb _ (by omega) (by omega) (by omega) (by omega)).mono ?_
  rintro e w3 ⟨rfl, hb3⟩
  obtain ⟨q, hq⟩ : ∃ q, p + val nb xb yb = q := ⟨_, rfl⟩
  have qs3 := qw_add p (val nb xb yb)
  have qs4 := qw_val nb xb yb
  rw [val_own, hq, C_eq]
  rw [hq] at qs3
  have hs3 := ((hs2.put (sgn p) (nu p) (de p)).alloc (FC nb xb yb)).below hb3 ((hs2.put (sgn p) (nu p) (de p)).alloc (FC nb xb yb)).lt
  have hr3' := (hr2.far3 (g' := w1.heap.size) (by omega) (.bool (sgn p)) (.string (nu p)) (.string (de p))).alloc (FC nb xb yb)
  have hr3 := hr3'.below hb3 hr3'.lt
  have hV2 := (below_put hB2 hgs (.bool (sgn p)) (.string (nu p)) (.string (de p))).alloc (by simp; omega) (FC nb xb yb)
  have hB3 : Below w.heap.size w w3 := hV2.trans (hb3.mono hV2.size)
  have ht3 := ht.below hB3 ht.lt
  have hz3 : w2.heap.size + 1 ≤ w3.heap.size := by have := hb3.size; simpa using this
  have HQ := hide hq
  clear hq hr3' hV2 hb3 hr2 ht2 hs2 c0 c1 c2 c3 c4 c5 c6 c7 c8 k0 k1 k2 f0 f1 f2 hg4 hg5 hg6 hg7 hg8 hg9
  obtain ⟨c0, c1, c2, c3, c4, c5, c6, c7, c8⟩ := ht3.facts
  obtain ⟨k0, k1, k2, f0, f1, f2⟩ := hs3.facts
  have hg4 : ¬ g = w3.heap.size := by omega
  have hg5 : ¬ w3.heap.size = g := by omega
  have hg6 : ¬ w1.heap.size = w3.heap.size := by omega
  have hg7 : ¬ w3.heap.size = w1.heap.size := by omega
  have hg8 : g < w3.heap.size := by omega
  have hg9 : w1.heap.size < w3.heap.size := by omega
  go_wp2_with fail
  rw [rounds_succ]
  go_wp2_with fail
  have zq := own_size q
  refine (fAdd_any (sgn q) nc (nu q) (de q) xc yc _ (by omega) (by omega) (by omega) (by omega)).mono ?_
  rintro e w4 ⟨rfl, hb4⟩
  have hs4 := ((hs3.put (sgn q) (nu q) (de q)).alloc (FC nc xc yc)).below hb4 ((hs3.put (sgn q) (nu q) (de q)).alloc (FC nc xc yc)).lt
  have hr4' := (hr3.far3 (g' := w1.heap.size) (by omega) (.bool (sgn q)) (.string (nu q)) (.string (de q))).alloc (FC nc xc yc)
  have hr4 := hr4'.below hb4 hr4'.lt
  have hV3 := (below_put hB3 hgs (.bool (sgn q)) (.string (nu q)) (.string (de q))).alloc (by simp; omega) (FC nc xc yc)
  have hB4 : Below w.heap.size w w4 := hV3.trans (hb4.mono hV3.size)
  have hfin : val (sgn q) (nu q) (de q) + val nc xc yc = val na xa ya + val nb xb yb + val nc xc yc := by rw [val_own, ← HQ.out, ← HP.out]
  rw [hfin, C_eq]
  clear hfin hr4' hV3 hb4 hr3 ht3 hs3 c0 c1 c2 c3 c4 c5 c6 c7 c8 k0 k1 k2 f0 f1 f2 hg4 hg5 hg6 hg7 hg8 hg9
  obtain ⟨k0, k1, k2, f0, f1, f2⟩ := hs4.facts
  obtain ⟨j0, j1, j2, i0, i1, i2⟩ := hr4.facts
  have hg4 : ¬ w1.heap.size = w.heap.size := by omega
  have hg5 : ¬ w.heap.size = w1.heap.size := by omega
  go_wp2_with fail
  rw [rounds_succ]
  go_wp2
  refine bodyPost_ret (((hr4.far3 (g' := w1.heap.size) (by omega) _ _ _).put _ _ _).result rfl _ rfl) rfl ?_
  exact ⟨rfl, below_put (below_put hB4 hgs _ _ _) (Nat.le_refl _) _ _ _⟩
end Go.Proofs.YtnnfmfdjgdgdhaaDoor


/- The calls of package frac, stated by the rational numbers that their arguments stand for; five fractions held in memory. -/
namespace Go.Proofs.YtnnfmfdjgdgdhaaDoor
open Go.RowKit

theorem fAdd_q {n m : Bool} {x y u v : ByteArray} {w : World} {p q : Rat} (r : Rat) (hp : val n x y = p) (hq : val m u v = q) (h : p + q = r) (s1 : x.size + y.size ≤ 100000) (s2 : u.size + v.size ≤ 100000) :
    Calls Tryd.prog 29 #[.agg #[.bool n, .string x, .string y], .agg #[.bool m, .string u, .string v]] w fun e w' => e = .returned (.agg #[.bool (sgn r), .string (nu r), .string (de r)]) ∧ Below w.heap.size w w' := by
  subst hp hq h
  exact fAdd_any n m x y u v w (by omega) (by omega) (by omega) (by omega)
theorem fMul_q {n m : Bool} {x y u v : ByteArray} {w : World} {p q : Rat} (r : Rat) (hp : val n x y = p) (hq : val m u v = q) (h : p * q = r) (s1 : x.size + y.size ≤ 100000) (s2 : u.size + v.size ≤ 100000) :
    Calls Tryd.prog 31 #[.agg #[.bool n, .string x, .string y], .agg #[.bool m, .string u, .string v]] w fun e w' => e = .returned (.agg #[.bool (sgn r), .string (nu r), .string (de r)]) ∧ Below w.heap.size w w' := by
  subst hp hq h
  exact fMul_any n m x y u v w (by omega) (by omega) (by omega) (by omega)
theorem fCmp_q {n m : Bool} {x y u v : ByteArray} {w : World} {p q : Rat} (k : Int) (hp : val n x y = p) (hq : val m u v = q) (h : cmpQ p q = k) (s1 : x.size + y.size ≤ 100000) (s2 : u.size + v.size ≤ 100000) :
    Calls Tryd.prog 24 #[.agg #[.bool n, .string x, .string y], .agg #[.bool m, .string u, .string v]] w fun e w' => e = .returned (.int .i64 k) ∧ Below w.heap.size w w' := by
  subst hp hq h
  exact fCmp_any n m x y u v w (by omega) (by omega) (by omega) (by omega)
theorem fOf_q {k : Int} {w : World} (r : Rat) (n : Nat) (hk : k = (n : Int)) (hn : n ≤ 1) (h : (n : Rat) = r) :
    Calls Tryd.prog 26 #[.int .i64 k] w fun e w' => e = .returned (.agg #[.bool (sgn r), .string (nu r), .string (de r)]) ∧ Below w.heap.size w w' := by
  subst h hk
  exact fOf_nat n w (by omega)
/-- Three fractions as they were handed in, and two of the fields that package frac writes. -/
def Five (w V : World) (gs gp : Nat) (na nb nc : Bool) (xa ya xb yb xc yc : ByteArray) (s p : Rat) : Prop :=
  Box V w.heap.size na xa ya ∧ Box V (w.heap.size + 1) nb xb yb ∧ Box V (w.heap.size + 2) nc xc yc ∧ Box V gs (sgn s) (nu s) (de s) ∧ Box V gp (sgn p) (nu p) (de p) ∧ Below w.heap.size w V
theorem Five.step {w V U : World} {gs gp : Nat} {na nb nc : Bool} {xa ya xb yb xc yc : ByteArray} {s p : Rat} (h : Five w V gs gp na nb nc xa ya xb yb xc yc s p) (hb : Below V.heap.size V U) : Five w U gs gp na nb nc xa ya xb yb xc yc s p := by
  obtain ⟨h1, h2, h3, h4, h5, h6⟩ := h
  exact ⟨h1.below hb h1.lt, h2.below hb h2.lt, h3.below hb h3.lt, h4.below hb h4.lt, h5.below hb h5.lt, h6.trans (hb.mono h6.size)⟩
theorem Five.drew {w V : World} {gs gp : Nat} {na nb nc : Bool} {xa ya xb yb xc yc : ByteArray} {s p : Rat} (h : Five w V gs gp na nb nc xa ya xb yb xc yc s p) : Five w V.drew gs gp na nb nc xa ya xb yb xc yc s p := by
  obtain ⟨h1, h2, h3, h4, h5, h6⟩ := h
  exact ⟨h1.drew, h2.drew, h3.drew, h4.drew, h5.drew, h6.drew⟩
theorem Five.alloc {w V : World} {gs gp : Nat} {na nb nc : Bool} {xa ya xb yb xc yc : ByteArray} {s p : Rat} (h : Five w V gs gp na nb nc xa ya xb yb xc yc s p) (o : Obj) : Five w (V.alloc o) gs gp na nb nc xa ya xb yb xc yc s p := by
  obtain ⟨h1, h2, h3, h4, h5, h6⟩ := h
  exact ⟨h1.alloc o, h2.alloc o, h3.alloc o, h4.alloc o, h5.alloc o, h6.alloc h6.size o⟩
/-- What the cells hold. -/
def Five.Cells (w V : World) (gs gp : Nat) (na nb nc : Bool) (xa ya xb yb xc yc : ByteArray) (s p : Rat) : Prop :=
  V.cell? ⟨w.heap.size, 0, none⟩ = some (.bool na) ∧ V.cell? ⟨w.heap.size, 1, none⟩ = some (.string xa) ∧ V.cell? ⟨w.heap.size, 2, none⟩ = some (.string ya) ∧
  V.cell? ⟨w.heap.size + 1, 0, none⟩ = some (.bool nb) ∧ V.cell? ⟨w.heap.size + 1, 1, none⟩ = some (.string xb) ∧ V.cell? ⟨w.heap.size + 1, 2, none⟩ = some (.string yb) ∧
  V.cell? ⟨w.heap.size + 2, 0, none⟩ = some (.bool nc) ∧ V.cell? ⟨w.heap.size + 2, 1, none⟩ = some (.string xc) ∧ V.cell? ⟨w.heap.size + 2, 2, none⟩ = some (.string yc) ∧
  V.cell? ⟨gs, 0, none⟩ = some (.bool (sgn s)) ∧ V.cell? ⟨gs, 1, none⟩ = some (.string (nu s)) ∧ V.cell? ⟨gs, 2, none⟩ = some (.string (de s)) ∧
  V.cell? ⟨gp, 0, none⟩ = some (.bool (sgn p)) ∧ V.cell? ⟨gp, 1, none⟩ = some (.string (nu p)) ∧ V.cell? ⟨gp, 2, none⟩ = some (.string (de p))
theorem Five.cells {w V : World} {gs gp : Nat} {na nb nc : Bool} {xa ya xb yb xc yc : ByteArray} {s p : Rat} (h : Five w V gs gp na nb nc xa ya xb yb xc yc s p) : Five.Cells w V gs gp na nb nc xa ya xb yb xc yc s p := by
  obtain ⟨h1, h2, h3, h4, h5, h6⟩ := h
  exact ⟨h1.c0, h1.c1, h1.c2, h2.c0, h2.c1, h2.c2, h3.c0, h3.c1, h3.c2, h4.c0, h4.c1, h4.c2, h5.c0, h5.c1, h5.c2⟩
end Go.Proofs.YtnnfmfdjgdgdhaaDoor


/- The document's answer: fractions made, in lowest terms. -/
namespace Go.Proofs.YtnnfmfdjgdgdhaaDoor
open Go.RowKit

theorem B_one : B 1 = ⟨#[1]⟩ := by
  rw [B, bn_pos 1 (by decide), show 1 / 256 = 0 from rfl, bn_zero]
  rfl
theorem ne_one {n : Nat} (h : ¬ n = 1) : ((B n).toList == [1]) = false := beq_eq_false_iff_ne.2 fun e => h (B_inj (by
  rw [B_one]
  rw [Lib.toList_data] at e
  exact ByteArray.ext (Array.toList_inj.1 e)))

set_option maxRecDepth 100000 in
set_option maxHeartbeats 1000000 in
theorem rMake_zero (n : Bool) (x y : ByteArray) (w : World) (h : N x = 0 ∨ N y = 0) (hx : x.size ≤ 500000) (hy : y.size ≤ 500000) :
    Calls Tryd.prog 18 #[.bool n, .string x, .string y] w fun e w' => e = .returned (C 0) ∧ Below w.heap.size w w' := by
  have HX := hide (fun V => rTrim_any x V (by omega))
  have HY := hide (fun V => rTrim_any y V (by omega))
  go_enter Tryd.func18, Tryd.ntmps18
  by_cases h0 : N x = 0
  · rw [h0, B_zero] at HX
    go_wp2_with fail
    refine (HX.out _).mono ?_
    rintro e w1 ⟨rfl, hw⟩
    subst hw
    go_wp2_with fail
    refine (HY.out _).mono ?_
    rintro e w1 ⟨rfl, hw⟩
    subst hw
    go_wp2
    refine bodyPost_ret ((Box.at (w := w) rfl false ⟨#[]⟩ ⟨#[1]⟩).result rfl _ rfl) rfl ?_
    exact ⟨by rw [C_zero, B_one], (Below.refl _ w).alloc (Nat.le_refl _) _⟩
  · have h1 : N y = 0 := h.resolve_left h0
    have hne := B_full h0
    rw [h1, B_zero] at HY
    go_wp2_with fail
    refine (HX.out _).mono ?_
    rintro e w1 ⟨rfl, hw⟩
    subst hw
    go_wp2_with fail
    refine (HY.out _).mono ?_
    rintro e w1 ⟨rfl, hw⟩
    subst hw
    go_wp2
    refine bodyPost_ret ((Box.at (w := w) rfl false ⟨#[]⟩ ⟨#[1]⟩).result rfl _ rfl) rfl ?_
    exact ⟨by rw [C_zero, B_one], (Below.refl _ w).alloc (Nat.le_refl _) _⟩

set_option maxRecDepth 100000 in
set_option maxHeartbeats 1000000 in
theorem rMake_some (n : Bool) (x y : ByteArray) (w : World) (h0 : N x ≠ 0) (h1 : N y ≠ 0) (hx : x.size ≤ 500000) (hy : y.size ≤ 500000) :
    Calls Tryd.prog 18 #[.bool n, .string x, .string y] w fun e w' => e = .returned (C (val n x y)) ∧ Below w.heap.size w w' := by
  have HX := hide (fun V => rTrim_any x V (by omega))
  have HY := hide (fun V => rTrim_any y V (by omega))
  have HC := hide (C_make n _ _ h0 h1)
  have sx := Nat.le_trans (B_size_le x) hx
  have sy := Nat.le_trans (B_size_le y) hy
  have hg := hide (fun V => rGcd_any (B (N x)) (B (N y)) V sx sy)
  rw [N_B, N_B] at hg
  have sg1 := Nat.le_trans (sz_mono (Nat.gcd_le_left (N y) (Nat.pos_of_ne_zero h0))) sx
  have hgp : Nat.gcd (N x) (N y) ≠ 0 := fun h => h0 (Nat.gcd_eq_zero_iff.1 h).1
  have HD1 := hide (fun V => rDiv_B (N x) _ V sx sg1 hgp)
  have HD2 := hide (fun V => rDiv_B (N y) _ V sy sg1 hgp)
  have hne0 := B_full h0
  have hne1 := B_full h1
  rw [val]
  clear h0 h1 hgp
  generalize mkRat (sg n (N x)) (N y) = q at *
  generalize N x = X at *
  generalize N y = Y at *
  generalize Nat.gcd X Y = g at *
  go_enter Tryd.func18, Tryd.ntmps18
  have hbx := Box.at (w := w) rfl false ⟨#[]⟩ ⟨#[]⟩
  have hB0 : Below w.heap.size w (w.alloc (FC false ⟨#[]⟩ ⟨#[]⟩)) := (Below.refl _ w).alloc (Nat.le_refl _) _
  go_wp2_with fail
  refine (HX.out _).mono ?_
  rintro e w1 ⟨rfl, hw⟩
  subst hw
  go_wp2_with fail
  refine (HY.out _).mono ?_
  rintro e w1 ⟨rfl, hw⟩
  subst hw
  go_wp2_with fail
  refine (hg.out _).mono ?_
  rintro e w1 ⟨rfl, hb1⟩
  have hx1 := hbx.below hb1 hbx.lt
  have hB1 : Below w.heap.size w w1 := hB0.trans (hb1.mono hB0.size)
  clear hbx hB0 hb1 HX HY hg
  by_cases h1 : g = 1
  · subst h1
    rw [Nat.div_one, Nat.div_one] at HC
    rw [B_one]
    obtain ⟨k0, k1, k2, f0, f1, f2⟩ := hx1.facts
    go_wp2
    refine bodyPost_ret ((hx1.put _ _ _).result rfl _ rfl) rfl ?_
    exact ⟨by rw [HC.out], below_put hB1 (by omega) _ _ _⟩
  · have hn1 := ne_one h1
    go_wp2_with fail
    refine (HD1.out _).mono ?_
    rintro e w2 ⟨rfl, hb2⟩
    have hx2 := hx1.below hb2 hx1.lt
    have hB2 : Below w.heap.size w w2 := hB1.trans (hb2.mono hB1.size)
    go_wp2_with fail
    refine (HD2.out _).mono ?_
    rintro e w3 ⟨rfl, hb3⟩
    have hx3 := hx2.below hb3 hx2.lt
    have hB3 : Below w.heap.size w w3 := hB2.trans (hb3.mono hB2.size)
    obtain ⟨k0, k1, k2, f0, f1, f2⟩ := hx3.facts
    go_wp2
    refine bodyPost_ret ((hx3.put _ _ _).result rfl _ rfl) rfl ?_
    exact ⟨by rw [HC.out], below_put hB3 (by omega) _ _ _⟩

theorem rMake_any (n : Bool) (x y : ByteArray) (w : World) (hx : x.size ≤ 500000) (hy : y.size ≤ 500000) :
    Calls Tryd.prog 18 #[.bool n, .string x, .string y] w fun e w' => e = .returned (C (val n x y)) ∧ Below w.heap.size w w' := by
  by_cases h : N x = 0 ∨ N y = 0
  · have := rMake_zero n x y w h hx hy
    rwa [← val_zero_iff.2 h] at this
  · exact rMake_some n x y w (fun e => h (.inl e)) (fun e => h (.inr e)) hx hy

set_option maxRecDepth 100000 in
set_option maxHeartbeats 1000000 in
theorem rCanon_any (n : Bool) (x y : ByteArray) (w : World) (hx : x.size ≤ 500000) (hy : y.size ≤ 500000) :
    Calls Tryd.prog 16 #[.agg #[.bool n, .string x, .string y]] w fun e w' => e = .returned (C (val n x y)) ∧ Below w.heap.size w w' := by
  go_enter Tryd.func16, Tryd.ntmps16
  have hbx := Box.at (w := w.alloc (FC n x y)) (g := w.heap.size + 1) (by simp) false ⟨#[]⟩ ⟨#[]⟩
  have hB0 : Below w.heap.size w ((w.alloc (FC n x y)).alloc (FC false ⟨#[]⟩ ⟨#[]⟩)) := ((Below.refl _ w).alloc (Nat.le_refl _) _).alloc (by simp) _
  go_wp2_with fail
  refine (rMake_any n x y _ hx hy).mono ?_
  rintro e w1 ⟨rfl, hb1⟩
  have hx1 := hbx.below hb1 hbx.lt
  have hB1 : Below w.heap.size w w1 := hB0.trans (hb1.mono hB0.size)
  obtain ⟨k0, k1, k2, f0, f1, f2⟩ := hx1.facts
  clear hbx hB0
  rw [C_eq]
  go_wp2
  refine bodyPost_ret ((hx1.put _ _ _).result rfl _ rfl) rfl ?_
  exact ⟨rfl, below_put hB1 (by omega) _ _ _⟩
end Go.Proofs.YtnnfmfdjgdgdhaaDoor


/- The document's answer: sums, differences, products, quotients and comparisons of fractions. -/
namespace Go.Proofs.YtnnfmfdjgdgdhaaDoor
open Go.RowKit

theorem rMul_B {a b : ByteArray} {w0 w : World} (n : Nat) (hB : Below w0.heap.size w0 w) (h : N a * N b = n) (ha : a.size ≤ 1000000) (hb : b.size ≤ 1000000) :
    Calls Tryd.prog 17 #[.string a, .string b] w fun e w' => e = .returned (.string (B n)) ∧ Below w0.heap.size w0 w' := by
  subst h; exact under hB (rMul_any a b w (by omega) (by omega))
theorem N_nu (q : Rat) : N (nu q) = q.num.natAbs := N_B _
theorem N_de (q : Rat) : N (de q) = q.den := N_B _

/-- Two fractions in lowest terms and a third, in memory. -/
def Tri (w V : World) (p q : Rat) (n : Bool) (x y : ByteArray) : Prop := Box V w.heap.size (sgn p) (nu p) (de p) ∧ Box V (w.heap.size + 1) (sgn q) (nu q) (de q) ∧ Box V (w.heap.size + 2) n x y ∧ Below w.heap.size w V
theorem Tri.step {w V U : World} {p q : Rat} {n : Bool} {x y : ByteArray} (h : Tri w V p q n x y) (hb : Below V.heap.size V U) : Tri w U p q n x y := by
  obtain ⟨h1, h2, h3, h4⟩ := h
  exact ⟨h1.below hb h1.lt, h2.below hb h2.lt, h3.below hb h3.lt, h4.trans (hb.mono h4.size)⟩

theorem sum_same {p q : Rat} (h : sgn p = sgn q) : val (sgn p) (B (p.num.natAbs * q.den + q.num.natAbs * p.den)) (B (p.den * q.den)) = p + q := by
  have e := val_add (sgn p) (sgn q) (nu p) (de p) (nu q) (de q) (by rw [N_de]; exact p.den_nz) (by rw [N_de]; exact q.den_nz)
  rw [val_own, val_own, N_nu, N_nu, N_de, N_de, ← h, ← sg_add] at e
  rw [val, N_B, N_B, e]
theorem sum_gt {p q : Rat} (h : ¬ sgn p = sgn q) (hle : q.num.natAbs * p.den ≤ p.num.natAbs * q.den) : val (sgn p) (B (p.num.natAbs * q.den - q.num.natAbs * p.den)) (B (p.den * q.den)) = p + q := by
  have e := val_add (sgn p) (sgn q) (nu p) (de p) (nu q) (de q) (by rw [N_de]; exact p.den_nz) (by rw [N_de]; exact q.den_nz)
  rw [val_own, val_own, N_nu, N_nu, N_de, N_de, ← sg_sub h (k := p.num.natAbs * q.den - q.num.natAbs * p.den) (by omega)] at e
  rw [val, N_B, N_B, e]
theorem sum_lt {p q : Rat} (h : ¬ sgn p = sgn q) (hle : p.num.natAbs * q.den ≤ q.num.natAbs * p.den) : val (sgn q) (B (q.num.natAbs * p.den - p.num.natAbs * q.den)) (B (p.den * q.den)) = p + q := by
  have e := val_add (sgn p) (sgn q) (nu p) (de p) (nu q) (de q) (by rw [N_de]; exact p.den_nz) (by rw [N_de]; exact q.den_nz)
  rw [val_own, val_own, N_nu, N_nu, N_de, N_de, ← sg_sub' h (k := q.num.natAbs * p.den - p.num.natAbs * q.den) (by omega)] at e
  rw [val, N_B, N_B, e]

end Go.Proofs.YtnnfmfdjgdgdhaaDoor

