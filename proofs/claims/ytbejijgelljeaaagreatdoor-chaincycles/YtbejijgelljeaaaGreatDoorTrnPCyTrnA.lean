/- Chains, plainly: equations have one solution; a chain that was evened turns; where as much goes each way, a round is as likely one way round as the other. -/
import Derived.Test.YtbejijgelljeaaaGreatDoorStlCCyStlQ
import Derived.Test.YtbejijgelljeaaaGreatDoorStlDCy
namespace Go.Proofs.YtbejijgelljeaaaGreatDoor
theorem elmS_for {n k : Nat} {M : Nat → Nat → Rat} {x : Nat → Rat} (hk : k < n) (h : Sol n M x) : Sol n (elmS k M) x := by
  have hkk := h k hk
  intro i hi
  by_cases e : i = k
  · subst e
    simp only [elmS, if_pos]
    rw [← hkk, Rat.div_def, ← sumR_mulR]
    exact sumR_congr fun j _ => by rw [Rat.div_def]; grind
  · simp only [elmS, if_neg e]
    have h2 : sumR (fun j => (M i j - M k j / M k k * M i k) * x j) n = sumR (fun j => M i j * x j) n - M i k / M k k * sumR (fun j => M k j * x j) n := by
      rw [← sumR_mul, ← sumR_sub]
      exact sumR_congr fun j _ => by rw [Rat.div_def, Rat.div_def]; grind
    rw [h2, hkk, h i hi, Rat.div_def, Rat.div_def]
    grind
theorem elm_for {n : Nat} {M : Nat → Nat → Rat} {x : Nat → Rat} : ∀ k, k ≤ n → Sol n M x → Sol n (elm M k) x
  | 0, _, h => h
  | k + 1, hk, h => elmS_for (by omega) (elm_for k (by omega) h)
/-- WHAT SOLVES THEM IS WHAT IS LEFT. -/
theorem elm_only {n : Nat} {M : Nat → Nat → Rat} {x : Nat → Rat} (hp : ∀ j, j < n → elm M j j j ≠ 0) (h : Sol n M x) {i : Nat} (hi : i < n) : x i = elm M n i n := by
  have hu := elm_unit n (Nat.le_refl _) hp
  have h1 := elm_for n (Nat.le_refl _) h i hi
  rw [sumR_congr (g := fun j => (if i = j then 1 else 0) * x j) fun j hj => by rw [hu i hi j hj], sumR_one x hi] at h1
  exact h1
theorem Cls.sole {n : Nat} {P : Nat → Nat → Rat} {l : List Nat} (h : Cls n P l) (hc : Chn n P) {x : Nat → Rat} (hs : sumR x l.length = 1) (he : ∀ k, k < l.length → sumR (fun c => x c * P (l.getD c 0) (l.getD k 0)) l.length = x k) {k : Nat} (hk : k < l.length) : x k = stX P l k := by
  refine elm_only (h.piv hc) (fun i hi => ?_) hk
  by_cases e : i = l.length - 1
  · have e1 : ∀ j, sM P l i j = 1 := fun j => if_pos e
    rw [e1, ← hs]
    exact sumR_congr fun j _ => by rw [e1, Rat.one_mul]
  · have e1 : sM P l i l.length = 0 := by
      show (if i = l.length - 1 then _ else if l.length < l.length then _ else _) = _
      rw [if_neg e, if_neg (Nat.lt_irrefl _)]
    have e2 : sumR (fun j => sM P l i j * x j) l.length = sumR (fun c => x c * P (l.getD c 0) (l.getD i 0)) l.length - x i := by
      have e4 := sumR_sub (fun c => x c * P (l.getD c 0) (l.getD i 0)) (fun j => (if i = j then 1 else 0) * x j) l.length
      rw [sumR_one x hi] at e4
      rw [← e4]
      refine sumR_congr fun c hcl => ?_
      have e3 : sM P l i c = P (l.getD c 0) (l.getD i 0) - (if i = c then 1 else 0) := by
        show (if i = l.length - 1 then _ else if c < l.length then _ else _) = _
        rw [if_neg e, if_pos hcl]
      rw [e3]
      grind
    rw [e1, e2, he i hi]
    grind
/-- What two states have of each other; all that one has; a chain of it. -/
def evW (P : Nat → Nat → Rat) (i j : Nat) : Rat := P i j + P j i
def evS (n : Nat) (P : Nat → Nat → Rat) (i : Nat) : Rat := sumR (evW P i) n
def evQ (n : Nat) (P : Nat → Nat → Rat) (i j : Nat) : Rat := evW P i j / evS n P i
theorem evW_sym (P : Nat → Nat → Rat) (i j : Nat) : evW P i j = evW P j i := Rat.add_comm _ _
theorem evS_is {n : Nat} {P : Nat → Nat → Rat} (hc : Chn n P) {i : Nat} (hi : i < n) : evS n P i = 1 + sumR (fun j => P j i) n := by
  have h1 := sumR_add (P i) (fun j => P j i) n
  rw [hc.one i hi] at h1
  exact h1
theorem evS_pos {n : Nat} {P : Nat → Nat → Rat} (hc : Chn n P) {i : Nat} (hi : i < n) : 0 < evS n P i := by
  rw [evS_is hc hi]
  have h1 := sumR_low (f := fun j => P j i) (n := n) fun j hj => hc.low j i hj hi
  grind
theorem ev_mul {n : Nat} {P : Nat → Nat → Rat} (hc : Chn n P) {i : Nat} (hi : i < n) (j : Nat) : evS n P i * evQ n P i j = evW P i j := by
  have h1 := evS_pos hc hi
  rw [Rat.mul_comm, evQ, div_mulR (by grind)]
theorem ev_chn {n : Nat} {P : Nat → Nat → Rat} (hc : Chn n P) : Chn n (evQ n P) := by
  refine ⟨fun i j hi hj => ?_, fun i hi => ?_⟩
  · have h1 := hc.low i j hi hj
    have h2 := hc.low j i hj hi
    rw [evQ, Rat.div_def]
    exact Rat.mul_nonneg (by rw [evW]; grind) (Rat.le_of_lt (Rat.inv_pos.2 (evS_pos hc hi)))
  · have h1 := evS_pos hc hi
    have h2 : sumR (fun j => evS n P i * evQ n P i j) n = evS n P i := sumR_congr fun j _ => ev_mul hc hi j
    rw [sumR_mul] at h2
    have h3 : evS n P i * (sumR (evQ n P i) n - 1) = 0 := by grind
    rcases Rat.mul_eq_zero.1 h3 with h4 | h4
    · grind
    · grind
theorem Cls.nil {n : Nat} {P : Nat → Nat → Rat} {l : List Nat} (h : Cls n P l) (hc : Chn n P) {i j : Nat} (hi : i ∈ l) (hj : j < n) (hn : j ∉ l) : P i j = 0 := by
  have h0 := hc.low i j (h.lt _ hi) hj
  by_cases e : 0 < P i j
  · exact absurd (h.shut _ hi j hj e) hn
  · grind
/-- EVENED: as much goes each way between any two. -/
theorem ev_bal {n : Nat} {P : Nat → Nat → Rat} (hc : Chn n P) {l : List Nat} (h : Cls n (evQ n P) l) {i j : Nat} (hi : i < n) (hj : j < n) : stQ (evQ n P) l i * evQ n P i j = stQ (evQ n P) l j * evQ n P j i := by
  have hq := ev_chn hc
  have hlt : ∀ k, k < l.length → l.getD k 0 < n := fun k hk => h.lt _ (getD_mem hk)
  obtain ⟨T, hT⟩ : ∃ T, T = sumR (fun k => evS n P (l.getD k 0)) l.length := ⟨_, rfl⟩
  have hTp : 0 < T := by
    have h1 := sumR_part (f := fun k => evS n P (l.getD k 0)) (n := l.length) (fun k hk => Rat.le_of_lt (evS_pos hc (hlt k hk))) 0 h.ne
    have h2 := evS_pos hc (hlt 0 h.ne)
    rw [hT]
    grind
  have hx : ∀ k, k < l.length → evS n P (l.getD k 0) * T⁻¹ = stX (evQ n P) l k := fun k hk => by
    refine h.sole hq (x := fun k => evS n P (l.getD k 0) * T⁻¹) ?_ (fun k hk => ?_) hk
    · rw [sumR_mulR, ← hT, Rat.mul_inv_cancel _ (by grind)]
    · have h1 := h.tot hq hk
      have h2 : sumR (fun c => evS n P (l.getD k 0) * evQ n P (l.getD k 0) (l.getD c 0)) l.length = evS n P (l.getD k 0) := by rw [sumR_mul, h1, Rat.mul_one]
      rw [← h2, ← sumR_mulR]
      refine sumR_congr fun c hcl => ?_
      rw [ev_mul hc (hlt k hk), evW_sym, ← ev_mul hc (hlt c hcl)]
      grind
  have key : ∀ i, i ∈ l → stQ (evQ n P) l i = evS n P i * T⁻¹ := fun i hil => by
    obtain ⟨k, hk, rfl⟩ := getD_of hil
    rw [stQ_on h hk, hx k hk]
  by_cases e1 : i ∈ l
  · by_cases e2 : j ∈ l
    · rw [key i e1, key j e2]
      have h1 := ev_mul hc hi j
      have h2 := ev_mul hc hj i
      rw [evW_sym] at h2
      grind
    · rw [h.nil hq e1 hj e2, stQ_off e2, Rat.mul_zero, Rat.zero_mul]
  · by_cases e2 : j ∈ l
    · rw [h.nil hq e2 hi e1, stQ_off e1, Rat.mul_zero, Rat.zero_mul]
    · rw [stQ_off e1, stQ_off e2, Rat.zero_mul, Rat.zero_mul]
/-- Whether as much goes each way. -/
def trB (n : Nat) (v : Nat → Rat) (P : Nat → Nat → Rat) : Bool := (List.range n).all fun i => (List.range i).all fun j => decide (v i * P i j = v j * P j i)
theorem trB_iff {n : Nat} {v : Nat → Rat} {P : Nat → Nat → Rat} : trB n v P = true ↔ ∀ i j, i < n → j < n → v i * P i j = v j * P j i := by
  rw [trB, List.all_eq_true]
  constructor
  · intro h
    have low : ∀ i j, i < n → j < i → v i * P i j = v j * P j i := fun i j hi hj => by
      have h1 := h i (List.mem_range.2 hi)
      rw [List.all_eq_true] at h1
      exact of_decide_eq_true (h1 j (List.mem_range.2 hj))
    intro i j hi hj
    rcases Nat.lt_trichotomy i j with h1 | h1 | h1
    · exact (low j i hj h1).symm
    · subst h1; rfl
    · exact low i j hi h1
  · intro h i hi
    rw [List.all_eq_true]
    intro j hj
    have h1 := List.mem_range.1 hi
    exact decide_eq_true (h i j h1 (Nat.lt_trans (List.mem_range.1 hj) h1))
/-- The product of so many. -/
def prR (f : Nat → Rat) : Nat → Rat
  | 0 => 1
  | k + 1 => prR f k * f k
theorem round_way {v : Nat → Rat} {P : Nat → Nat → Rat} {b : Nat → Nat} (hb : ∀ k, v (b k) * P (b k) (b (k + 1)) = v (b (k + 1)) * P (b (k + 1)) (b k)) : ∀ k, v (b 0) * prR (fun i => P (b i) (b (i + 1))) k = v (b k) * prR (fun i => P (b (i + 1)) (b i)) k
  | 0 => rfl
  | k + 1 => by
    have h1 := round_way hb k
    have h2 := hb k
    show v (b 0) * (prR _ k * P (b k) (b (k + 1))) = v (b (k + 1)) * (prR _ k * P (b (k + 1)) (b k))
    rw [← Rat.mul_assoc, h1]
    grind
/-- A ROUND IS AS LIKELY ONE WAY ROUND AS THE OTHER. -/
theorem round_same {v : Nat → Rat} {P : Nat → Nat → Rat} {b : Nat → Nat} (hb : ∀ k, v (b k) * P (b k) (b (k + 1)) = v (b (k + 1)) * P (b (k + 1)) (b k)) {m : Nat} (hm : b m = b 0) (hp : 0 < v (b 0)) : prR (fun i => P (b i) (b (i + 1))) m = prR (fun i => P (b (i + 1)) (b i)) m := by
  have h1 := round_way hb m
  rw [hm] at h1
  generalize prR (fun i => P (b i) (b (i + 1))) m = A at *
  generalize prR (fun i => P (b (i + 1)) (b i)) m = B at *
  have h3 : v (b 0) * (A - B) = 0 := by grind
  rcases Rat.mul_eq_zero.1 h3 with h4 | h4
  · grind
  · grind
end Go.Proofs.YtbejijgelljeaaaGreatDoor

/- Turns of package chain. -/
namespace Go.Proofs.YtbejijgelljeaaaGreatDoor
open Go.RowKit Go.Shelf
theorem fMulQ (p q : Rat) (U : World) (hp : qw p ≤ 50000) (hq : qw q ≤ 50000) : Calls Tryz.prog 54 #[.agg #[.bool (qF p).1, .string (qF p).2.1, .string (qF p).2.2], .agg #[.bool (qF q).1, .string (qF q).2.1, .string (qF q).2.2]] U fun e w' => e = .returned (.agg #[.bool (qF (p * q)).1, .string (qF (p * q)).2.1, .string (qF (p * q)).2.2]) ∧ Below U.heap.size U w' :=
  fMul_q (p * q) (val_own p) (val_own q) rfl (by show (nu p).size + (de p).size ≤ _; rw [own_size]; omega) (by show (nu q).size + (de q).size ≤ _; rw [own_size]; omega)
theorem fCmpQ (p q : Rat) (U : World) (hp : qw p ≤ 50000) (hq : qw q ≤ 50000) : Calls Tryz.prog 53 #[.agg #[.bool (qF p).1, .string (qF p).2.1, .string (qF p).2.2], .agg #[.bool (qF q).1, .string (qF q).2.1, .string (qF q).2.2]] U fun e w' => e = .returned (.int .i64 (cmpQ p q)) ∧ Below U.heap.size U w' :=
  fCmp_q (cmpQ p q) (val_own p) (val_own q) rfl (by show (nu p).size + (de p).size ≤ _; rw [own_size]; omega) (by show (nu q).size + (de q).size ≤ _; rw [own_size]; omega)
theorem stX_fitk {F n : Nat} {P : Nat → Nat → Rat} {l : List Nat} (hc : Cls n P l) (hm : ChK F n P) {k : Nat} (hk : k < l.length) : Fits 7509 (stX P l k) := by
  exact fits_up (elm_fits (b := F + 2) (fun i c hi _ => sM_fits hm.fit hc.lt i c hi) (fun j hj => hc.piv hm.chn j hj) _ (Nat.le_refl _) k _ hk (Nat.le_refl _)) (Nat.le_trans (bE_mono (F + 2) (nod_most hc.nd hc.lt)) hm.len)
theorem stQ_fitk {F n : Nat} {P : Nat → Nat → Rat} {l : List Nat} (hc : Cls n P l) (hm : ChK F n P) (i : Nat) : Fits 7509 (stQ P l i) := by
  by_cases e : i ∈ l
  · obtain ⟨k, hk, rfl⟩ := getD_of e
    rw [stQ_on hc hk]
    exact stX_fitk hc hm hk
  · rw [stQ_off e]
    exact fits_up fits_zero (by omega)
theorem cmpQ_three (p q : Rat) : (cmpQ p q = -1 ∧ p ≠ q) ∨ (cmpQ p q = 0 ∧ p = q) ∨ (cmpQ p q = 1 ∧ p ≠ q) := by
  rcases (by by_cases h1 : p < q; exact .inl h1; by_cases h2 : p = q; exact .inr (.inl h2); exact .inr (.inr (by grind)) : p < q ∨ p = q ∨ q < p) with h | h | h
  · exact .inl ⟨if_pos h, fun e => Rat.lt_irrefl (e ▸ h)⟩
  · exact .inr (.inl ⟨by rw [cmpQ, if_neg (by grind), if_pos h], h⟩)
  · exact .inr (.inr ⟨by rw [cmpQ, if_neg (by grind), if_neg (by grind)], fun e => Rat.lt_irrefl (e ▸ h)⟩)
set_option maxRecDepth 100000 in
set_option maxHeartbeats 4000000 in
theorem chTurns_any (a : Option Addr) (ca n : Nat) (P : Nat → Nat → Rat) (w : World) (hR : FsS w a (mR n P)) {F : Nat} (hm : ChK F n P) :
    Calls Tryz.prog 27 #[.slice a n ca] w fun e w' => Below w.heap.size w w' ∧ ((∃ k, OneC n P k ∧ e = .returned (.tuple #[.bool (trB n (stQ P (clN n (cmsB n P) k)) P), .int .i64 0])) ∨ (true ∈ (clB n P).drop (fstT (clB n P) + 1) ∧ e = .returned (.tuple #[.bool false, .int .i64 13]))) := by
  have h1 := hm.one
  have h5 := hm.five
  have HST := hid (chStill_any a ca n P w hR hm)
  have HCM := hid hm
  have HR := hid hR
  clear hR hm
  go_enter Tryz.func27, Tryz.ntmps27
  go_wp2_with fail
  refine HST.out.mono ?_
  rintro e1 W ⟨hbW, h9⟩
  have HBW := hid hbW
  clear hbW HST
  rcases h9 with ⟨k0, G, hone, rfl, hG, hrow⟩ | ⟨hmany, rfl⟩
  · have HONE := hid hone
    have HFV := hid (stQ_fitk hone.cls HCM.out)
    obtain ⟨v, hv⟩ : ∃ v, stQ P (clN n (cmsB n P) k0) = v := ⟨_, rfl⟩
    rw [hv] at hrow HFV
    have HV := hid hv
    have HRW := hid hrow
    have HRF := hid (HR.out.below HBW.out)
    have hGl := hrow.lt
    clear hv hrow hone
    go_wp2_with fail
    go_loopw [18] (fun iv wr => ∃ i : Nat, i ≤ n ∧ iv = .int .i64 i ∧ Hid (∀ s t, s < i → t < s → v s * P s t = v t * P t s) ∧ Hid (Below W.heap.size W wr)) (fun iv _ => n - (intOf iv).toNat)
    case atStart => exact ⟨0, Nat.zero_le _, rfl, fun s t hs => absurd hs (by omega), Below.refl _ _⟩
    case round =>
      obtain ⟨i, hi, rfl, HI, HB⟩ := hrel
      by_cases hlt : i < n
      · have HJ0 : Hid (∀ t, t < 0 → v i * P i t = v t * P t i) := fun t ht => absurd ht (by omega)
        go_wp2_with fail
        go_loopw [22] (fun jv wr => ∃ j : Nat, j ≤ i ∧ jv = .int .i64 j ∧ Hid (∀ t, t < j → v i * P i t = v t * P t i) ∧ Hid (Below W.heap.size W wr)) (fun jv _ => i - (intOf jv).toNat)
        case atStart => exact ⟨0, Nat.zero_le _, rfl, HJ0, HB⟩
        case round =>
          clear HJ0 HB
          obtain ⟨j, hj, rfl, HJ, HB⟩ := hrel
          by_cases hlj : j < i
          · have hjn : j < n := by omega
            obtain ⟨g, o, gi, oi, ci, hae, hg, hgi, x0, x1, x2, x3⟩ := (HRF.out.below HB.out).at hlt hjn
            subst hae
            obtain ⟨g', o', gj, oj, cj, hae, hg', hgj, y0, y1, y2, y3⟩ := (HRF.out.below HB.out).at hjn hlt
            cases hae
            have hrw := HRW.out.below HB.out hGl
            have hGw := hrw.lt
            obtain ⟨z0, z1, z2⟩ := hrw.cells i (by rw [lF_length]; exact hlt)
            obtain ⟨t0, t1, t2⟩ := hrw.cells j (by rw [lF_length]; exact hjn)
            simp only [lF_get] at z0 z1 z2 t0 t1 t2
            have q1 := HFV.out i
            have q2 := HFV.out j
            have q3 := HCM.out.fit i j hlt hjn
            have q4 := HCM.out.fit j i hjn hlt
            have q5 := HCM.out.few
            have HM1 := hid (fun U : World => fMulQ (v i) (P i j) U (by have := fits_qw q1; omega) (by have := fits_qw q3; omega))
            have HM2 := hid (fun U : World => fMulQ (v j) (P j i) U (by have := fits_qw q2; omega) (by have := fits_qw q4; omega))
            have HCP := hid (fun U : World => fCmpQ (v i * P i j) (v j * P j i) U (by have := fits_qw (fits_tim q1 q3); omega) (by have := fits_qw (fits_tim q2 q4); omega))
            have HTH := hid (cmpQ_three (v i * P i j) (v j * P j i))
            clear q1 q2 q3 q4 q5 hrw
            generalize cmpQ (v i * P i j) (v j * P j i) = cv at *
            generalize qF (v i * P i j) = m1 at *
            generalize qF (v j * P j i) = m2 at *
            obtain ⟨en, ex, ey⟩ := m1
            obtain ⟨fn, fx, fy⟩ := m2
            generalize qF (v i) = k1 at *
            generalize qF (P i j) = k2 at *
            generalize qF (v j) = k3 at *
            generalize qF (P j i) = k4 at *
            obtain ⟨an, ax, ay⟩ := k1
            obtain ⟨bn, bx, by_⟩ := k2
            obtain ⟨cn, cx, cy⟩ := k3
            obtain ⟨dn, dx, dy⟩ := k4
            simp only at x1 x2 x3 y1 y2 y3 z0 z1 z2 t0 t1 t2 HM1 HM2 HCP
            go_upto_region 10 with fail
            have HELD : Hid (∀ u, Below wr.heap.size wr u → u.cell? ⟨G, i * 3, none⟩ = some (.bool an) ∧ u.cell? ⟨G, i * 3 + 1, none⟩ = some (.string ax) ∧ u.cell? ⟨G, i * 3 + 2, none⟩ = some (.string ay) ∧ u.cell? ⟨g, o + i, none⟩ = some (.slice (some ⟨gi, oi, none⟩) n ci) ∧ u.cell? ⟨gi, oi + j * 3, none⟩ = some (.bool bn) ∧ u.cell? ⟨gi, oi + j * 3 + 1, none⟩ = some (.string bx) ∧ u.cell? ⟨gi, oi + j * 3 + 2, none⟩ = some (.string by_) ∧ u.cell? ⟨G, j * 3, none⟩ = some (.bool cn) ∧ u.cell? ⟨G, j * 3 + 1, none⟩ = some (.string cx) ∧ u.cell? ⟨G, j * 3 + 2, none⟩ = some (.string cy) ∧ u.cell? ⟨g, o + j, none⟩ = some (.slice (some ⟨gj, oj, none⟩) n cj) ∧ u.cell? ⟨gj, oj + i * 3, none⟩ = some (.bool dn) ∧ u.cell? ⟨gj, oj + i * 3 + 1, none⟩ = some (.string dx) ∧ u.cell? ⟨gj, oj + i * 3 + 2, none⟩ = some (.string dy)) := fun u h => ⟨(h.cell (p := ⟨G, _, none⟩) hGw).trans z0, (h.cell (p := ⟨G, _, none⟩) hGw).trans z1, (h.cell (p := ⟨G, _, none⟩) hGw).trans z2, (h.cell (p := ⟨g, _, none⟩) hg).trans x0, (h.cell (p := ⟨gi, _, none⟩) hgi).trans x1, (h.cell (p := ⟨gi, _, none⟩) hgi).trans x2, (h.cell (p := ⟨gi, _, none⟩) hgi).trans x3, (h.cell (p := ⟨G, _, none⟩) hGw).trans t0, (h.cell (p := ⟨G, _, none⟩) hGw).trans t1, (h.cell (p := ⟨G, _, none⟩) hGw).trans t2, (h.cell (p := ⟨g, _, none⟩) hg).trans y0, (h.cell (p := ⟨gj, _, none⟩) hgj).trans y1, (h.cell (p := ⟨gj, _, none⟩) hgj).trans y2, (h.cell (p := ⟨gj, _, none⟩) hgj).trans y3⟩
            have HU : Hid (Below wr.heap.size wr wr.drew) := (Below.refl _ _).drew
            clear x0 x1 x2 x3 y0 y1 y2 y3 z0 z1 z2 t0 t1 t2
            refine wp_region_held_drew (S := fun u => u.cell? ⟨G, i * 3, none⟩ = some (.bool an) ∧ u.cell? ⟨G, i * 3 + 1, none⟩ = some (.string ax) ∧ u.cell? ⟨G, i * 3 + 2, none⟩ = some (.string ay) ∧ u.cell? ⟨g, o + i, none⟩ = some (.slice (some ⟨gi, oi, none⟩) n ci) ∧ u.cell? ⟨gi, oi + j * 3, none⟩ = some (.bool bn) ∧ u.cell? ⟨gi, oi + j * 3 + 1, none⟩ = some (.string bx) ∧ u.cell? ⟨gi, oi + j * 3 + 2, none⟩ = some (.string by_) ∧ u.cell? ⟨G, j * 3, none⟩ = some (.bool cn) ∧ u.cell? ⟨G, j * 3 + 1, none⟩ = some (.string cx) ∧ u.cell? ⟨G, j * 3 + 2, none⟩ = some (.string cy) ∧ u.cell? ⟨g, o + j, none⟩ = some (.slice (some ⟨gj, oj, none⟩) n cj) ∧ u.cell? ⟨gj, oj + i * 3, none⟩ = some (.bool dn) ∧ u.cell? ⟨gj, oj + i * 3 + 1, none⟩ = some (.string dx) ∧ u.cell? ⟨gj, oj + i * 3 + 2, none⟩ = some (.string dy)) (by kernel_rfl) (HELD.out _ HU.out) (fun hSd => ?_)
            generalize wr.drew = u0 at *
            refine wpAnyH_take (i := 0) (oi := _) (v := .slice (some ⟨G, 0, none⟩) n n) rfl (by kernel_rfl) (by kernel_rfl) (by kernel_rfl) (fun _ _ _ h => h) (Or.inl ⟨by rfl, ?_⟩) (by assumption) ?_
            · intro u' hSu
              (try simp only [List.getElem_toArray, List.getElem_cons_zero])
              go_simp
            (try simp only [List.getElem_toArray, List.getElem_cons_zero])
            (try simp only [Act.put, List.setIfInBounds_toArray, List.set_cons_zero, List.set_cons_succ])
            refine wpAnyH_take (i := 1) (oi := _) (v := .int .i64 (i : Nat)) rfl (by kernel_rfl) (by kernel_rfl) (by kernel_rfl) (fun _ _ _ h => h) (Or.inl ⟨by rfl, ?_⟩) (by assumption) ?_
            · intro u' hSu
              (try simp only [List.getElem_toArray, List.getElem_cons_zero, List.getElem_cons_succ])
              go_simp
            (try simp only [List.getElem_toArray, List.getElem_cons_zero, List.getElem_cons_succ])
            (try simp only [Act.put, List.setIfInBounds_toArray, List.set_cons_zero, List.set_cons_succ])
            refine wpAnyH_take (i := 2) (oi := _) (v := .pointer (some ⟨G, i * 3, none⟩)) rfl (by kernel_rfl) (by kernel_rfl) (by kernel_rfl) (fun _ _ _ h => h) (Or.inl ⟨by rfl, ?_⟩) (by assumption) ?_
            · intro u' hSu
              (try simp only [List.getElem_toArray, List.getElem_cons_zero, List.getElem_cons_succ])
              go_simp
            (try simp only [List.getElem_toArray, List.getElem_cons_zero, List.getElem_cons_succ])
            (try simp only [Act.put, List.setIfInBounds_toArray, List.set_cons_zero, List.set_cons_succ])
            refine wpAnyH_take (i := 3) (oi := _) (v := .agg #[.bool an, .string ax, .string ay]) rfl (by kernel_rfl) (by kernel_rfl) (by kernel_rfl) (fun _ _ _ h => h) (Or.inl ⟨by rfl, ?_⟩) (by assumption) ?_
            · intro u' hSu
              (try simp only [List.getElem_toArray, List.getElem_cons_zero, List.getElem_cons_succ])
              obtain ⟨s0, s1, s2, s3, s4, s5, s6, s7, s8, s9, s10, s11, s12, s13⟩ := hSu
              go_simp
            (try simp only [List.getElem_toArray, List.getElem_cons_zero, List.getElem_cons_succ])
            (try simp only [Act.put, List.setIfInBounds_toArray, List.set_cons_zero, List.set_cons_succ])
            refine wpAnyH_take (i := 4) (oi := _) (v := .slice (some ⟨g, o, none⟩) n ca) rfl (by kernel_rfl) (by kernel_rfl) (by kernel_rfl) (fun _ _ _ h => h) (Or.inl ⟨by rfl, ?_⟩) (by assumption) ?_
            · intro u' hSu
              (try simp only [List.getElem_toArray, List.getElem_cons_zero, List.getElem_cons_succ])
              go_simp
            (try simp only [List.getElem_toArray, List.getElem_cons_zero, List.getElem_cons_succ])
            (try simp only [Act.put, List.setIfInBounds_toArray, List.set_cons_zero, List.set_cons_succ])
            refine wpAnyH_take (i := 5) (oi := _) (v := .int .i64 (i : Nat)) rfl (by kernel_rfl) (by kernel_rfl) (by kernel_rfl) (fun _ _ _ h => h) (Or.inl ⟨by rfl, ?_⟩) (by assumption) ?_
            · intro u' hSu
              (try simp only [List.getElem_toArray, List.getElem_cons_zero, List.getElem_cons_succ])
              go_simp
            (try simp only [List.getElem_toArray, List.getElem_cons_zero, List.getElem_cons_succ])
            (try simp only [Act.put, List.setIfInBounds_toArray, List.set_cons_zero, List.set_cons_succ])
            refine wpAnyH_take (i := 6) (oi := _) (v := .pointer (some ⟨g, o + i, none⟩)) rfl (by kernel_rfl) (by kernel_rfl) (by kernel_rfl) (fun _ _ _ h => h) (Or.inl ⟨by rfl, ?_⟩) (by assumption) ?_
            · intro u' hSu
              (try simp only [List.getElem_toArray, List.getElem_cons_zero, List.getElem_cons_succ])
              go_simp
            (try simp only [List.getElem_toArray, List.getElem_cons_zero, List.getElem_cons_succ])
            (try simp only [Act.put, List.setIfInBounds_toArray, List.set_cons_zero, List.set_cons_succ])
            refine wpAnyH_take (i := 7) (oi := _) (v := .slice (some ⟨gi, oi, none⟩) n ci) rfl (by kernel_rfl) (by kernel_rfl) (by kernel_rfl) (fun _ _ _ h => h) (Or.inl ⟨by rfl, ?_⟩) (by assumption) ?_
            · intro u' hSu
              (try simp only [List.getElem_toArray, List.getElem_cons_zero, List.getElem_cons_succ])
              obtain ⟨s0, s1, s2, s3, s4, s5, s6, s7, s8, s9, s10, s11, s12, s13⟩ := hSu
              go_simp
            (try simp only [List.getElem_toArray, List.getElem_cons_zero, List.getElem_cons_succ])
            (try simp only [Act.put, List.setIfInBounds_toArray, List.set_cons_zero, List.set_cons_succ])
            refine wpAnyH_take (i := 8) (oi := _) (v := .int .i64 (j : Nat)) rfl (by kernel_rfl) (by kernel_rfl) (by kernel_rfl) (fun _ _ _ h => h) (Or.inl ⟨by rfl, ?_⟩) (by assumption) ?_
            · intro u' hSu
              (try simp only [List.getElem_toArray, List.getElem_cons_zero, List.getElem_cons_succ])
              go_simp
            (try simp only [List.getElem_toArray, List.getElem_cons_zero, List.getElem_cons_succ])
            (try simp only [Act.put, List.setIfInBounds_toArray, List.set_cons_zero, List.set_cons_succ])
            refine wpAnyH_take (i := 9) (oi := _) (v := .pointer (some ⟨gi, oi + j * 3, none⟩)) rfl (by kernel_rfl) (by kernel_rfl) (by kernel_rfl) (fun _ _ _ h => h) (Or.inl ⟨by rfl, ?_⟩) (by assumption) ?_
            · intro u' hSu
              (try simp only [List.getElem_toArray, List.getElem_cons_zero, List.getElem_cons_succ])
              go_simp
            (try simp only [List.getElem_toArray, List.getElem_cons_zero, List.getElem_cons_succ])
            (try simp only [Act.put, List.setIfInBounds_toArray, List.set_cons_zero, List.set_cons_succ])
            refine wpAnyH_take (i := 10) (oi := _) (v := .agg #[.bool bn, .string bx, .string by_]) rfl (by kernel_rfl) (by kernel_rfl) (by kernel_rfl) (fun _ _ _ h => h) (Or.inl ⟨by rfl, ?_⟩) (by assumption) ?_
            · intro u' hSu
              (try simp only [List.getElem_toArray, List.getElem_cons_zero, List.getElem_cons_succ])
              obtain ⟨s0, s1, s2, s3, s4, s5, s6, s7, s8, s9, s10, s11, s12, s13⟩ := hSu
              go_simp
            (try simp only [List.getElem_toArray, List.getElem_cons_zero, List.getElem_cons_succ])
            (try simp only [Act.put, List.setIfInBounds_toArray, List.set_cons_zero, List.set_cons_succ])
            refine wpAnyH_take (i := 12) (oi := _) (v := .slice (some ⟨G, 0, none⟩) n n) rfl (by kernel_rfl) (by kernel_rfl) (by kernel_rfl) (fun _ _ _ h => h) (Or.inl ⟨by rfl, ?_⟩) (by assumption) ?_
            · intro u' hSu
              (try simp only [List.getElem_toArray, List.getElem_cons_zero, List.getElem_cons_succ])
              go_simp
            (try simp only [List.getElem_toArray, List.getElem_cons_zero, List.getElem_cons_succ])
            (try simp only [Act.put, List.setIfInBounds_toArray, List.set_cons_zero, List.set_cons_succ])
            refine wpAnyH_take (i := 13) (oi := _) (v := .int .i64 (j : Nat)) rfl (by kernel_rfl) (by kernel_rfl) (by kernel_rfl) (fun _ _ _ h => h) (Or.inl ⟨by rfl, ?_⟩) (by assumption) ?_
            · intro u' hSu
              (try simp only [List.getElem_toArray, List.getElem_cons_zero, List.getElem_cons_succ])
              go_simp
            (try simp only [List.getElem_toArray, List.getElem_cons_zero, List.getElem_cons_succ])
            (try simp only [Act.put, List.setIfInBounds_toArray, List.set_cons_zero, List.set_cons_succ])
            refine wpAnyH_take (i := 14) (oi := _) (v := .pointer (some ⟨G, j * 3, none⟩)) rfl (by kernel_rfl) (by kernel_rfl) (by kernel_rfl) (fun _ _ _ h => h) (Or.inl ⟨by rfl, ?_⟩) (by assumption) ?_
            · intro u' hSu
              (try simp only [List.getElem_toArray, List.getElem_cons_zero, List.getElem_cons_succ])
              go_simp
            (try simp only [List.getElem_toArray, List.getElem_cons_zero, List.getElem_cons_succ])
            (try simp only [Act.put, List.setIfInBounds_toArray, List.set_cons_zero, List.set_cons_succ])
            refine wpAnyH_take (i := 15) (oi := _) (v := .agg #[.bool cn, .string cx, .string cy]) rfl (by kernel_rfl) (by kernel_rfl) (by kernel_rfl) (fun _ _ _ h => h) (Or.inl ⟨by rfl, ?_⟩) (by assumption) ?_
            · intro u' hSu
              (try simp only [List.getElem_toArray, List.getElem_cons_zero, List.getElem_cons_succ])
              obtain ⟨s0, s1, s2, s3, s4, s5, s6, s7, s8, s9, s10, s11, s12, s13⟩ := hSu
              go_simp
            (try simp only [List.getElem_toArray, List.getElem_cons_zero, List.getElem_cons_succ])
            (try simp only [Act.put, List.setIfInBounds_toArray, List.set_cons_zero, List.set_cons_succ])
            refine wpAnyH_take (i := 16) (oi := _) (v := .slice (some ⟨g, o, none⟩) n ca) rfl (by kernel_rfl) (by kernel_rfl) (by kernel_rfl) (fun _ _ _ h => h) (Or.inl ⟨by rfl, ?_⟩) (by assumption) ?_
            · intro u' hSu
              (try simp only [List.getElem_toArray, List.getElem_cons_zero, List.getElem_cons_succ])
              go_simp
            (try simp only [List.getElem_toArray, List.getElem_cons_zero, List.getElem_cons_succ])
            (try simp only [Act.put, List.setIfInBounds_toArray, List.set_cons_zero, List.set_cons_succ])
            refine wpAnyH_take (i := 17) (oi := _) (v := .int .i64 (j : Nat)) rfl (by kernel_rfl) (by kernel_rfl) (by kernel_rfl) (fun _ _ _ h => h) (Or.inl ⟨by rfl, ?_⟩) (by assumption) ?_
            · intro u' hSu
              (try simp only [List.getElem_toArray, List.getElem_cons_zero, List.getElem_cons_succ])
              go_simp
            (try simp only [List.getElem_toArray, List.getElem_cons_zero, List.getElem_cons_succ])
            (try simp only [Act.put, List.setIfInBounds_toArray, List.set_cons_zero, List.set_cons_succ])
            refine wpAnyH_take (i := 18) (oi := _) (v := .pointer (some ⟨g, o + j, none⟩)) rfl (by kernel_rfl) (by kernel_rfl) (by kernel_rfl) (fun _ _ _ h => h) (Or.inl ⟨by rfl, ?_⟩) (by assumption) ?_
            · intro u' hSu
              (try simp only [List.getElem_toArray, List.getElem_cons_zero, List.getElem_cons_succ])
              go_simp
            (try simp only [List.getElem_toArray, List.getElem_cons_zero, List.getElem_cons_succ])
            (try simp only [Act.put, List.setIfInBounds_toArray, List.set_cons_zero, List.set_cons_succ])
            refine wpAnyH_take (i := 19) (oi := _) (v := .slice (some ⟨gj, oj, none⟩) n cj) rfl (by kernel_rfl) (by kernel_rfl) (by kernel_rfl) (fun _ _ _ h => h) (Or.inl ⟨by rfl, ?_⟩) (by assumption) ?_
            · intro u' hSu
              (try simp only [List.getElem_toArray, List.getElem_cons_zero, List.getElem_cons_succ])
              obtain ⟨s0, s1, s2, s3, s4, s5, s6, s7, s8, s9, s10, s11, s12, s13⟩ := hSu
              go_simp
            (try simp only [List.getElem_toArray, List.getElem_cons_zero, List.getElem_cons_succ])
            (try simp only [Act.put, List.setIfInBounds_toArray, List.set_cons_zero, List.set_cons_succ])
            refine wpAnyH_take (i := 20) (oi := _) (v := .int .i64 (i : Nat)) rfl (by kernel_rfl) (by kernel_rfl) (by kernel_rfl) (fun _ _ _ h => h) (Or.inl ⟨by rfl, ?_⟩) (by assumption) ?_
            · intro u' hSu
              (try simp only [List.getElem_toArray, List.getElem_cons_zero, List.getElem_cons_succ])
              go_simp
            (try simp only [List.getElem_toArray, List.getElem_cons_zero, List.getElem_cons_succ])
            (try simp only [Act.put, List.setIfInBounds_toArray, List.set_cons_zero, List.set_cons_succ])
            refine wpAnyH_take (i := 21) (oi := _) (v := .pointer (some ⟨gj, oj + i * 3, none⟩)) rfl (by kernel_rfl) (by kernel_rfl) (by kernel_rfl) (fun _ _ _ h => h) (Or.inl ⟨by rfl, ?_⟩) (by assumption) ?_
            · intro u' hSu
              (try simp only [List.getElem_toArray, List.getElem_cons_zero, List.getElem_cons_succ])
              go_simp
            (try simp only [List.getElem_toArray, List.getElem_cons_zero, List.getElem_cons_succ])
            (try simp only [Act.put, List.setIfInBounds_toArray, List.set_cons_zero, List.set_cons_succ])
            refine wpAnyH_take (i := 22) (oi := _) (v := .agg #[.bool dn, .string dx, .string dy]) rfl (by kernel_rfl) (by kernel_rfl) (by kernel_rfl) (fun _ _ _ h => h) (Or.inl ⟨by rfl, ?_⟩) (by assumption) ?_
            · intro u' hSu
              (try simp only [List.getElem_toArray, List.getElem_cons_zero, List.getElem_cons_succ])
              obtain ⟨s0, s1, s2, s3, s4, s5, s6, s7, s8, s9, s10, s11, s12, s13⟩ := hSu
              go_simp
            (try simp only [List.getElem_toArray, List.getElem_cons_zero, List.getElem_cons_succ])
            (try simp only [Act.put, List.setIfInBounds_toArray, List.set_cons_zero, List.set_cons_succ])
            refine wpAnyH_ready (rs := [11]) (by kernel_rfl) (by simp) (AllReadyH.cons rfl ?_ (AllReadyH.nil))
            · intro K' hK'
              (try simp only [List.getElem_toArray, List.getElem_cons_zero, List.getElem_cons_succ])
              go_simp
              refine (HM1.out _).mono ?_
              rintro e u1 ⟨rfl, hb⟩
              replace HU := hid (HU.out.trans (hb.mono HU.out.size))
              refine hK'.out _ _ (HELD.out _ HU.out) (fun hSe => ?_)
              clear hK' K' hSd hb
              have hSd := hSe
              clear hSe
              (try simp only [List.getElem_toArray, List.getElem_cons_zero, List.getElem_cons_succ])
              (try simp only [Act.put, List.setIfInBounds_toArray, List.set_cons_zero, List.set_cons_succ])
              refine wpAnyH_ready (rs := [23]) (by kernel_rfl) (by simp) (AllReadyH.cons rfl ?_ (AllReadyH.nil))
              · intro K' hK'
                (try simp only [List.getElem_toArray, List.getElem_cons_zero, List.getElem_cons_succ])
                go_simp
                refine (HM2.out _).mono ?_
                rintro e u2 ⟨rfl, hb⟩
                replace HU := hid (HU.out.trans (hb.mono HU.out.size))
                refine hK'.out _ _ (HELD.out _ HU.out) (fun hSe => ?_)
                clear hK' K' hSd hb
                have hSd := hSe
                clear hSe
                (try simp only [List.getElem_toArray, List.getElem_cons_zero, List.getElem_cons_succ])
                (try simp only [Act.put, List.setIfInBounds_toArray, List.set_cons_zero, List.set_cons_succ])
                refine wpAnyH_ready (rs := [24]) (by kernel_rfl) (by simp) (AllReadyH.cons rfl ?_ (AllReadyH.nil))
                · intro K' hK'
                  (try simp only [List.getElem_toArray, List.getElem_cons_zero, List.getElem_cons_succ])
                  go_simp
                  refine (HCP.out _).mono ?_
                  rintro e u3 ⟨rfl, hb⟩
                  replace HU := hid (HU.out.trans (hb.mono HU.out.size))
                  refine hK'.out _ _ (HELD.out _ HU.out) (fun hSe => ?_)
                  clear hK' K' hSd hb
                  have hSd := hSe
                  clear hSe
                  (try simp only [List.getElem_toArray, List.getElem_cons_zero, List.getElem_cons_succ])
                  (try simp only [Act.put, List.setIfInBounds_toArray, List.set_cons_zero, List.set_cons_succ])
                  rcases HTH.out with ⟨rfl, h9⟩ | ⟨rfl, h9⟩ | ⟨rfl, h9⟩
                  · have HNE := hid h9
                    clear h9
                    refine wpAnyH_take (i := 25) (oi := _) (v := .bool true) rfl (by kernel_rfl) (by kernel_rfl) (by kernel_rfl) (fun _ _ _ h => h) (Or.inl ⟨by rfl, ?_⟩) (by assumption) ?_
                    · intro u' hSu
                      (try simp only [List.getElem_toArray, List.getElem_cons_zero, List.getElem_cons_succ])
                      go_simp
                    (try simp only [List.getElem_toArray, List.getElem_cons_zero, List.getElem_cons_succ])
                    (try simp only [Act.put, List.setIfInBounds_toArray, List.set_cons_zero, List.set_cons_succ])
                    refine wpAnyH_done (by kernel_rfl) ?_ _
                    clear hSd
                    have HBN := hid (HB.out.trans (HU.out.mono HB.out.size))
                    have HE9 : Hid (trB n v P = false) := by
                      cases q : trB n v P with
                      | false => rfl
                      | true => exact absurd (trB_iff.1 q i j hlt (by omega)) HNE.out
                    go_wp2
                    go_ret2
                    exact ⟨HBW.out.trans (HBN.out.mono HBW.out.size), .inl ⟨k0, HONE.out, by rw [HV.out, HE9.out]; try rfl⟩⟩
                  · have HEQ := hid h9
                    clear h9
                    refine wpAnyH_take (i := 25) (oi := _) (v := .bool false) rfl (by kernel_rfl) (by kernel_rfl) (by kernel_rfl) (fun _ _ _ h => h) (Or.inl ⟨by rfl, ?_⟩) (by assumption) ?_
                    · intro u' hSu
                      (try simp only [List.getElem_toArray, List.getElem_cons_zero, List.getElem_cons_succ])
                      go_simp
                    (try simp only [List.getElem_toArray, List.getElem_cons_zero, List.getElem_cons_succ])
                    (try simp only [Act.put, List.setIfInBounds_toArray, List.set_cons_zero, List.set_cons_succ])
                    refine wpAnyH_done (by kernel_rfl) ?_ _
                    clear hSd
                    have HBN := hid (HB.out.trans (HU.out.mono HB.out.size))
                    have HJN : Hid (∀ t, t < j + 1 → v i * P i t = v t * P t i) := fun t ht => by
                      rcases Nat.lt_succ_iff_lt_or_eq.1 ht with h | h
                      · exact HJ.out t h
                      · subst h; exact HEQ.out
                    go_wp2
                    go_roundw
                    case rel => exact ⟨j + 1, by omega, by go_num, HJN, HBN⟩
                    case measure => simp [intOf]; omega
                  · have HNE := hid h9
                    clear h9
                    refine wpAnyH_take (i := 25) (oi := _) (v := .bool true) rfl (by kernel_rfl) (by kernel_rfl) (by kernel_rfl) (fun _ _ _ h => h) (Or.inl ⟨by rfl, ?_⟩) (by assumption) ?_
                    · intro u' hSu
                      (try simp only [List.getElem_toArray, List.getElem_cons_zero, List.getElem_cons_succ])
                      go_simp
                    (try simp only [List.getElem_toArray, List.getElem_cons_zero, List.getElem_cons_succ])
                    (try simp only [Act.put, List.setIfInBounds_toArray, List.set_cons_zero, List.set_cons_succ])
                    refine wpAnyH_done (by kernel_rfl) ?_ _
                    clear hSd
                    have HBN := hid (HB.out.trans (HU.out.mono HB.out.size))
                    have HE9 : Hid (trB n v P = false) := by
                      cases q : trB n v P with
                      | false => rfl
                      | true => exact absurd (trB_iff.1 q i j hlt (by omega)) HNE.out
                    go_wp2
                    go_ret2
                    exact ⟨HBW.out.trans (HBN.out.mono HBW.out.size), .inl ⟨k0, HONE.out, by rw [HV.out, HE9.out]; try rfl⟩⟩
          · obtain rfl : i = j := by omega
            have HIN : Hid (∀ s t, s < i + 1 → t < s → v s * P s t = v t * P t s) := fun s t hs ht => by
              rcases Nat.lt_succ_iff_lt_or_eq.1 hs with h | h
              · exact HI.out s t h ht
              · subst h; exact HJ.out t ht
            go_wp2
            go_roundw
            case rel => exact ⟨i + 1, by omega, by go_num, HIN, HB⟩
            case measure => simp [intOf]; omega
      · obtain rfl : n = i := by omega
        have HE9 : Hid (trB n v P = true) := trB_iff.2 fun s t hs ht => by
          rcases Nat.lt_trichotomy s t with h | h | h
          · exact (HI.out t s ht h).symm
          · subst h; rfl
          · exact HI.out s t hs h
        go_wp2
        go_ret2
        exact ⟨HBW.out.trans (HB.out.mono HBW.out.size), .inl ⟨k0, HONE.out, by rw [HV.out, HE9.out]; try rfl⟩⟩
  · have HMY := hid hmany
    clear hmany
    go_wp2
    go_ret2
    exact ⟨HBW.out, .inr ⟨HMY.out, rfl⟩⟩
end Go.Proofs.YtbejijgelljeaaaGreatDoor
