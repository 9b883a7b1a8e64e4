/- Nets: how likely all values are: joint of the document's answer. -/
import Derived.Test.YtncccbdledcibaaGreatDoorLikAOwn
import Derived.Test.YtncccbdledcibaaGreatDoorRtBToNetD
import Derived.Test.YtncccbdledcibaaGreatDoorBestAToNetA
import Derived.Shelf.Slices.CompactI
import Derived.Laws.EntriesVeiled
namespace Go.Proofs.YtncccbdledcibaaGreatDoor
open Go.RowKit Go.Shelf

/-- A net that may be. -/
structure NOK (V : List Vr) (L : List (List Int)) (R : List (List Fr)) : Prop where
  len : L.length = V.length
  lenR : R.length = V.length
  n8 : V.length ≤ 8
  fine : Fine (iL (sizesN V))
  up : ∀ v (h : v < L.length), Up L[v] V.length
  rows : ∀ v (h : v < L.length) (h' : v < R.length), R[v].length = cnt (sizesN V) (toN L[v]) * sz (sizesN V) v
theorem firstE_zero {f : Nat → Int} : ∀ {n : Nat}, firstE f n = 0 → ∀ j, j < n → f j = 0
  | 0, _, j, hj => by omega
  | n + 1, hz, j, hj => by
    rw [firstE] at hz
    by_cases e : firstE f n = 0
    · rw [if_pos e] at hz
      rcases Nat.lt_or_ge j n with h2 | h2
      · exact firstE_zero e j h2
      · obtain rfl : j = n := by omega
        exact hz
    · rw [if_neg e] at hz; exact absurd hz e
theorem netE_ok {V : List Vr} {L : List (List Int)} {R : List (List Fr)} (h : netE V L R = 0) : NOK V L R := by
  rw [netE] at h
  by_cases h1 : L.length = V.length ∧ R.length = V.length
  · rw [if_pos h1] at h
    by_cases h2 : gcE L = 0
    · rw [if_pos h2] at h
      by_cases h3 : varsE V = 0
      · rw [if_pos h3] at h
        obtain ⟨hf, h8, hu⟩ := fine_sizes h1.1 h2 h3
        refine ⟨h1.1, h1.2, by omega, hf, fun v hv => by rw [← h1.1]; exact hu v hv, fun v hv hr => ?_⟩
        have h4 := firstE_zero h v (by omega)
        rw [rowE, List.getD_eq_getElem?_getD, List.getElem?_eq_getElem hr, List.getD_eq_getElem?_getD, List.getElem?_eq_getElem hv] at h4
        by_cases h5 : R[v].length = cnt (sizesN V) (toN L[v]) * sz (sizesN V) v
        · exact h5
        · simp only [Option.getD_some] at h4
          rw [if_neg h5] at h4
          exact absurd h4 (by decide)
      · rw [if_neg h3] at h; exact absurd h h3
    · rw [if_neg h2] at h; exact absurd h h2
  · rw [if_neg h1] at h; exact absurd h (by decide)
/-- The number of a variable. -/
def likF (V : List Vr) (L : List (List Int)) (R : List (List Fr)) (f : Nat → Nat) (v : Nat) : Fr := celF (R.getD v []) (likT (sizesN V) (toN (L.getD v [])) f v)
/-- The product of the first. -/
def prodV (V : List Vr) (L : List (List Int)) (R : List (List Fr)) (f : Nat → Nat) : Nat → Rat
  | 0 => 1
  | k + 1 => prodV V L R f k * frQ (likF V L R f k)
theorem likF_eq {V : List Vr} {L : List (List Int)} {R : List (List Fr)} {f : Nat → Nat} {v : Nat} (hL : v < L.length) (hR : v < R.length) : likF V L R f v = celF R[v] (likT (sizesN V) (toN L[v]) f v) := by
  rw [likF, List.getD_eq_getElem?_getD, List.getElem?_eq_getElem hR, List.getD_eq_getElem?_getD, List.getElem?_eq_getElem hL]
  rfl
theorem prodV_zero {V : List Vr} {L : List (List Int)} {R : List (List Fr)} {f : Nat → Nat} {v : Nat} (h : frQ (likF V L R f v) = 0) : ∀ n, v < n → prodV V L R f n = 0
  | 0, hn => by omega
  | n + 1, hn => by
    rw [prodV]
    rcases Nat.lt_or_ge v n with h1 | h1
    · rw [prodV_zero h n h1, Rat.zero_mul]
    · obtain rfl : v = n := by omega
      rw [h, Rat.mul_zero]
theorem likF_size {V : List Vr} {L : List (List Int)} {R : List (List Fr)} {f : Nat → Nat} (hok : NOK V L R) (hf : ∀ u, f u < sz (sizesN V) u) (hw : ∀ l ∈ R, fw l ≤ 4200) {v : Nat} (hv : v < V.length) : (likF V L R f v).2.1.size + (likF V L R f v).2.2.size ≤ 4200 := by
  have hL : v < L.length := by rw [hok.len]; exact hv
  have hR : v < R.length := by rw [hok.lenR]; exact hv
  rw [likF_eq hL hR]
  have h1 := likT_lt (S := sizesN V) (P := toN L[v]) hf v
  rw [← hok.rows v hL hR] at h1
  have h2 := celF_size h1
  have h3 := hw R[v] (List.getElem_mem hR)
  omega
theorem prodV_size {V : List Vr} {L : List (List Int)} {R : List (List Fr)} {f : Nat → Nat} (hok : NOK V L R) (hf : ∀ u, f u < sz (sizesN V) u) (hw : ∀ l ∈ R, fw l ≤ 4200) : ∀ k, k ≤ V.length → qw (prodV V L R f k) ≤ 2 + k * 4201
  | 0, _ => qw_one2
  | k + 1, hk => by
    have h1 := prodV_size hok hf hw k (by omega)
    have h2 := likF_size hok hf hw (v := k) (by omega)
    have h3 := qw_val (likF V L R f k).1 (likF V L R f k).2.1 (likF V L R f k).2.2
    have h4 := qw_mul (prodV V L R f k) (frQ (likF V L R f k))
    rw [prodV, Nat.add_mul, Nat.one_mul]
    have h5 : qw (frQ (likF V L R f k)) ≤ 4201 := by
      show qw (val _ _ _) ≤ 4201
      omega
    omega
theorem C_flds (q : Rat) : C q = .agg #[.bool (sgn q), .string (nu q), .string (de q)] := rfl
theorem LK.step {w V V' : World} {x y z : Value} (h : LK w V x y z) (hb : Below V.heap.size V V') : LK w V' x y z := ⟨h.1.step hb, h.2.below hb h.2.lt⟩
theorem LK.put {w V : World} {x y z : Value} (h : LK w V x y z) {B : Nat} (hB : w.heap.size + 1 < B) (n : Bool) (p q : ByteArray) : LK w (((V.setCell ⟨B, 0, none⟩ (.bool n)).setCell ⟨B, 1, none⟩ (.string p)).setCell ⟨B, 2, none⟩ (.string q)) x y z := by
  have hblk : ∀ k, k ≠ B → (((V.setCell ⟨B, 0, none⟩ (.bool n)).setCell ⟨B, 1, none⟩ (.string p)).setCell ⟨B, 2, none⟩ (.string q)).heap[k]? = V.heap[k]? := fun k hk =>
    (Below.heap_setCell _ ⟨B, 2, none⟩ _ k hk).trans ((Below.heap_setCell _ ⟨B, 1, none⟩ _ k hk).trans (Below.heap_setCell _ ⟨B, 0, none⟩ _ k hk))
  exact ⟨⟨(hblk _ (by omega)).trans h.1.1, below_put h.1.2 (by omega) _ _ _⟩, (hblk _ (by omega)).trans h.2⟩

set_option maxRecDepth 100000 in
set_option maxHeartbeats 2000000 in
theorem rJoint1_any (a b c d : Option Addr) (ca cb cc cd : Nat) (V : List Vr) (L : List (List Int)) (R : List (List Fr)) (A : List Nat) (w : World) (h : NetI w a b c V L R) (hok : NOK V L R) (hw : ∀ l ∈ R, fw l ≤ 4200) (hA : IntS w d (iL A)) (hAl : A.length = V.length) (f : Nat → Nat) (hf : ∀ u, f u < sz (sizesN V) u) (hfA : ∀ u, u < V.length → A[u]? = some (f u)) :
    Calls Tryz.prog 39 #[.agg #[.slice a V.length ca, .slice b L.length cb, .slice c R.length cc], .slice d A.length cd] w fun e w' => e = .returned (frV (qF (prodV V L R f V.length))) ∧ Below w.heap.size w w' := by
  rw [hAl]
  have hV8 := hok.n8
  have HRA : Hid (∀ (v : Nat) (U : World), v < V.length → NetI U a b c V L R → IntS U d (iL A) → Calls Tryz.prog 32 #[.agg #[.slice a V.length ca, .slice b L.length cb, .slice c R.length cc], .int .i64 (v : Nat), .slice d V.length cd] U fun e w' => e = .returned (frV (likF V L R f v)) ∧ Below U.heap.size U w') := fun v U hv h1 h2 => by
    have hL : v < L.length := by rw [hok.len]; exact hv
    have hR : v < R.length := by rw [hok.lenR]; exact hv
    rw [likF_eq hL hR]
    have := rRowAt_any a b c d ca cb cc cd v V L R A U h1 h2 hAl hV8 hv hL hR hok.fine (hok.up v hL) (hok.rows v hL hR) f hf hfA
    rwa [hAl] at this
  have HLS : Hid (∀ v, v < V.length → (likF V L R f v).2.1.size + (likF V L R f v).2.2.size ≤ 4200) := fun v hv => likF_size hok hf hw hv
  have HPS : Hid (∀ k, k ≤ V.length → (nu (prodV V L R f k)).size + (de (prodV V L R f k)).size ≤ 50000) := fun k hk => by
    have := prodV_size hok hf hw k hk
    have h2 : k * 4201 ≤ 8 * 4201 := Nat.mul_le_mul_right _ (by omega)
    rw [own_size]
    omega
  have HPZ : Hid (∀ v, v < V.length → frQ (likF V L R f v) = 0 → prodV V L R f V.length = 0) := fun v hv h => prodV_zero h _ hv
  have HPX : Hid (∀ k, prodV V L R f (k + 1) = prodV V L R f k * frQ (likF V L R f k)) := fun k => rfl
  have HP0 : Hid (prodV V L R f 0 = 1) := rfl
  have HI := hid h
  have HA := hid hA
  generalize hPV : prodV V L R f = PV at *
  generalize hLF : likF V L R f = LF at *
  clear hPV hLF h hA hfA hf hw hok hAl
  have HK0 := hid (LK.new w (.slice a V.length ca) (.slice b L.length cb) (.slice c R.length cc))
  go_enter Tryz.func39, Tryz.ntmps39
  go_wp2_with fail
  generalize ((w.alloc (NC (.slice a V.length ca) (.slice b L.length cb) (.slice c R.length cc))).alloc (FC false ⟨#[]⟩ ⟨#[]⟩)) = w1 at *
  refine (rOf_one _).mono ?_
  rintro e w2 ⟨rfl, hb2⟩
  have hB2 : w.heap.size + 1 < w2.heap.size := (HK0.out.step hb2).2.lt
  have HK2 := hid ((HK0.out.step hb2).step ((Below.refl _ w2).alloc (Nat.le_refl _) (FC (sgn 1) (nu 1) (de 1))))
  have HBX := hid (Box.new w2 (sgn 1) (nu 1) (de 1))
  clear hb2 HK0
  go_wp2_with fail
  generalize (w2.alloc (FC (sgn 1) (nu 1) (de 1))) = w3 at *
  generalize w2.heap.size = Bp at *
  go_loopw [6] (fun iv wr => ∃ v : Nat, v ≤ V.length ∧ iv = .int .i64 v ∧ Hid (LK w wr (.slice a V.length ca) (.slice b L.length cb) (.slice c R.length cc)) ∧ Hid (Box wr Bp (sgn (PV v)) (nu (PV v)) (de (PV v)))) (fun iv _ => V.length - (intOf iv).toNat)
  case atStart => exact ⟨0, Nat.zero_le _, rfl, HK2, by rw [HP0.out]; exact HBX⟩
  case round =>
    obtain ⟨v, hv, rfl, HK, HP⟩ := hrel
    clear HK2 HBX
    obtain ⟨c0, c1, c2⟩ := HK.out.1.1.cells
    by_cases hlt : v < V.length
    · go_wp2_with fail
      refine (HRA.out v _ hlt (HI.out.below HK.out.1.2) (HA.out.below HK.out.1.2)).mono ?_
      rintro e w4 ⟨rfl, hb4⟩
      have hls := HLS.out v hlt
      have HPv := hid (HPX.out v)
      have hpz := HPZ.out v hlt
      have hps := HPS.out v hv
      generalize LF v = lf at *
      obtain ⟨fn, fx, fy⟩ := lf
      simp only at hls
      have HPN := hid hpz
      have hbA := (Below.refl _ w4).alloc (Nat.le_refl _) (FC fn fx fy)
      have HK4 := hid ((HK.out.step hb4).step hbA)
      have HP4 := hid ((HP.out.below hb4 HP.out.lt).below hbA (HP.out.below hb4 HP.out.lt).lt)
      have hF4 := Box.new w4 fn fx fy
      obtain ⟨k0, k1, k2, -⟩ := hF4.facts
      clear hb4 hbA HK HP c0 c1 c2 hpz
      go_wp2_with fail
      generalize (w4.alloc (FC fn fx fy)) = w5 at *
      generalize w4.heap.size = Bf at *
      refine (rZero_any fn fx fy w5 (by omega)).mono ?_
      rintro e w6 ⟨rfl, hb6⟩
      have HK6 := hid (HK4.out.step hb6)
      have hP6 := HP4.out.below hb6 HP4.out.lt
      have hF6 := hF4.below hb6 hF4.lt
      clear hb6 HK4 HP4 k0 k1 k2 hF4
      by_cases hz : val fn fx fy = 0
      · rw [decide_eq_true hz]
        have HZ := hid (HPN.out hz)
        clear hz
        go_wp2_with fail
        refine (rOf_zero _).mono ?_
        rintro e w7 ⟨rfl, hb7⟩
        have hK7 := HK6.out.step hb7
        obtain ⟨k0, k1, k2, f0, f1, f2⟩ := hK7.2.facts
        have hfin := hK7.2.put (sgn 0) (nu 0) (de 0)
        have hbf := below_put hK7.1.2 (show w.heap.size ≤ w.heap.size + 1 by omega) (.bool (sgn 0)) (.string (nu 0)) (.string (de 0))
        go_wp2
        refine bodyPost_ret (hfin.result rfl _ rfl) rfl ?_
        exact ⟨by rw [HZ.out]; rfl, hbf⟩
      · rw [decide_eq_false hz]
        clear hz
        obtain ⟨k0, k1, k2, -⟩ := hF6.facts
        obtain ⟨q0, q1, q2, -⟩ := hP6.facts
        go_wp2_with fail
        refine (rMulF_any (sgn (PV v)) fn (nu (PV v)) (de (PV v)) fx fy w6 hps (by omega)).mono ?_
        rintro e w7 ⟨rfl, hb7⟩
        rw [val_own, show val fn fx fy = frQ (fn, fx, fy) from rfl, ← HPv.out]
        have hK7 := HK6.out.step hb7
        have hP7 := hP6.below hb7 hP6.lt
        clear k0 k1 k2 q0 q1 q2 hb7
        obtain ⟨k0, k1, k2, f0, f1, f2⟩ := hP7.facts
        have HPU := hid (hP7.put (sgn (PV (v + 1))) (nu (PV (v + 1))) (de (PV (v + 1))))
        have HKU := hid (hK7.put hB2 (sgn (PV (v + 1))) (nu (PV (v + 1))) (de (PV (v + 1))))
        simp only [C_flds]
        go_wp2
        go_roundw
        case rel => exact ⟨v + 1, by omega, by go_num, HKU, HPU⟩
        case measure => simp [intOf]; omega
    · obtain rfl : v = V.length := by omega
      obtain ⟨k0, k1, k2, f0, f1, f2⟩ := HK.out.2.facts
      obtain ⟨q0, q1, q2, -⟩ := HP.out.facts
      have hfin := HK.out.2.put (sgn (PV V.length)) (nu (PV V.length)) (de (PV V.length))
      have hbf := below_put HK.out.1.2 (show w.heap.size ≤ w.heap.size + 1 by omega) (.bool (sgn (PV V.length))) (.string (nu (PV V.length))) (.string (de (PV V.length)))
      go_wp2
      refine bodyPost_ret (hfin.result rfl _ rfl) rfl ?_
      exact ⟨rfl, hbf⟩
end Go.Proofs.YtncccbdledcibaaGreatDoor

/- Package table: the closure of Out. -/
namespace Go.Proofs.YtncccbdledcibaaGreatDoor
open Go.RowKit Go.Shelf

theorem fits_mono {m n : Nat} {q : Rat} (h : Fits m q) (hm : m ≤ n) : Fits n q := by
  obtain ⟨A, D, h1, h2, h3, h4⟩ := h
  exact ⟨A, D, h1, h2, Nat.lt_of_lt_of_le h3 (pow_mono hm), Nat.lt_of_lt_of_le h4 (pow_mono hm)⟩
theorem great_one (f g : Fr) : great f g = f ∨ great f g = g := by
  rw [great]
  by_cases h : cmpQ (frQ f) (frQ g) < 0
  · rw [if_pos h]; exact .inr rfl
  · rw [if_neg h]; exact .inl rfl
theorem qF_size (q : Rat) : (qF q).2.1.size + (qF q).2.2.size = qw q := rfl
theorem outN_fits (most : Bool) (T : Nat → Fr) : ∀ k, (∀ x, x ≤ k → (T x).2.1.size + (T x).2.2.size + 2 ≤ 8192) → Fits ((k + 1) * 8192) (frQ (outN most T k))
  | 0, h => fits_mono (fits_val _ _ _) (by have := h 0 (Nat.le_refl _); show (T 0).2.1.size + (T 0).2.2.size + 1 ≤ _; omega)
  | k + 1, h => by
    have h1 := outN_fits most T k fun x hx => h x (by omega)
    have h2 : Fits 8191 (frQ (T (k + 1))) := fits_mono (fits_val _ _ _) (by have := h (k + 1) (Nat.le_refl _); omega)
    rw [outN]
    cases most with
    | true =>
      rw [if_pos rfl]
      rcases great_one (outN true T k) (T (k + 1)) with e | e
      · rw [e]; exact fits_mono h1 (by omega)
      · rw [e]; exact fits_mono h2 (by omega)
    | false =>
      rw [if_neg (by decide), frQ_qF]
      exact fits_mono (fits_add h1 h2) (by omega)
theorem out_ar1 (k : Nat) : 2 * ((k + 1) * 8192) ≤ 2 * ((k + 1 + 1) * 8192) := by omega
theorem out_ar2 (k : Nat) : 8192 ≤ 2 * ((k + 1 + 1) * 8192) := by omega
theorem great_size {f g : Fr} {A : Nat} (h1 : f.2.1.size + f.2.2.size ≤ A) (h2 : g.2.1.size + g.2.2.size ≤ A) : (great f g).2.1.size + (great f g).2.2.size ≤ A := by
  rcases great_one f g with e | e
  · rw [e]; exact h1
  · rw [e]; exact h2
theorem outN_size (most : Bool) (T : Nat → Fr) : ∀ k, (∀ x, x ≤ k → (T x).2.1.size + (T x).2.2.size + 2 ≤ 8192) → (outN most T k).2.1.size + (outN most T k).2.2.size ≤ 2 * ((k + 1) * 8192)
  | 0, h => by have := h 0 (Nat.le_refl _); rw [outN]; omega
  | k + 1, h => by
    have h1 := outN_size most T k fun x hx => h x (by omega)
    have h2 := h (k + 1) (Nat.le_refl _)
    have h3 := outN_fits most T (k + 1) h
    rw [outN] at h3 ⊢
    cases most with
    | true =>
      rw [if_pos rfl]
      exact great_size (Nat.le_trans h1 (out_ar1 k)) (Nat.le_trans (Nat.le_trans (Nat.le_add_right _ 2) h2) (out_ar2 k))
    | false =>
      rw [if_neg (by decide)] at h3 ⊢
      rw [frQ_qF] at h3
      have h4 := fits_qw h3
      rw [qF_size]
      exact h4
/-- A way to make two fractions one. -/
def Pairs (most : Bool) (pf : Nat) : Prop := (∀ args w, (callFunc pf args).run Tryz.prog w = .ok (.enter pf args) w) ∧ ∀ (f g : Fr) (V : World), f.2.1.size + f.2.2.size ≤ 100000 → g.2.1.size + g.2.2.size ≤ 100000 → Calls Tryz.prog pf #[frV f, frV g] V fun e w' => e = .returned (frV (if most then great f g else qF (frQ f + frQ g))) ∧ Below V.heap.size V w'
theorem pairs_sum : Pairs false 146 := ⟨enters_of Tryz.func146 (by kernel_rfl) rfl, fun f g V h1 h2 => fAdd_q (n := f.1) (m := g.1) (x := f.2.1) (y := f.2.2) (u := g.2.1) (v := g.2.2) (w := V) (frQ f + frQ g) rfl rfl rfl h1 h2⟩
end Go.Proofs.YtncccbdledcibaaGreatDoor

/- Package table: Out. -/
namespace Go.Proofs.YtncccbdledcibaaGreatDoor
open Go.RowKit Go.Shelf

/-- What Out holds: sizes, the table, the variable, its result's block. -/
def OH (w V : World) (s u v x : Value) : Prop := Boxed V w.heap.size 27 s ∧ NR w V (w.heap.size + 1) (w.heap.size + 1 + 1 + 1) u v ∧ Boxed V (w.heap.size + 1 + 1) 3 x
theorem OH.step {w V V' : World} {s u v x : Value} (h : OH w V s u v x) (hb : Below V.heap.size V V') : OH w V' s u v x := ⟨boxed_keep h.1 hb, h.2.1.step hb, boxed_keep h.2.2 hb⟩
theorem OH.new (w : World) (s u v x : Value) : OH w ((((w.alloc (.cells #[s] 27)).alloc (TC u v)).alloc (.cells #[x] 3)).alloc (TC (.slice none 0 0) (.slice none 0 0))) s u v x := by
  have h2 : Boxed (((w.alloc (.cells #[s] 27)).alloc (TC u v)).alloc (.cells #[x] 3)) (w.heap.size + 1 + 1) 3 x := by
    have h := Boxed.new ((w.alloc (.cells #[s] 27)).alloc (TC u v)) 3 x
    rwa [World.size_alloc, World.size_alloc] at h
  exact ⟨(((Boxed.new w _ _).alloc _).alloc _).alloc _, ⟨((TBox.at (by simp) _ _).alloc _).alloc _, TBox.at (by simp) _ _, ((((Below.refl _ w).alloc (Nat.le_refl _) _).alloc (by simp) _).alloc (by simp; omega) _).alloc (by simp; omega) _⟩, h2.alloc _⟩
theorem OH.off {w V : World} {s u v x : Value} (h : OH w V s u v x) (B j : Nat) (y : Value) (hB : w.heap.size + 1 + 1 + 1 < B) : OH w (V.setCell ⟨B, j, none⟩ y) s u v x := ⟨boxed_off h.1 B j y (by omega), h.2.1.off B j y (by omega) (by omega) (by omega), boxed_off h.2.2 B j y (by omega)⟩
theorem OH.top {w V : World} {s u v x : Value} (h : OH w V s u v x) : w.heap.size + 1 + 1 + 1 < V.heap.size := h.2.1.2.1.lt
theorem outL_length (S vars rest : List Nat) (v : Nat) (most : Bool) (l : List Fr) : (outL S vars rest v most l).length = cnt S rest := by simp [outL]
theorem outL_get (S vars rest : List Nat) (v : Nat) (most : Bool) (l : List Fr) {k : Nat} (h : k < (outL S vars rest v most l).length) : (outL S vars rest v most l)[k] = qF (frQ (outN most (fun x => celF l (pos S (withV (asg S rest k) v x) vars)) (sz S v - 1))) := by simp [outL]

end Go.Proofs.YtncccbdledcibaaGreatDoor

/- The variables of two tables together. -/
namespace Go.Proofs.YtncccbdledcibaaGreatDoor
open Go.RowKit Go.Shelf Go.Sort Go.Lib

theorem rise_extI : ∀ {a b : List Int}, a.Pairwise (· < ·) → b.Pairwise (· < ·) → (∀ x, x ∈ a ↔ x ∈ b) → a = b
  | [], [], _, _, _ => rfl
  | [], y :: b, _, _, h => absurd ((h y).2 List.mem_cons_self) (by simp)
  | x :: a, [], _, _, h => absurd ((h x).1 List.mem_cons_self) (by simp)
  | x :: a, y :: b, ha, hb, h => by
    rw [List.pairwise_cons] at ha hb
    have e : x = y := by
      have h1 := (h x).1 List.mem_cons_self
      have h2 := (h y).2 List.mem_cons_self
      rw [List.mem_cons] at h1 h2
      rcases h1 with h1 | h1
      · exact h1
      · rcases h2 with h2 | h2
        · exact h2.symm
        · have := hb.1 x h1
          have := ha.1 y h2
          omega
    subst e
    rw [rise_extI ha.2 hb.2 fun z => ?_]
    constructor
    · intro hz
      have h1 := (h z).1 (List.mem_cons_of_mem _ hz)
      have := ha.1 z hz
      rw [List.mem_cons] at h1
      rcases h1 with h1 | h1
      · omega
      · exact h1
    · intro hz
      have h1 := (h z).2 (List.mem_cons_of_mem _ hz)
      have := hb.1 z hz
      rw [List.mem_cons] at h1
      rcases h1 with h1 | h1
      · omega
      · exact h1
theorem compact_upto {d : Array Int} (hs : ∀ i j, i ≤ j → j < d.size → d[i]! ≤ d[j]!) : ∀ m, m ≤ d.size → (compactUpTo d m).Pairwise (· < ·) ∧ ∀ x, x ∈ compactUpTo d m ↔ ∃ j, j < m ∧ d[j]! = x
  | 0, _ => ⟨by simp [compactUpTo], fun x => by simp [compactUpTo]⟩
  | m + 1, hm => by
    obtain ⟨h1, h2⟩ := compact_upto hs m (by omega)
    rw [compactUpTo_succ]
    by_cases hk : keeps d m = true
    · rw [if_pos hk]
      constructor
      · rw [List.pairwise_append]
        refine ⟨h1, by simp, fun x hx y hy => ?_⟩
        obtain ⟨j, hj, rfl⟩ := (h2 x).1 hx
        rw [List.mem_singleton] at hy
        subst hy
        rw [keeps, decide_eq_true_iff] at hk
        rcases hk with hk | hk
        · omega
        · have e1 := hs j (m - 1) (by omega) (by omega)
          have e2 := hs (m - 1) m (by omega) (by omega)
          omega
      · intro x
        rw [List.mem_append, h2, List.mem_singleton]
        constructor
        · rintro (⟨j, hj, rfl⟩ | rfl)
          · exact ⟨j, by omega, rfl⟩
          · exact ⟨m, by omega, rfl⟩
        · rintro ⟨j, hj, rfl⟩
          by_cases e : j = m
          · exact .inr (by rw [e])
          · exact .inl ⟨j, by omega, rfl⟩
    · rw [if_neg hk, List.append_nil]
      refine ⟨h1, fun x => ?_⟩
      rw [h2]
      have hk' : ¬ (m = 0 ∨ d[m]! ≠ d[m - 1]!) := fun h => hk (by rw [keeps, decide_eq_true_iff]; exact h)
      have hm0 : m ≠ 0 := fun h => hk' (.inl h)
      have hmm : d[m]! = d[m - 1]! := Classical.byContradiction fun h => hk' (.inr h)
      constructor
      · rintro ⟨j, hj, rfl⟩
        exact ⟨j, by omega, rfl⟩
      · rintro ⟨j, hj, rfl⟩
        by_cases e : j = m
        · exact ⟨m - 1, by omega, by rw [e, hmm]⟩
        · exact ⟨j, by omega, rfl⟩
/-- What together answers. -/
def togL (la lb : List Int) : List Int := Lib.compact ((la ++ lb).mergeSort fun x y => decide (x ≤ y))
theorem togL_rise (la lb : List Int) : (togL la lb).Pairwise (· < ·) ∧ ∀ x, x ∈ togL la lb ↔ x ∈ la ∨ x ∈ lb := by
  have hp : ((la ++ lb).mergeSort fun x y => decide (x ≤ y)).Pairwise (fun x y => decide (x ≤ y) = true) := List.pairwise_mergeSort (fun a b c h1 h2 => by simp at h1 h2 ⊢; omega) (fun a b => by simp; omega) _
  have hm : ∀ x, x ∈ ((la ++ lb).mergeSort fun x y => decide (x ≤ y)) ↔ x ∈ la ∨ x ∈ lb := fun x => by rw [List.mem_mergeSort, List.mem_append]
  rw [togL]
  generalize ((la ++ lb).mergeSort fun x y => decide (x ≤ y)) = zs at hp hm
  have hs : ∀ i j, i ≤ j → j < zs.toArray.size → zs.toArray[i]! ≤ zs.toArray[j]! := fun i j hij hj => by
    have hj' : j < zs.length := by simpa using hj
    rw [getElem!_pos zs.toArray i (by omega), getElem!_pos zs.toArray j hj]
    by_cases e : i = j
    · subst e; exact Int.le_refl _
    · have := List.pairwise_iff_getElem.1 hp i j (by omega) hj' (by omega)
      simpa using this
  obtain ⟨h1, h2⟩ := compact_upto hs zs.toArray.size (Nat.le_refl _)
  have e : Lib.compact zs = compactUpTo zs.toArray zs.toArray.size := by rw [Lib.compact]; simp
  rw [e]
  refine ⟨h1, fun x => ?_⟩
  rw [h2, ← hm]
  constructor
  · rintro ⟨j, hj, rfl⟩
    rw [getElem!_pos zs.toArray j hj]
    simp
  · intro hx
    obtain ⟨j, hj, rfl⟩ := List.getElem_of_mem hx
    exact ⟨j, by simpa using hj, by rw [getElem!_pos zs.toArray j (by simpa using hj)]; simp⟩
theorem togL_nil : togL [] [] = [] := List.eq_nil_iff_forall_not_mem.2 fun x hx => by have := ((togL_rise [] []).2 x).1 hx; simp at this
theorem inB_iff {k : Int} {l : List Int} : inB k l = true ↔ k ∈ l := by simp [inB]
theorem togL_both {la lb : List Int} {n : Nat} (ha : Up la n) (hb : Up lb n) : togL la lb = iL (bothN n la lb) := by
  obtain ⟨h1, h2⟩ := togL_rise la lb
  have ha' := (up_iff.1 ha).1
  have hb' := (up_iff.1 hb).1
  refine rise_extI h1 ?_ fun x => ?_
  · rw [iL, List.pairwise_map]
    exact ((range_rise n).filter _).imp fun h => by omega
  · rw [h2, iL, List.mem_map]
    constructor
    · intro hx
      have hr : 0 ≤ x ∧ x < n := hx.elim (ha' x) (hb' x)
      refine ⟨x.toNat, List.mem_filter.2 ⟨List.mem_range.2 (by omega), ?_⟩, by omega⟩
      rw [Bool.or_eq_true, inB_iff, inB_iff, Int.toNat_of_nonneg hr.1]
      exact hx
    · rintro ⟨v, hv, rfl⟩
      have := (List.mem_filter.1 hv).2
      rw [Bool.or_eq_true, inB_iff, inB_iff] at this
      exact this
theorem togL_up {la lb : List Int} {n : Nat} (ha : Up la n) (hb : Up lb n) : Up (togL la lb) n := by
  obtain ⟨h1, h2⟩ := togL_rise la lb
  exact up_iff.2 ⟨fun x hx => ((h2 x).1 hx).elim ((up_iff.1 ha).1 x) ((up_iff.1 hb).1 x), h1⟩
end Go.Proofs.YtncccbdledcibaaGreatDoor


/- Package table: together. -/
namespace Go.Proofs.YtncccbdledcibaaGreatDoor
open Go.RowKit Go.Shelf Go.Sort Go.Lib

end Go.Proofs.YtncccbdledcibaaGreatDoor

/- Package table: the closure of Product. -/
namespace Go.Proofs.YtncccbdledcibaaGreatDoor
open Go.RowKit Go.Shelf

end Go.Proofs.YtncccbdledcibaaGreatDoor

/- Package table: Product. -/
namespace Go.Proofs.YtncccbdledcibaaGreatDoor
open Go.RowKit Go.Shelf

/-- The four fields of two tables in a row. -/
def Row4 (w : World) (g : Nat) (x y z t : Value) : Prop := w.heap[g]? = some (.cells #[x, y, z, t] 31 (0, 0))
theorem Row4.lt {w : World} {g : Nat} {x y z t : Value} (h : Row4 w g x y z t) : g < w.heap.size := (Array.getElem?_eq_some_iff.1 h).1
/-- What Product holds. -/
def PH (w V : World) (x y z t : Value) : Prop := TBox V w.heap.size x y ∧ TBox V (w.heap.size + 1) z t ∧ TBox V (w.heap.size + 1 + 1) (.slice none 0 0) (.slice none 0 0) ∧ Row4 V (w.heap.size + 1 + 1 + 1) x y z t ∧ Below w.heap.size w V
theorem PH.step {w V V' : World} {x y z t : Value} (h : PH w V x y z t) (hb : Below V.heap.size V V') : PH w V' x y z t := ⟨h.1.below hb h.1.lt, h.2.1.below hb h.2.1.lt, h.2.2.1.below hb h.2.2.1.lt, (hb.block _ h.2.2.2.1.lt).trans h.2.2.2.1, h.2.2.2.2.trans (hb.mono h.2.2.2.2.size)⟩
theorem PH.drew {w V : World} {x y z t : Value} (h : PH w V x y z t) : PH w V.drew x y z t := ⟨h.1, h.2.1, h.2.2.1, h.2.2.2.1, h.2.2.2.2.drew⟩
theorem PH.new (w : World) (x y z t : Value) : PH w ((((w.alloc (TC x y)).alloc (TC z t)).alloc (TC (.slice none 0 0) (.slice none 0 0))).alloc (.cells #[x, y, z, t] 31)) x y z t := by
  refine ⟨((TBox.at rfl _ _).alloc _ |>.alloc _).alloc _, ((TBox.at (by simp) _ _).alloc _).alloc _, (TBox.at (by simp) _ _).alloc _, ?_, ((((Below.refl _ w).alloc (Nat.le_refl _) _).alloc (by simp) _).alloc (by simp; omega) _).alloc (by simp; omega) _⟩
  have h := heap_alloc_new (((w.alloc (TC x y)).alloc (TC z t)).alloc (TC (.slice none 0 0) (.slice none 0 0))) (.cells #[x, y, z, t] 31)
  rw [World.size_alloc, World.size_alloc, World.size_alloc] at h
  exact h
/-- The i-th table's fields. -/
theorem PH.row {w V : World} {x y z t : Value} (h : PH w V x y z t) : (V.cell? ⟨w.heap.size + 1 + 1 + 1, 0, none⟩ = some x ∧ V.cell? ⟨w.heap.size + 1 + 1 + 1, 1, none⟩ = some y) ∧ V.cell? ⟨w.heap.size + 1 + 1 + 1, 2, none⟩ = some z ∧ V.cell? ⟨w.heap.size + 1 + 1 + 1, 3, none⟩ = some t := by
  refine ⟨⟨?_, ?_⟩, ?_, ?_⟩ <;> (rw [cell_of_row _ _ _ _ _ (0, 0) h.2.2.2.1]; rfl)
/-- What is no nil function lies elsewhere. -/
theorem nil_far {V : World} {B b j : Nat} {t : TypeId} {x : Value} (h : Boxed V B t .nilFunc) (hx : V.cell? ⟨b, j, none⟩ = some x) (hn : x ≠ .nilFunc) : b ≠ B := fun e => by
  subst e
  rw [cell_of_row V b j _ _ (0, 0) h] at hx
  match j with
  | 0 => simp at hx; exact hn hx.symm
  | j + 1 => simp at hx
theorem intS_nil {V : World} {B : Nat} {t : TypeId} {c : Option Addr} {l : List Int} (h : Boxed V B t .nilFunc) (hi : IntS V c l) (y : Value) : IntS (V.setCell ⟨B, 0, none⟩ y) c l := fun k hk => by
  obtain ⟨g, o, rfl, hlt, hc⟩ := hi k hk
  have hne := nil_far h hc (by simp)
  exact ⟨g, o, rfl, Nat.lt_of_lt_of_le hlt (KeepsOthers.setCell V _ _).size, (World.cell?_setCell_other _ _ _ _ (fun e => hne (congrArg Addr.block e).symm)).trans hc⟩
theorem PH.nil {w V : World} {x y z t : Value} {B : Nat} {ty : TypeId} (h : PH w V x y z t) (hx : SlV x) (hz : SlV z) (hb : Boxed V B ty .nilFunc) (hB : w.heap.size ≤ B) (u : Value) : PH w (V.setCell ⟨B, 0, none⟩ u) x y z t := by
  obtain ⟨a1, n1, c1, rfl⟩ := hx
  obtain ⟨a2, n2, c2, rfl⟩ := hz
  have h4 := h.row.1.1
  exact ⟨h.1.off B 0 u (nil_far hb h.1.c0 (by simp)), h.2.1.off B 0 u (nil_far hb h.2.1.c0 (by simp)), h.2.2.1.off B 0 u (nil_far hb h.2.2.1.c0 (by simp)), (Below.heap_setCell V ⟨B, 0, none⟩ u _ (nil_far hb h4 (by simp))).trans h.2.2.2.1, h.2.2.2.2.setCell (p := ⟨B, 0, none⟩) hB u⟩
theorem prodL_length (S va vb U : List Nat) (la lb : List Fr) : (prodL S va vb U la lb).length = cnt S U := by simp [prodL]
theorem prodL_get (S va vb U : List Nat) (la lb : List Fr) {k : Nat} (h : k < (prodL S va vb U la lb).length) : (prodL S va vb U la lb)[k] = qF (frQ (celF la (pos S (asg S U k) va)) * frQ (celF lb (pos S (asg S U k) vb))) := by simp [prodL]
theorem stand_lt {sizes vars U : List Int} {K m : Nat} (hk : checkA sizes vars m = 0) (hK : K < cnt (toN sizes) (toN U)) : pos (toN sizes) (asg (toN sizes) (toN U) K) (toN vars) < m := by
  obtain ⟨h1, h2, h3⟩ := checkA_parts hk
  rw [h3]
  exact pos_lt _ (fun u => asg_lt h1.pos _ _ u hK) _

end Go.Proofs.YtncccbdledcibaaGreatDoor

