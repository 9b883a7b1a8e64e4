/- Nets: how likely all values are: joint of the document's answer. -/
import Derived.Test.YtncccbdledcibaaGreatDoorLikAOwn
import Derived.Test.YtncccbdledcibaaGreatDoorRtEToOneA
import Derived.Test.YtncccbdledcibaaGreatDoorStandBToProdA
import Derived.Test.YtncccbdledcibaaGreatDoorProdBToSwapT
namespace Go.Proofs.YtncccbdledcibaaGreatDoor
open Go.RowKit Go.Shelf

/-- A net that may be. -/
structure NOK (V : List Vr) (L : List (List Int)) (R : List (List Fr)) : Prop where
  len : L.length = V.length
  lenR : R.length = V.length
  n8 : V.length ≤ 8
  fine : Fine (iL (sizesN V))
  up : ∀ v (h : v < L.length), Up L[v] V.length
  rows : ∀ v (h : v < L.length) (h' : v < R.length), R[v].length = cnt (sizesN V) (toN L[v]) * sz (sizesN V) v
theorem firstE_zero {f : Nat → Int} : ∀ {n : Nat}, firstE f n = 0 → ∀ j, j < n → f j = 0
  | 0, _, j, hj => by omega
  | n + 1, hz, j, hj => by
    rw [firstE] at hz
    by_cases e : firstE f n = 0
    · rw [if_pos e] at hz
      rcases Nat.lt_or_ge j n with h2 | h2
      · exact firstE_zero e j h2
      · obtain rfl : j = n := by omega
        exact hz
    · rw [if_neg e] at hz; exact absurd hz e
theorem netE_ok {V : List Vr} {L : List (List Int)} {R : List (List Fr)} (h : netE V L R = 0) : NOK V L R := by
  rw [netE] at h
  by_cases h1 : L.length = V.length ∧ R.length = V.length
  · rw [if_pos h1] at h
    by_cases h2 : gcE L = 0
    · rw [if_pos h2] at h
      by_cases h3 : varsE V = 0
      · rw [if_pos h3] at h
        obtain ⟨hf, h8, hu⟩ := fine_sizes h1.1 h2 h3
        refine ⟨h1.1, h1.2, by omega, hf, fun v hv => by rw [← h1.1]; exact hu v hv, fun v hv hr => ?_⟩
        have h4 := firstE_zero h v (by omega)
        rw [rowE, List.getD_eq_getElem?_getD, List.getElem?_eq_getElem hr, List.getD_eq_getElem?_getD, List.getElem?_eq_getElem hv] at h4
        by_cases h5 : R[v].length = cnt (sizesN V) (toN L[v]) * sz (sizesN V) v
        · exact h5
        · simp only [Option.getD_some] at h4
          rw [if_neg h5] at h4
          exact absurd h4 (by decide)
      · rw [if_neg h3] at h; exact absurd h h3
    · rw [if_neg h2] at h; exact absurd h h2
  · rw [if_neg h1] at h; exact absurd h (by decide)
/-- The number of a variable. -/
def likF (V : List Vr) (L : List (List Int)) (R : List (List Fr)) (f : Nat → Nat) (v : Nat) : Fr := celF (R.getD v []) (likT (sizesN V) (toN (L.getD v [])) f v)
/-- The product of the first. -/
def prodV (V : List Vr) (L : List (List Int)) (R : List (List Fr)) (f : Nat → Nat) : Nat → Rat
  | 0 => 1
  | k + 1 => prodV V L R f k * frQ (likF V L R f k)
theorem likF_eq {V : List Vr} {L : List (List Int)} {R : List (List Fr)} {f : Nat → Nat} {v : Nat} (hL : v < L.length) (hR : v < R.length) : likF V L R f v = celF R[v] (likT (sizesN V) (toN L[v]) f v) := by
  rw [likF, List.getD_eq_getElem?_getD, List.getElem?_eq_getElem hR, List.getD_eq_getElem?_getD, List.getElem?_eq_getElem hL]
  rfl
theorem prodV_zero {V : List Vr} {L : List (List Int)} {R : List (List Fr)} {f : Nat → Nat} {v : Nat} (h : frQ (likF V L R f v) = 0) : ∀ n, v < n → prodV V L R f n = 0
  | 0, hn => by omega
  | n + 1, hn => by
    rw [prodV]
    rcases Nat.lt_or_ge v n with h1 | h1
    · rw [prodV_zero h n h1, Rat.zero_mul]
    · obtain rfl : v = n := by omega
      rw [h, Rat.mul_zero]
theorem likF_size {V : List Vr} {L : List (List Int)} {R : List (List Fr)} {f : Nat → Nat} (hok : NOK V L R) (hf : ∀ u, f u < sz (sizesN V) u) (hw : ∀ l ∈ R, fw l ≤ 4200) {v : Nat} (hv : v < V.length) : (likF V L R f v).2.1.size + (likF V L R f v).2.2.size ≤ 4200 := by
  have hL : v < L.length := by rw [hok.len]; exact hv
  have hR : v < R.length := by rw [hok.lenR]; exact hv
  rw [likF_eq hL hR]
  have h1 := likT_lt (S := sizesN V) (P := toN L[v]) hf v
  rw [← hok.rows v hL hR] at h1
  have h2 := celF_size h1
  have h3 := hw R[v] (List.getElem_mem hR)
  omega
theorem prodV_size {V : List Vr} {L : List (List Int)} {R : List (List Fr)} {f : Nat → Nat} (hok : NOK V L R) (hf : ∀ u, f u < sz (sizesN V) u) (hw : ∀ l ∈ R, fw l ≤ 4200) : ∀ k, k ≤ V.length → qw (prodV V L R f k) ≤ 2 + k * 4201
  | 0, _ => qw_one2
  | k + 1, hk => by
    have h1 := prodV_size hok hf hw k (by omega)
    have h2 := likF_size hok hf hw (v := k) (by omega)
    have h3 := qw_val (likF V L R f k).1 (likF V L R f k).2.1 (likF V L R f k).2.2
    have h4 := qw_mul (prodV V L R f k) (frQ (likF V L R f k))
    rw [prodV, Nat.add_mul, Nat.one_mul]
    have h5 : qw (frQ (likF V L R f k)) ≤ 4201 := by
      show qw (val _ _ _) ≤ 4201
      omega
    omega
theorem C_flds (q : Rat) : C q = .agg #[.bool (sgn q), .string (nu q), .string (de q)] := rfl
theorem LK.step {w V V' : World} {x y z : Value} (h : LK w V x y z) (hb : Below V.heap.size V V') : LK w V' x y z := ⟨h.1.step hb, h.2.below hb h.2.lt⟩
theorem LK.put {w V : World} {x y z : Value} (h : LK w V x y z) {B : Nat} (hB : w.heap.size + 1 < B) (n : Bool) (p q : ByteArray) : LK w (((V.setCell ⟨B, 0, none⟩ (.bool n)).setCell ⟨B, 1, none⟩ (.string p)).setCell ⟨B, 2, none⟩ (.string q)) x y z := by
  have hblk : ∀ k, k ≠ B → (((V.setCell ⟨B, 0, none⟩ (.bool n)).setCell ⟨B, 1, none⟩ (.string p)).setCell ⟨B, 2, none⟩ (.string q)).heap[k]? = V.heap[k]? := fun k hk =>
    (Below.heap_setCell _ ⟨B, 2, none⟩ _ k hk).trans ((Below.heap_setCell _ ⟨B, 1, none⟩ _ k hk).trans (Below.heap_setCell _ ⟨B, 0, none⟩ _ k hk))
  exact ⟨⟨(hblk _ (by omega)).trans h.1.1, below_put h.1.2 (by omega) _ _ _⟩, (hblk _ (by omega)).trans h.2⟩

set_option maxRecDepth 100000 in
set_option maxHeartbeats 2000000 in
theorem rJoint1_any (a b c d : Option Addr) (ca cb cc cd : Nat) (V : List Vr) (L : List (List Int)) (R : List (List Fr)) (A : List Nat) (w : World) (h : NetI w a b c V L R) (hok : NOK V L R) (hw : ∀ l ∈ R, fw l ≤ 4200) (hA : IntS w d (iL A)) (hAl : A.length = V.length) (f : Nat → Nat) (hf : ∀ u, f u < sz (sizesN V) u) (hfA : ∀ u, u < V.length → A[u]? = some (f u)) :
    Calls Tryz.prog 39 #[.agg #[.slice a V.length ca, .slice b L.length cb, .slice c R.length cc], .slice d A.length cd] w fun e w' => e = .returned (frV (qF (prodV V L R f V.length))) ∧ Below w.heap.size w w' := by
  rw [hAl]
  have hV8 := hok.n8
  have HRA : Hid (∀ (v : Nat) (U : World), v < V.length → NetI U a b c V L R → IntS U d (iL A) → Calls Tryz.prog 32 #[.agg #[.slice a V.length ca, .slice b L.length cb, .slice c R.length cc], .int .i64 (v : Nat), .slice d V.length cd] U fun e w' => e = .returned (frV (likF V L R f v)) ∧ Below U.heap.size U w') := fun v U hv h1 h2 => by
    have hL : v < L.length := by rw [hok.len]; exact hv
    have hR : v < R.length := by rw [hok.lenR]; exact hv
    rw [likF_eq hL hR]
    have := rRowAt_any a b c d ca cb cc cd v V L R A U h1 h2 hAl hV8 hv hL hR hok.fine (hok.up v hL) (hok.rows v hL hR) f hf hfA
    rwa [hAl] at this
  have HLS : Hid (∀ v, v < V.length → (likF V L R f v).2.1.size + (likF V L R f v).2.2.size ≤ 4200) := fun v hv => likF_size hok hf hw hv
  have HPS : Hid (∀ k, k ≤ V.length → (nu (prodV V L R f k)).size + (de (prodV V L R f k)).size ≤ 50000) := fun k hk => by
    have := prodV_size hok hf hw k hk
    have h2 : k * 4201 ≤ 8 * 4201 := Nat.mul_le_mul_right _ (by omega)
    rw [own_size]
    omega
  have HPZ : Hid (∀ v, v < V.length → frQ (likF V L R f v) = 0 → prodV V L R f V.length = 0) := fun v hv h => prodV_zero h _ hv
  have HPX : Hid (∀ k, prodV V L R f (k + 1) = prodV V L R f k * frQ (likF V L R f k)) := fun k => rfl
  have HP0 : Hid (prodV V L R f 0 = 1) := rfl
  have HI := hid h
  have HA := hid hA
  generalize hPV : prodV V L R f = PV at *
  generalize hLF : likF V L R f = LF at *
  clear hPV hLF h hA hfA hf hw hok hAl
  have HK0 := hid (LK.new w (.slice a V.length ca) (.slice b L.length cb) (.slice c R.length cc))
  go_enter Tryz.func39, Tryz.ntmps39
  go_wp2_with fail
  generalize ((w.alloc (NC (.slice a V.length ca) (.slice b L.length cb) (.slice c R.length cc))).alloc (FC false ⟨#[]⟩ ⟨#[]⟩)) = w1 at *
  refine (rOf_one _).mono ?_
  rintro e w2 ⟨rfl, hb2⟩
  have hB2 : w.heap.size + 1 < w2.heap.size := (HK0.out.step hb2).2.lt
  have HK2 := hid ((HK0.out.step hb2).step ((Below.refl _ w2).alloc (Nat.le_refl _) (FC (sgn 1) (nu 1) (de 1))))
  have HBX := hid (Box.new w2 (sgn 1) (nu 1) (de 1))
  clear hb2 HK0
  go_wp2_with fail
  generalize (w2.alloc (FC (sgn 1) (nu 1) (de 1))) = w3 at *
  generalize w2.heap.size = Bp at *
  go_loopw [6] (fun iv wr => ∃ v : Nat, v ≤ V.length ∧ iv = .int .i64 v ∧ Hid (LK w wr (.slice a V.length ca) (.slice b L.length cb) (.slice c R.length cc)) ∧ Hid (Box wr Bp (sgn (PV v)) (nu (PV v)) (de (PV v)))) (fun iv _ => V.length - (intOf iv).toNat)
  case atStart => exact ⟨0, Nat.zero_le _, rfl, HK2, by rw [HP0.out]; exact HBX⟩
  case round =>
    obtain ⟨v, hv, rfl, HK, HP⟩ := hrel
    clear HK2 HBX
    obtain ⟨c0, c1, c2⟩ := HK.out.1.1.cells
    by_cases hlt : v < V.length
    · go_wp2_with fail
      refine (HRA.out v _ hlt (HI.out.below HK.out.1.2) (HA.out.below HK.out.1.2)).mono ?_
      rintro e w4 ⟨rfl, hb4⟩
      have hls := HLS.out v hlt
      have HPv := hid (HPX.out v)
      have hpz := HPZ.out v hlt
      have hps := HPS.out v hv
      generalize LF v = lf at *
      obtain ⟨fn, fx, fy⟩ := lf
      simp only at hls
      have HPN := hid hpz
      have hbA := (Below.refl _ w4).alloc (Nat.le_refl _) (FC fn fx fy)
      have HK4 := hid ((HK.out.step hb4).step hbA)
      have HP4 := hid ((HP.out.below hb4 HP.out.lt).below hbA (HP.out.below hb4 HP.out.lt).lt)
      have hF4 := Box.new w4 fn fx fy
      obtain ⟨k0, k1, k2, -⟩ := hF4.facts
      clear hb4 hbA HK HP c0 c1 c2 hpz
      go_wp2_with fail
      generalize (w4.alloc (FC fn fx fy)) = w5 at *
      generalize w4.heap.size = Bf at *
      refine (rZero_any fn fx fy w5 (by omega)).mono ?_
      rintro e w6 ⟨rfl, hb6⟩
      have HK6 := hid (HK4.out.step hb6)
      have hP6 := HP4.out.below hb6 HP4.out.lt
      have hF6 := hF4.below hb6 hF4.lt
      clear hb6 HK4 HP4 k0 k1 k2 hF4
      by_cases hz : val fn fx fy = 0
      · rw [decide_eq_true hz]
        have HZ := hid (HPN.out hz)
        clear hz
        go_wp2_with fail
        refine (rOf_zero _).mono ?_
        rintro e w7 ⟨rfl, hb7⟩
        have hK7 := HK6.out.step hb7
        obtain ⟨k0, k1, k2, f0, f1, f2⟩ := hK7.2.facts
        have hfin := hK7.2.put (sgn 0) (nu 0) (de 0)
        have hbf := below_put hK7.1.2 (show w.heap.size ≤ w.heap.size + 1 by omega) (.bool (sgn 0)) (.string (nu 0)) (.string (de 0))
        go_wp2
        refine bodyPost_ret (hfin.result rfl _ rfl) rfl ?_
        exact ⟨by rw [HZ.out]; rfl, hbf⟩
      · rw [decide_eq_false hz]
        clear hz
        obtain ⟨k0, k1, k2, -⟩ := hF6.facts
        obtain ⟨q0, q1, q2, -⟩ := hP6.facts
        go_wp2_with fail
        refine (rMulF_any (sgn (PV v)) fn (nu (PV v)) (de (PV v)) fx fy w6 hps (by omega)).mono ?_
        rintro e w7 ⟨rfl, hb7⟩
        rw [val_own, show val fn fx fy = frQ (fn, fx, fy) from rfl, ← HPv.out]
        have hK7 := HK6.out.step hb7
        have hP7 := hP6.below hb7 hP6.lt
        clear k0 k1 k2 q0 q1 q2 hb7
        obtain ⟨k0, k1, k2, f0, f1, f2⟩ := hP7.facts
        have HPU := hid (hP7.put (sgn (PV (v + 1))) (nu (PV (v + 1))) (de (PV (v + 1))))
        have HKU := hid (hK7.put hB2 (sgn (PV (v + 1))) (nu (PV (v + 1))) (de (PV (v + 1))))
        simp only [C_flds]
        go_wp2
        go_roundw
        case rel => exact ⟨v + 1, by omega, by go_num, HKU, HPU⟩
        case measure => simp [intOf]; omega
    · obtain rfl : v = V.length := by omega
      obtain ⟨k0, k1, k2, f0, f1, f2⟩ := HK.out.2.facts
      obtain ⟨q0, q1, q2, -⟩ := HP.out.facts
      have hfin := HK.out.2.put (sgn (PV V.length)) (nu (PV V.length)) (de (PV V.length))
      have hbf := below_put HK.out.1.2 (show w.heap.size ≤ w.heap.size + 1 by omega) (.bool (sgn (PV V.length))) (.string (nu (PV V.length))) (.string (de (PV V.length)))
      go_wp2
      refine bodyPost_ret (hfin.result rfl _ rfl) rfl ?_
      exact ⟨rfl, hbf⟩
end Go.Proofs.YtncccbdledcibaaGreatDoor

/- Nets: Joint of the document's answer. -/
namespace Go.Proofs.YtncccbdledcibaaGreatDoor
open Go.RowKit Go.Shelf

def allI (n : Nat) : List Int := iL (List.range n)
theorem allI_length (n : Nat) : (allI n).length = n := by simp [allI, iL]
/-- What Joint answers: the error. -/
def jE (V : List Vr) (L : List (List Int)) (R : List (List Fr)) (at_ : List Int) : Int := if netE V L R = 0 then (indexA (iL (sizesN V)) (allI V.length) at_).2 else netE V L R
/-- What Joint answers: the number. -/
def jF (V : List Vr) (L : List (List Int)) (R : List (List Fr)) (at_ : List Int) : Fr := if jE V L R at_ = 0 then qF (prodV V L R (fun u => (toN at_).getD u 0) V.length) else (false, ⟨#[]⟩, ⟨#[]⟩)
theorem index_zero {sizes vars l : List Int} (h : (indexA sizes vars l).2 = 0) : l.length = vars.length ∧ ∀ i, i < vars.length → valB (toN sizes) (toN vars) l i = true := by
  rw [indexA] at h
  by_cases h1 : countB sizes vars = true
  · rw [if_pos h1] at h
    by_cases h2 : l.length = vars.length
    · rw [if_pos h2] at h
      by_cases h3 : (List.range vars.length).all (valB (toN sizes) (toN vars) l) = true
      · exact ⟨h2, fun i hi => List.all_eq_true.1 h3 i (List.mem_range.2 hi)⟩
      · rw [if_neg h3] at h; exact absurd h (by decide)
    · rw [if_neg h2] at h; exact absurd h (by decide)
  · rw [if_neg h1] at h; exact absurd h (by decide)
/-- Values that Index takes are values. -/
theorem at_fit {V : List Vr} {at_ : List Int} (hS : Fine (iL (sizesN V))) (h : (indexA (iL (sizesN V)) (allI V.length) at_).2 = 0) :
    at_.length = V.length ∧ iL (toN at_) = at_ ∧ (∀ u, (toN at_).getD u 0 < sz (sizesN V) u) ∧ ∀ u, u < V.length → (toN at_)[u]? = some ((toN at_).getD u 0) := by
  obtain ⟨h1, h2⟩ := index_zero h
  rw [allI_length] at h1 h2
  have hp := hS.pos
  rw [toN_iL] at hp
  have hv : ∀ i (hi : i < at_.length), 0 ≤ at_[i] ∧ at_[i] < (sz (sizesN V) i : Int) := fun i hi => by
    have := h2 i (by omega)
    rw [valB, decide_eq_true_iff, toN_iL, allI, toN_iL, getD_eq hi, List.getD_eq_getElem?_getD, List.getElem?_range (by omega)] at this
    exact this
  refine ⟨h1, ?_, fun u => ?_, fun u hu => ?_⟩
  · apply List.ext_getElem
    · simp [iL, toN]
    · intro i h3 h4
      have := hv i h4
      simp only [iL, toN, List.getElem_map]
      omega
  · by_cases hu : u < at_.length
    · rw [List.getD_eq_getElem?_getD, List.getElem?_eq_getElem (by rw [toN_length]; exact hu), Option.getD_some, toN_get hu]
      have := hv u hu
      omega
    · rw [List.getD_eq_getElem?_getD, List.getElem?_eq_none (by rw [toN_length]; omega)]
      exact sz_pos hp u
  · rw [List.getD_eq_getElem?_getD, List.getElem?_eq_getElem (by rw [toN_length]; omega)]
    rfl

set_option maxRecDepth 100000 in
set_option maxHeartbeats 2000000 in
theorem rJoint_any (a b c d : Option Addr) (ca cb cc cd : Nat) (V : List Vr) (L : List (List Int)) (R : List (List Fr)) (at_ : List Int) (w : World) (h : NetI w a b c V L R) (hs : NSm V L R) (hw : ∀ l ∈ R, fw l ≤ 4200) (hA : IntS w d at_) (hAl : at_.length ≤ 5000) :
    Calls Tryz.prog 9 #[.agg #[.slice a V.length ca, .slice b L.length cb, .slice c R.length cc], .slice d at_.length cd] w fun e w' => e = .returned (.tuple #[frV (jF V L R at_), .int .i64 (jE V L R at_)]) ∧ Below w.heap.size w w' := by
  have HI := hid h
  have HA := hid hA
  have hV5 := hs.vars.1
  have HNC := hid (fun (U : World) (hU : NetI U a b c V L R) => rNetCheck_any a b c ca cb cc V L R U hU hs)
  have HE1 : Hid (netE V L R ≠ 0 → jE V L R at_ = netE V L R ∧ jF V L R at_ = (false, ⟨#[]⟩, ⟨#[]⟩)) := fun h => by
    have e : jE V L R at_ = netE V L R := if_neg h
    exact ⟨e, by rw [jF, e, if_neg h]⟩
  have HE2 : Hid (netE V L R = 0 → (indexA (iL (sizesN V)) (allI V.length) at_).2 ≠ 0 → jE V L R at_ = (indexA (iL (sizesN V)) (allI V.length) at_).2 ∧ jF V L R at_ = (false, ⟨#[]⟩, ⟨#[]⟩)) := fun h h' => by
    have e : jE V L R at_ = (indexA (iL (sizesN V)) (allI V.length) at_).2 := if_pos h
    exact ⟨e, by rw [jF, e, if_neg h']⟩
  have HE3 : Hid (netE V L R = 0 → (indexA (iL (sizesN V)) (allI V.length) at_).2 = 0 → jE V L R at_ = 0 ∧ jF V L R at_ = qF (prodV V L R (fun u => (toN at_).getD u 0) V.length)) := fun h h' => by
    have e : jE V L R at_ = 0 := (if_pos h).trans h'
    exact ⟨e, by rw [jF, if_pos e]⟩
  have HOK : Hid (netE V L R = 0 → NOK V L R) := netE_ok
  have HJ : Hid (netE V L R = 0 → (indexA (iL (sizesN V)) (allI V.length) at_).2 = 0 → ∀ U : World, NetI U a b c V L R → IntS U d at_ → Calls Tryz.prog 39 #[.agg #[.slice a V.length ca, .slice b L.length cb, .slice c R.length cc], .slice d at_.length cd] U fun e w' => e = .returned (frV (qF (prodV V L R (fun u => (toN at_).getD u 0) V.length))) ∧ Below U.heap.size U w') := fun h1 h2 U h3 h4 => by
    have hok := netE_ok h1
    obtain ⟨e1, e2, e3, e4⟩ := at_fit hok.fine h2
    have := rJoint1_any a b c d ca cb cc cd V L R (toN at_) U h3 hok hw (by rw [e2]; exact h4) (by rw [toN_length]; exact e1) _ e3 e4
    rwa [toN_length] at this
  have hsl : (iL (sizesN V)).length = V.length := by rw [iL_length, sizesN_length]
  have hal := allI_length V.length
  have HIX : Hid (∀ (U : World) (x y : Option Addr) (cx cy : Nat), IntS U x (iL (sizesN V)) → IntS U y (allI V.length) → IntS U d at_ → Calls Tryz.prog 38 #[.slice x V.length cx, .slice y V.length cy, .slice d at_.length cd] U fun e w' => e = .returned (.tuple #[.int .i64 (indexA (iL (sizesN V)) (allI V.length) at_).1, .int .i64 (indexA (iL (sizesN V)) (allI V.length) at_).2]) ∧ Below U.heap.size U w') := fun U x y cx cy h1 h2 h3 => by
    have := rIndex_any x y d cx cy cd (iL (sizesN V)) (allI V.length) at_ U h1 h2 h3 (by omega) (by omega) (by omega)
    rwa [hsl, hal] at this
  have HSL := hid hsl
  have HAL := hid hal
  generalize jE V L R at_ = je at *
  generalize jF V L R at_ = jf at *
  generalize netE V L R = ne at *
  clear h hA hs hw hsl hal hAl
  have HK0 := hid (LK.new w (.slice a V.length ca) (.slice b L.length cb) (.slice c R.length cc))
  obtain ⟨c0, c1, c2⟩ := HK0.out.1.1.cells
  go_enter Tryz.func9, Tryz.ntmps9
  go_wp2_with fail
  generalize ((w.alloc (NC (.slice a V.length ca) (.slice b L.length cb) (.slice c R.length cc))).alloc (FC false ⟨#[]⟩ ⟨#[]⟩)) = w1 at *
  refine (HNC.out _ (HI.out.below HK0.out.1.2)).mono ?_
  rintro e w2 ⟨rfl, hb⟩
  have hK := HK0.out.step hb
  clear hb HK0 c0 c1 c2 HNC
  obtain ⟨c0, c1, c2⟩ := hK.1.1.cells
  by_cases hn0 : ne = 0
  · subst hn0
    have HE2' := hid (HE2.out rfl)
    have HE3' := hid (HE3.out rfl)
    have HJ' := hid (HJ.out rfl)
    have HK := hid hK
    have hn8 := (HOK.out rfl).n8
    clear HE1 HE2 HE3 HJ hK HOK
    go_wp2_with fail
    refine (rSizes_any a b c ca cb cc L.length R.length V _ (HI.out.below HK.out.1.2).vars hV5).mono ?_
    rintro e w3 ⟨xv, rfl, hrw, hb⟩
    obtain ⟨x, cx, rfl, hx⟩ := hrw.ints
    rw [HSL.out]
    have HK3 := hid (HK.out.step hb)
    clear hb hrw c0 c1 c2 HK
    go_wp2_with fail
    refine (rAll_any x cx V.length _ (by omega)).mono ?_
    rintro e w4 ⟨xv, rfl, hrw, hb⟩
    obtain ⟨y, cy, rfl, hy⟩ := hrw.ints
    have hy' : IntS w4 y (allI V.length) := hy
    rw [show (iL (List.range V.length)).length = V.length from HAL.out]
    have HK4 := hid (HK3.out.step hb)
    have HX4 := hid (hx.below hb)
    have HY4 := hid hy'
    clear hb hrw hx hy hy' HK3
    go_wp2_with fail
    refine (HIX.out _ x y cx cy HX4.out HY4.out (HA.out.below HK4.out.1.2)).mono ?_
    rintro e w5 ⟨rfl, hb⟩
    have hK5 := HK4.out.step hb
    clear hb HK4 HX4 HY4 HIX
    obtain ⟨c0, c1, c2⟩ := hK5.1.1.cells
    generalize (indexA (iL (sizesN V)) (allI V.length) at_).1 = i1 at *
    generalize (indexA (iL (sizesN V)) (allI V.length) at_).2 = i2 at *
    by_cases hi0 : i2 = 0
    · subst hi0
      obtain ⟨q1, q2⟩ := HE3'.out rfl
      have HQ1 := hid q1
      have HQ2 := hid q2
      have HJ2 := hid (HJ'.out rfl)
      have HK5 := hid hK5
      clear q1 q2 HE2' HE3' HJ' hK5
      generalize qF (prodV V L R (fun u => (toN at_).getD u 0) V.length) = jq at *
      obtain ⟨jn, jx, jy⟩ := jq
      go_wp2_with fail
      refine (HJ2.out _ (HI.out.below HK5.out.1.2) (HA.out.below HK5.out.1.2)).mono ?_
      rintro e w6 ⟨rfl, hb⟩
      have hK6 := HK5.out.step hb
      obtain ⟨k0, k1, k2, f0, f1, f2⟩ := hK6.2.facts
      have hfin := hK6.2.put jn jx jy
      have hbf := below_put hK6.1.2 (show w.heap.size ≤ w.heap.size + 1 by omega) (.bool jn) (.string jx) (.string jy)
      clear hb c0 c1 c2
      go_wp2
      refine bodyPost_ret (hfin.result2 rfl _ rfl) rfl ?_
      exact ⟨by rw [HQ1.out, HQ2.out]; rfl, hbf⟩
    · obtain ⟨q1, q2⟩ := HE2'.out hi0
      have HQ1 := hid q1
      have HQ2 := hid q2
      have hib : (i2 == 0) = false := by simpa using hi0
      obtain ⟨k0, k1, k2, f0, f1, f2⟩ := hK5.2.facts
      have hfin := hK5.2.put false ⟨#[]⟩ ⟨#[]⟩
      have hbf := below_put hK5.1.2 (show w.heap.size ≤ w.heap.size + 1 by omega) (.bool false) (.string ⟨#[]⟩) (.string ⟨#[]⟩)
      clear q1 q2 hi0 c0 c1 c2
      go_wp2
      refine bodyPost_ret (hfin.result2 rfl _ rfl) rfl ?_
      exact ⟨by rw [HQ1.out, HQ2.out]; rfl, hbf⟩
  · obtain ⟨q1, q2⟩ := HE1.out hn0
    have HQ1 := hid q1
    have HQ2 := hid q2
    have hnb : (ne == 0) = false := by simpa using hn0
    obtain ⟨k0, k1, k2, f0, f1, f2⟩ := hK.2.facts
    have hfin := hK.2.put false ⟨#[]⟩ ⟨#[]⟩
    have hbf := below_put hK.1.2 (show w.heap.size ≤ w.heap.size + 1 by omega) (.bool false) (.string ⟨#[]⟩) (.string ⟨#[]⟩)
    clear q1 q2 hn0 c0 c1 c2
    go_wp2
    refine bodyPost_ret (hfin.result2 rfl _ rfl) rfl ?_
    exact ⟨by rw [HQ1.out, HQ2.out]; rfl, hbf⟩
end Go.Proofs.YtncccbdledcibaaGreatDoor

/- Nets: Given of the document's answer. -/
namespace Go.Proofs.YtncccbdledcibaaGreatDoor
open Go.RowKit Go.Shelf

/-- A variable and what it hangs on. -/
def gU (L : List (List Int)) (v : Nat) : List Int := togL (L.getD v []) [(v : Int)]
/-- Given's cells. -/
def gL (V : List Vr) (L : List (List Int)) (R : List (List Fr)) (v : Nat) : List Fr := (List.range (cnt (sizesN V) (toN (gU L v)))).map fun K => qF (frQ (likF V L R (asg (sizesN V) (toN (gU L v)) K) v))
theorem up_one {v n : Nat} (h : v < n) : Up [(v : Int)] n := up_iff.2 ⟨fun x hx => by have := List.mem_singleton.1 hx; omega, List.pairwise_singleton _ _⟩
theorem inB_one (i v : Nat) : inB (i : Int) [(v : Int)] = ((i : Int) == (v : Int)) := by
  rw [Bool.eq_iff_iff, inB_mem, beq_iff_eq]
  simp
/-- What a call holds: the net's box, and its result's table. -/
def GK (w V : World) (x y z : Value) : Prop := NK w V x y z ∧ TBox V (w.heap.size + 1) (.slice none 0 0) (.slice none 0 0)
theorem GK.new (w : World) (x y z : Value) : GK w ((w.alloc (NC x y z)).alloc (TC (.slice none 0 0) (.slice none 0 0))) x y z := ⟨(NK.new w x y z).step ((Below.refl _ _).alloc (Nat.le_refl _) _), TBox.at (by simp) _ _⟩
theorem GK.step {w V V' : World} {x y z : Value} (h : GK w V x y z) (hb : Below V.heap.size V V') : GK w V' x y z := ⟨h.1.step hb, h.2.below hb h.2.lt⟩

set_option maxRecDepth 100000 in
set_option maxHeartbeats 2000000 in
theorem rGiven_yes (a b c : Option Addr) (ca cb cc v : Nat) (V : List Vr) (L : List (List Int)) (R : List (List Fr)) (w : World) (h : NetI w a b c V L R) (hs : NSm V L R) (hw : ∀ l ∈ R, fw l ≤ 4200) (h0 : netE V L R = 0) (hv : v < V.length) :
    Calls Tryz.prog 7 #[.agg #[.slice a V.length ca, .slice b L.length cb, .slice c R.length cc], .int .i64 (v : Nat)] w fun e w' => TabA (gU L v) (gL V L R v) 0 e w' ∧ Below w.heap.size w w' := by
  have hok := netE_ok h0
  have hV5 := hs.vars.1
  have hn8 := hok.n8
  have hvL : v < L.length := by rw [hok.len]; exact hv
  have hvR : v < R.length := by rw [hok.lenR]; exact hv
  have eLv : L.getD v [] = L[v] := by rw [List.getD_eq_getElem?_getD, List.getElem?_eq_getElem hvL]; rfl
  have hua := hok.up v hvL
  have hub := up_one hv
  have HNC := hid (fun (U : World) (hU : NetI U a b c V L R) => rNetCheck_any a b c ca cb cc V L R U hU hs)
  rw [h0] at HNC
  have hUe : gU L v = togL L[v] [(v : Int)] := by rw [gU, eLv]
  have HUU : Hid (Up (gU L v) V.length) := by rw [hUe]; exact togL_up hua hub
  have HU : Hid (bothI L[v] [(v : Int)] V.length = gU L v) := by rw [hUe]; exact (togL_both hua hub).symm
  have hfi := hok.fine
  have hs4 : ∀ u, sz (sizesN V) u ≤ 4 := fun u => by have := hfi.sz_le u; rwa [toN_iL] at this
  have hps : Pos (sizesN V) := by have := hfi.pos; rwa [toN_iL] at this
  have hsm : cnt (sizesN V) (toN (gU L v)) ≤ 65536 := cnt_small hs4 (by rw [toN_length]; have := HUU.out.length; omega)
  have HFL : Hid ((gL V L R v).length = cnt (sizesN V) (toN (gU L v))) := by show _ = _; simp [gL]
  have HFG : Hid (∀ k (h : k < (gL V L R v).length), (gL V L R v)[k] = qF (frQ (likF V L R (asg (sizesN V) (toN (gU L v)) k) v))) := fun k h => by simp [gL]
  have HLS : Hid (∀ K, K < cnt (sizesN V) (toN (gU L v)) → (likF V L R (asg (sizesN V) (toN (gU L v)) K) v).2.1.size + (likF V L R (asg (sizesN V) (toN (gU L v)) K) v).2.2.size ≤ 4200) := fun K hK => likF_size hok (fun u => asg_lt hps _ K u hK) hw hv
  have HRA : Hid (∀ (K : Nat) (U : World) (G : Nat), K < cnt (sizesN V) (toN (gU L v)) → NetI U a b c V L R → RowI U G (spr V.length (asg (sizesN V) (toN (gU L v)) K)) → Calls Tryz.prog 32 #[.agg #[.slice a V.length ca, .slice b L.length cb, .slice c R.length cc], .int .i64 (v : Nat), .slice (some ⟨G, 0, none⟩) V.length V.length] U fun e w' => e = .returned (frV (likF V L R (asg (sizesN V) (toN (gU L v)) K) v)) ∧ Below U.heap.size U w') := fun K U G hK h1 h2 => by
    rw [likF_eq hvL hvR]
    have := rRowAt_any a b c (some ⟨G, 0, none⟩) ca cb cc V.length v V L R (spr V.length (asg (sizesN V) (toN (gU L v)) K)) U h1 h2.ints (spr_length _ _) hn8 hv hvL hvR hfi hua (hok.rows v hvL hvR) (asg (sizesN V) (toN (gU L v)) K) (fun u => asg_lt hps _ K u hK) (fun u hu => spr_get? hu)
    rwa [spr_length] at this
  have hsl : (iL (sizesN V)).length = V.length := by rw [iL_length, sizesN_length]
  have HCT : Hid (∀ (U : World) (d6 d : Option Addr) (cd6 cd : Nat), IntS U d6 (iL (sizesN V)) → IntS U d (gU L v) → Calls Tryz.prog 18 #[.slice d6 V.length cd6, .slice d (gU L v).length cd] U fun e w' => e = .returned (.tuple #[.int .i64 (cnt (sizesN V) (toN (gU L v)) : Nat), .int .i64 0]) ∧ Below U.heap.size U w') := fun U d6 d cd6 cd h1 h2 => by
    have := rCount_in d6 d cd6 cd (iL (sizesN V)) (gU L v) U h1 h2 hfi (by rw [hsl]; exact HUU.out)
    rwa [hsl, toN_iL] at this
  have HWH : Hid (∀ (U : World) (d6 d : Option Addr) (cd6 cd K : Nat), K < cnt (sizesN V) (toN (gU L v)) → IntS U d6 (iL (sizesN V)) → IntS U d (gU L v) → Calls Tryz.prog 21 #[.slice d6 V.length cd6, .slice d (gU L v).length cd, .int .i64 (K : Nat)] U fun e w' => ∃ (c : Option Addr) (cc : Nat), e = .returned (.tuple #[.slice c (gU L v).length cc, .int .i64 0]) ∧ IntS w' c (iL (digs (sizesN V) (toN (gU L v)) K)) ∧ Below U.heap.size U w') := fun U d6 d cd6 cd K hK h1 h2 => by
    have := rWhere_in d6 d cd6 cd K (iL (sizesN V)) (gU L v) U h1 h2 hfi (by rw [hsl]; exact HUU.out) (by rw [toN_iL]; exact hK)
    rwa [hsl, toN_iL] at this
  have HSP : Hid (∀ (U : World) (d6 d d5 : Option Addr) (cd6 cd cd5 K : Nat), IntS U d (gU L v) → IntS U d5 (iL (digs (sizesN V) (toN (gU L v)) K)) → Calls Tryz.prog 31 #[.slice d6 V.length cd6, .slice d (gU L v).length cd, .slice d5 (gU L v).length cd5] U fun e w' => ∃ G, e = .returned (.slice (some ⟨G, 0, none⟩) V.length V.length) ∧ U.heap.size ≤ G ∧ RowI w' G (spr V.length (asg (sizesN V) (toN (gU L v)) K)) ∧ Below U.heap.size U w') := fun U d6 d d5 cd6 cd cd5 K h1 h2 => by
    have := rSpread_any d6 d d5 cd6 cd cd5 K (iL (sizesN V)) (gU L v) U h1 (by rw [toN_iL]; exact h2) hfi (by rw [hsl]; exact HUU.out)
    rwa [hsl, toN_iL] at this
  have HIP := hid (h.pars v hvL)
  have hll := hs.pars.2 L[v] (List.getElem_mem hvL)
  have HINA := hid (fun (k : Int) (bl : Option Addr) (cl : Nat) (U : World) (hU : IntS U bl (L[v]'hvL)) => rIn_any k bl cl (L[v]'hvL) U hU (by omega))
  have HSUC := hid (bothI_succ L[v] [(v : Int)])
  have HLEN := hid (bothI_len L[v] [(v : Int)])
  have h0e : bothI L[v] [(v : Int)] 0 = [] := rfl
  have HIB := hid (fun i : Nat => inB_one i v)
  have HI := hid h
  have HSL := hid hsl
  generalize gL V L R v = FL at *
  generalize gU L v = U at *
  generalize bothI L[v] [(v : Int)] = BI at *
  obtain ⟨gp, op_, bl, cl, rfl, hgp, p1, hpi⟩ := HIP.out
  have HP1 := hid p1
  have HPI := hid hpi
  generalize hplv : L[v] = pl at *
  clear h hs hw h0 hok hua hub hUe hfi hs4 hps hsl HIP p1 hpi hplv eLv
  have HK0 := hid (GK.new w (.slice a V.length ca) (.slice (some ⟨gp, op_, none⟩) L.length cb) (.slice c R.length cc))
  obtain ⟨c0, c1, c2⟩ := HK0.out.1.1.cells
  go_enter Tryz.func7, Tryz.ntmps7
  go_wp2_with fail
  generalize ((w.alloc (NC (.slice a V.length ca) (.slice (some ⟨gp, op_, none⟩) L.length cb) (.slice c R.length cc))).alloc (TC (.slice none 0 0) (.slice none 0 0))) = w1 at *
  refine (HNC.out _ (HI.out.below HK0.out.1.2)).mono ?_
  rintro e w2 ⟨rfl, hb⟩
  have hK := HK0.out.step hb
  clear hb HK0 c0 c1 c2 HNC
  obtain ⟨c0, c1, c2⟩ := hK.1.1.cells
  have hv0 : (0 : Int) ≤ (v : Int) := by omega
  have hv1 : (v : Int) < (V.length : Int) := by omega
  have HK := hid hK
  clear hK
  go_wp2_with fail
  refine (rSizes_any a (some ⟨gp, op_, none⟩) c ca cb cc L.length R.length V _ (HI.out.below HK.out.1.2).vars hV5).mono ?_
  rintro e w2 ⟨xv, rfl, hrw, hb⟩
  obtain ⟨d6, cd6, rfl, hi6⟩ := hrw.ints
  rw [HSL.out]
  have hH := HK.out.step hb
  have HS6 := hid hi6
  clear hb hrw c0 c1 c2 HK hi6
  have hV0 : VX w2 (w2.alloc (TC (.slice none 0 0) (.slice none 0 0))) (.slice none 0 0) [] := ⟨(Below.refl _ w2).alloc (Nat.le_refl _) _, TBox.at rfl _ _, ⟨rfl, .inl ⟨rfl, rfl⟩⟩⟩
  go_wp2_with fail
  generalize (w2.alloc (TC (.slice none 0 0) (.slice none 0 0))) = w3 at *
  have HV0 := hid hV0
  have HH := hid hH
  clear hV0 hH
  go_loopw [9] (fun iv wr => ∃ (i : Nat) (x : Value), i ≤ V.length ∧ iv = .int .i64 i ∧ Hid (VX w2 wr x (BI i))) (fun iv _ => V.length - (intOf iv).toNat)
  case atStart => exact ⟨0, _, Nat.zero_le _, rfl, by rw [h0e]; exact HV0⟩
  case round =>
    obtain ⟨i, x, hi, rfl, HX⟩ := hrel
    clear HV0
    have hHw := HH.out.step HX.out.1
    by_cases hlt : i < V.length
    · obtain ⟨c0, c1, c2⟩ := hHw.1.1.cells
      have p1 := (hHw.1.2.cell (p := ⟨gp, op_ + v, none⟩) hgp).trans HP1.out
      go_wp2_with fail
      refine (HINA.out (i : Int) bl cl _ (HPI.out.below hHw.1.2)).mono ?_
      rintro e u1 ⟨rfl, hu1⟩
      replace hu1 := hu1.symm
      subst hu1
      have hsu := HSUC.out i
      have hle := HLEN.out i
      have hib := HIB.out i
      generalize inB (i : Int) pl = pa at *
      generalize inB (i : Int) [(v : Int)] = pb at *
      replace hib := hib.symm
      by_cases hp : (pa || pb) = true
      · rw [if_pos hp] at hsu
        have HSU := hid hsu
        clear hsu
        obtain ⟨d0, n0, e0, rfl⟩ := HX.out.2.2.slv
        have cx := HX.out.2.1.c0
        have hbA : Below wr.heap.size wr (wr.alloc (.cells #[.int .i64 (i : Int)] 3)) := (Below.refl _ wr).alloc (Nat.le_refl _) _
        have HXA := hid (HX.out.step hbA)
        have HIA := hid (one_int wr (i : Int))
        have hbs : w2.heap.size + 1 ≤ (wr.alloc (.cells #[.int .i64 (i : Int)] 3)).heap.size := HXA.out.2.1.lt
        cases pa
        case true =>
          clear hbA hHw hp c0 c1 c2 p1
          go_wp2_with (at_builtin; refine wpList_append_ints rfl _ _ rfl (w2.heap.size + 1) _ (BI i) [(i : Int)] rfl HXA.out.2.2 (some ⟨wr.heap.size, 0, none⟩) 1 rfl HIA.out (fun e => by cases e) (by simp; omega) hbs ?_; intro v' u3 hr3 hg3; obtain ⟨d3, n3, cd3, rfl⟩ := hr3.slv; have hmid := HXA.out.mid hg3; have hm0 := hmid.c0; have hmf : u3.frozen? ⟨w2.heap.size, 0, none⟩ = false := frozen_of_row _ _ 0 _ _ hmid; have HPU := hid (HXA.out.push hr3 hg3); clear hmid hr3 hg3)
          go_roundw
          case rel => exact ⟨i + 1, _, by omega, by go_num, by rw [HSU.out]; exact HPU⟩
          case measure => simp [intOf]; omega
        case false =>
          have hpb : pb = true := by simpa using hp
          subst hpb
          clear hbA hHw hp c0 c1 c2 p1
          go_wp2_with (at_builtin; refine wpList_append_ints rfl _ _ rfl (w2.heap.size + 1) _ (BI i) [(i : Int)] rfl HXA.out.2.2 (some ⟨wr.heap.size, 0, none⟩) 1 rfl HIA.out (fun e => by cases e) (by simp; omega) hbs ?_; intro v' u3 hr3 hg3; obtain ⟨d3, n3, cd3, rfl⟩ := hr3.slv; have hmid := HXA.out.mid hg3; have hm0 := hmid.c0; have hmf : u3.frozen? ⟨w2.heap.size, 0, none⟩ = false := frozen_of_row _ _ 0 _ _ hmid; have HPU := hid (HXA.out.push hr3 hg3); clear hmid hr3 hg3)
          go_roundw
          case rel => exact ⟨i + 1, _, by omega, by go_num, by rw [HSU.out]; exact HPU⟩
          case measure => simp [intOf]; omega
      · rw [if_neg hp, List.append_nil] at hsu
        have HSU := hid hsu
        clear hsu
        have hpa : pa = false := by cases pa; rfl; exact absurd rfl hp
        have hpb : pb = false := by cases pb; rfl; rw [hpa] at hp; exact absurd rfl hp
        subst hpa hpb
        clear hp
        go_wp2
        go_roundw
        case rel => exact ⟨i + 1, _, by omega, by go_num, by rw [HSU.out]; exact HX⟩
        case measure => simp [intOf]; omega
    · obtain rfl : i = V.length := by omega
      clear hHw
      have hV := HX.out
      rw [HU.out] at hV
      obtain ⟨d, cd, rfl, -⟩ := hV.2.2.ints
      have HRU := hid hV.2.2
      have HP0 : Hid (PX w2 wr wr (.slice d U.length cd) (.slice none 0 0) []) := ⟨hV.1, hV.2.1, RwF.empty _ _, fun _ _ _ => rfl, Nat.le_refl _⟩
      have c0 := hV.2.1.c0
      have HS7 := hid (HS6.out.below hV.1)
      have h21 : w2.heap.size < wr.heap.size := hV.2.1.lt
      have hUl := HUU.out.length
      clear HX hV
      go_wp2_with fail
      generalize wr = w4 at *
      refine (HCT.out _ d6 d cd6 cd HS7.out HRU.out.intS).mono ?_
      rintro e w5 ⟨rfl, hb5⟩
      have HP1' := hid (HP0.out.step hb5)
      clear c0 hb5 HP0
      go_wp2_with fail
      go_loopw [13] (fun iv wr => ∃ (i : Nat) (y : Value), i ≤ FL.length ∧ iv = .int .i64 i ∧ Hid (PX w2 w4 wr (.slice d U.length cd) y (FL.take i))) (fun iv _ => FL.length - (intOf iv).toNat)
      case atStart => exact ⟨0, _, Nat.zero_le _, rfl, HP1'⟩
      case round =>
        obtain ⟨i, y, hile, rfl, HX⟩ := hrel
        clear HP1'
        by_cases hlt2 : i < FL.length
        · have hiK : i < cnt (sizesN V) (toN U) := by rw [← HFL.out]; exact hlt2
          have hii : (i : Int) < (cnt (sizesN V) (toN U) : Int) := by omega
          have c0 := HX.out.2.1.c0
          have hIU := (HX.out.vars HRU.out).intS
          go_wp2_with fail
          refine (HWH.out _ d6 d cd6 cd i hiK (HS6.out.below HX.out.1) hIU).mono ?_
          rintro e u1 ⟨d5, cd5, rfl, hi5, hb5⟩
          have c0' := (HX.out.step hb5).2.1.c0
          clear c0
          go_wp2_with fail
          refine (HSP.out _ d6 d d5 cd6 cd cd5 i (hIU.below hb5) hi5).mono ?_
          rintro e u2 ⟨G, rfl, hG, hrow, hb6⟩
          have hb06 := hb5.trans (hb6.mono hb5.size)
          have hHx := HH.out.step (HX.out.step hb06).1
          obtain ⟨t0, t1, t2⟩ := hHx.1.1.cells
          have HRW := hid hrow
          clear c0' hb5 hb6 hi5 hG hrow
          go_wp2_with fail
          refine (HRA.out i _ G hiK (HI.out.below hHx.1.2) HRW.out).mono ?_
          rintro e u3 ⟨rfl, hb7⟩
          replace hb06 := hb06.trans (hb7.mono hb06.size)
          clear t0 t1 t2 hb7 hHx HRW
          have hfg := HFG.out i hlt2
          have hcs := HLS.out i hiK
          generalize likF V L R (asg (sizesN V) (toN U) i) v = fr at *
          obtain ⟨fn, fx, fy⟩ := fr
          replace hcs : fx.size + fy.size ≤ 4200 := hcs
          have hbb := Box.new u3 fn fx fy
          have hb9 := hb06.alloc hb06.size (FC fn fx fy)
          have hls := hb06.size
          obtain ⟨k0, k1, k2, -⟩ := hbb.facts
          go_wp2_with fail
          generalize (u3.alloc (FC fn fx fy)) = u4 at *
          generalize u3.heap.size = B17 at *
          refine (Canon_r (n := fn) (x := fx) (y := fy) (w := u4) (by omega)).mono ?_
          rintro e u5 ⟨rfl, hb10⟩
          replace hbb := hbb.below hb10 hbb.lt
          replace hb9 := hb9.trans (hb10.mono hb9.size)
          clear k0 k1 k2 hb10
          obtain ⟨k0, k1, k2, f0, f1, f2⟩ := hbb.facts
          have hq : FL[i] = qF (val fn fx fy) := hfg
          generalize qF (val fn fx fy) = q at *
          obtain ⟨qn, qx, qy⟩ := q
          have hpt := hbb.put qn qx qy
          have hb11 := below_put hb9 hls (.bool qn) (.string qx) (.string qy)
          clear hbb hb06 hb9
          have hst : FL.take i ++ [(qn, qx, qy)] = FL.take (i + 1) := by rw [List.take_succ_eq_append_getElem hlt2, hq]
          have HST := hid hst
          have htl : (FL.take i).length ≤ 65536 := by rw [List.length_take]; omega
          clear hst hq hfg
          go_upto_region 22 with fail
          clear k0 k1 k2 f0 f1 f2
          generalize (((u5.setCell ⟨B17, 0, none⟩ (.bool qn)).setCell ⟨B17, 1, none⟩ (.string qx)).setCell ⟨B17, 2, none⟩ (.string qy)) = u8 at *
          have cy := (HX.out.step hb11).2.1.c1
          obtain ⟨p0, p1, p2, -⟩ := hpt.facts
          have hb13 := hb11.alloc hb11.size (FC qn qx qy)
          have HNB := hid (Box.new u8 qn qx qy)
          have HX12 := hid (HX.out.step hb13)
          have hbs : w4.heap.size ≤ (u8.alloc (FC qn qx qy)).heap.size := HX12.out.2.2.2.2
          clear hb11 hb13 hpt
          go_wp2_with (at_builtin; refine wpList_append_fr rfl _ _ rfl w4.heap.size _ (FL.take i) (qn, qx, qy) rfl HX12.out.2.2.1 _ rfl HNB.out (by omega) hbs ?_; intro v' w13 hr13 hg13; obtain ⟨d13, n13, cd13, rfl⟩ := hr13.slv; have hmid := HX12.out.mid h21 hg13; have hm1 := hmid.c1; have hmf : w13.frozen? ⟨w2.heap.size, 1, none⟩ = false := frozen_of_row _ _ 1 _ _ hmid; have HPU := hid (HX12.out.push h21 hr13 hg13); clear hmid hr13 hg13)
          go_roundw
          case rel => exact ⟨i + 1, _, by omega, by go_num, by rw [← HST.out]; exact HPU⟩
          case measure => simp [intOf]; omega
        · obtain rfl : i = FL.length := by omega
          have hX := HX.out
          rw [List.take_length] at hX
          obtain ⟨dy, ny, cy, rfl⟩ := hX.2.2.1.slv
          have hR := HH.out.step hX.1
          have hIU := (hX.vars HRU.out).intS
          obtain ⟨k0, k1, f0, f1⟩ := hR.2.facts
          have c0 := hX.2.1.c0
          have c1 := hX.2.1.c1
          have hlf : (FL.length : Int) = (cnt (sizesN V) (toN U) : Int) := by rw [HFL.out]
          have hRw := HH.out.2.lt
          obtain ⟨df, cdf, ef, hff⟩ := ((hX.2.2.1.off (w.heap.size + 1) 0 (.slice d U.length cd) (by omega)).off (w.heap.size + 1) 1 (.slice dy ny cy) (by omega)).fr
          cases ef
          go_wp2
          refine bodyPost_ret ((hR.2.put _ _).result2 rfl _ rfl) rfl ?_
          exact ⟨⟨d, dy, cd, cy, rfl, hIU.putT hR.2 (Go.Proofs.YtncccbdledcibaaGreatDoor.slv _ _ _) (Go.Proofs.YtncccbdledcibaaGreatDoor.slv _ _ _) (Go.Proofs.YtncccbdledcibaaGreatDoor.slv _ _ _) _, hff⟩, below_put2 hR.1.2 (by omega) _ _⟩
end Go.Proofs.YtncccbdledcibaaGreatDoor

/- Nets: what Given of package net stands on. -/
namespace Go.Proofs.YtncccbdledcibaaGreatDoor
open Go.RowKit Go.Shelf

theorem cnt_perm {S : List Nat} {a b : List Nat} (h : a.Perm b) : cnt S a = cnt S b := by
  induction h with
  | nil => rfl
  | cons x _ ih => simp only [cnt, ih]
  | swap x y l => simp only [cnt]; rw [Nat.mul_left_comm]
  | trans _ _ h1 h2 => exact h1.trans h2
theorem noSelf_of {L : List (List Int)} {V : List Vr} {R : List (List Fr)} (h : netE V L R = 0) {v : Nat} (hv : v < L.length) : ¬ v ∈ toN L[v] := by
  rw [netE] at h
  by_cases h1 : L.length = V.length ∧ R.length = V.length
  · rw [if_pos h1] at h
    by_cases h2 : gcE L = 0
    · rw [gcE] at h2
      by_cases h3 : gB L = true
      · rw [gB, Bool.and_eq_true, Bool.and_eq_true, noSelf, List.all_eq_true] at h3
        have := h3.2 v (List.mem_range.2 hv)
        rw [List.getD_eq_getElem?_getD, List.getElem?_eq_getElem hv] at this
        simpa using this
      · rw [if_neg h3] at h2; cases h2
    · rw [if_neg h2] at h; exact absurd h h2
  · rw [if_neg h1] at h; cases h
/-- The variable and what it hangs on, put in order. -/
theorem sort_gU {L : List (List Int)} {v n : Nat} (hvL : v < L.length) (hup : Up L[v] n) (hno : ¬ v ∈ toN L[v]) : (([(v : Int)] ++ L[v]).mergeSort fun x y => decide (x ≤ y)) = gU L v := by
  have eLv : L.getD v [] = L[v] := by rw [List.getD_eq_getElem?_getD, List.getElem?_eq_getElem hvL]; rfl
  obtain ⟨h1, h2⟩ := togL_rise L[v] [(v : Int)]
  rw [gU, eLv]
  have hnv : ¬ (v : Int) ∈ L[v] := fun h => hno (by rw [toN]; exact List.mem_map.2 ⟨_, h, Int.toNat_natCast v⟩)
  have hp : (([(v : Int)] ++ L[v]).mergeSort fun x y => decide (x ≤ y)).Pairwise (fun x y => decide (x ≤ y) = true) := List.pairwise_mergeSort (fun a b c h1 h2 => by simp at h1 h2 ⊢; omega) (fun a b => by simp; omega) _
  have hn0 : ([(v : Int)] ++ L[v]).Nodup := by
    rw [List.singleton_append, List.nodup_cons]
    exact ⟨hnv, (up_iff.1 hup).2.imp fun h => by omega⟩
  have hn : (([(v : Int)] ++ L[v]).mergeSort fun x y => decide (x ≤ y)).Nodup := (List.mergeSort_perm _ _).nodup_iff.2 hn0
  refine rise_extI ?_ h1 fun x => ?_
  · rw [List.pairwise_iff_getElem]
    intro i j hi hj hij
    have q1 := List.pairwise_iff_getElem.1 hp i j hi hj hij
    have q2 := List.pairwise_iff_getElem.1 hn i j hi hj hij
    have q1' := of_decide_eq_true q1
    omega
  · rw [List.mem_mergeSort, h2, List.mem_append]
    exact Or.comm
theorem cnt_gU {L : List (List Int)} {v n : Nat} (S : List Nat) (hvL : v < L.length) (hup : Up L[v] n) (hno : ¬ v ∈ toN L[v]) : cnt S (toN (gU L v)) = cnt S (toN L[v]) * sz S v := by
  rw [← sort_gU hvL hup hno]
  have h : (([(v : Int)] ++ L[v]).mergeSort fun x y => decide (x ≤ y)).Perm ([(v : Int)] ++ L[v]) := List.mergeSort_perm _ _
  have h2 := cnt_perm (S := S) (h.map Int.toNat)
  rw [toN, h2, List.map_append, List.map_cons, List.map_nil, List.singleton_append, cnt, Int.toNat_natCast, Nat.mul_comm]
  rfl
/-- Values are written over others, one by one. -/
def mixF (A f : Nat → Nat) (vs : List Nat) (i : Nat) : Nat → Nat := fun u => if u ∈ vs.take i then f u else A u
theorem mixF_zero (A f : Nat → Nat) (vs : List Nat) : mixF A f vs 0 = A := by funext u; simp [mixF]
theorem mixF_succ (A f : Nat → Nat) {vs : List Nat} (n : Nat) {i : Nat} (h : i < vs.length) : (spr n (mixF A f vs i)).set vs[i] (f vs[i]) = spr n (mixF A f vs (i + 1)) := by
  rw [spr_set]
  refine spr_congr fun u _ => ?_
  rw [withV, mixF, mixF, List.take_succ_eq_append_getElem h]
  by_cases e : u = vs[i]
  · rw [if_pos e, if_pos (List.mem_append.2 (.inr (List.mem_singleton.2 e))), e]
  · rw [if_neg e]
    by_cases e2 : u ∈ vs.take i
    · rw [if_pos e2, if_pos (List.mem_append.2 (.inl e2))]
    · rw [if_neg e2, if_neg (fun hh => by rcases List.mem_append.1 hh with hh | hh; exact e2 hh; exact e (List.mem_singleton.1 hh))]
theorem mixF_all {A f : Nat → Nat} {vs : List Nat} (hA : ∀ u, ¬ u ∈ vs → A u = 0) (hf : ∀ u, ¬ u ∈ vs → f u = 0) : mixF A f vs vs.length = f := by
  funext u
  rw [mixF, List.take_length]
  by_cases e : u ∈ vs
  · rw [if_pos e]
  · rw [if_neg e, hA u e, hf u e]
end Go.Proofs.YtncccbdledcibaaGreatDoor


/- Plain: all assignments of a net together are as likely as 1; what is given of a variable is 1 for each assignment of its parents. -/
namespace Go.Proofs.YtncccbdledcibaaGreatDoor
open Go.RowKit Go.Shelf

/-- So many numbers together. -/
def sumQ (g : Nat → Rat) : Nat → Rat
  | 0 => 0
  | n + 1 => sumQ g n + g n
theorem sumQ_congr {g h : Nat → Rat} : ∀ {n : Nat}, (∀ x, x < n → g x = h x) → sumQ g n = sumQ h n
  | 0, _ => rfl
  | n + 1, e => by rw [sumQ, sumQ, sumQ_congr fun x hx => e x (by omega), e n (by omega)]
theorem sumQ_zero : ∀ n, sumQ (fun _ => 0) n = 0
  | 0 => rfl
  | n + 1 => by rw [sumQ, sumQ_zero n, Rat.add_zero]
theorem sumQ_add (g h : Nat → Rat) : ∀ n, sumQ (fun x => g x + h x) n = sumQ g n + sumQ h n
  | 0 => by simp [sumQ, Rat.add_zero]
  | n + 1 => by
    rw [sumQ, sumQ, sumQ, sumQ_add g h n]
    rw [Rat.add_assoc, Rat.add_assoc, ← Rat.add_assoc (sumQ h n), Rat.add_comm (sumQ h n) (g n), Rat.add_assoc]
theorem sumQ_mul (c : Rat) (g : Nat → Rat) : ∀ n, sumQ (fun x => c * g x) n = c * sumQ g n
  | 0 => by simp [sumQ, Rat.mul_zero]
  | n + 1 => by rw [sumQ, sumQ, sumQ_mul c g n, Rat.mul_add]
theorem sumQ_swap (g : Nat → Nat → Rat) (m : Nat) : ∀ n, sumQ (fun x => sumQ (fun y => g x y) m) n = sumQ (fun y => sumQ (fun x => g x y) n) m
  | 0 => by simp only [sumQ]; rw [sumQ_zero]
  | n + 1 => by
    rw [sumQ, sumQ_swap g m n, ← sumQ_add]
    rfl
theorem sumQ_split (g : Nat → Rat) (m : Nat) : ∀ n, sumQ g (m + n) = sumQ g m + sumQ (fun y => g (m + y)) n
  | 0 => by simp [sumQ, Rat.add_zero]
  | n + 1 => by rw [← Nat.add_assoc, sumQ, sumQ_split g m n, sumQ, Rat.add_assoc]
theorem sumQ_prod (g : Nat → Rat) (b : Nat) : ∀ a, sumQ g (a * b) = sumQ (fun x => sumQ (fun y => g (x * b + y)) b) a
  | 0 => by rw [Nat.zero_mul]; rfl
  | a + 1 => by rw [Nat.add_mul, Nat.one_mul, sumQ_split, sumQ_prod g b a, sumQ]
/-- Sums within sums, the first variable outermost. -/
def nsum (S : List Nat) : List Nat → ((Nat → Nat) → Rat) → (Nat → Nat) → Rat
  | [], F, f => F f
  | v :: vs, F, f => sumQ (fun x => nsum S vs F (withV f v x)) (sz S v)
/-- One over another, where it speaks. -/
def over (vs : List Nat) (f g : Nat → Nat) : Nat → Nat := fun u => if u ∈ vs then g u else f u
theorem over_nil (f g : Nat → Nat) : over [] f g = f := by funext u; simp [over]
theorem nsum_all {S : List Nat} (F : (Nat → Nat) → Rat) : ∀ (vs : List Nat) (f : Nat → Nat), vs.Nodup → sumQ (fun k => F (over vs f (asg S vs k))) (cnt S vs) = nsum S vs F f
  | [], f, _ => by
    show 0 + F (over [] f _) = F f
    rw [over_nil, Rat.zero_add]
  | v :: vs, f, hn => by
    rw [List.nodup_cons] at hn
    rw [cnt, sumQ_prod, nsum]
    refine sumQ_congr fun x hx => ?_
    rw [← nsum_all F vs (withV f v x) hn.2]
    refine sumQ_congr fun y hy => ?_
    congr 1
    funext u
    have h1 : (x * cnt S vs + y) / cnt S vs = x := by rw [Nat.mul_comm, Nat.mul_add_div (by omega), Nat.div_eq_of_lt hy, Nat.add_zero]
    have h2 : (x * cnt S vs + y) % cnt S vs = y := by rw [Nat.mul_comm, Nat.mul_add_mod, Nat.mod_eq_of_lt hy]
    simp only [over, asg, h1, h2, withV, List.mem_cons]
    by_cases e : u = v
    · subst e
      rw [if_pos (.inl rfl), if_pos rfl, if_neg hn.1, if_pos rfl]
    · rw [if_neg e]
      by_cases e2 : u ∈ vs
      · rw [if_pos (.inr e2), if_pos e2]
      · rw [if_neg (fun h => h.elim e e2), if_neg e2, if_neg e]
theorem nsum_congr {S : List Nat} {F G : (Nat → Nat) → Rat} (h : ∀ g, (∀ u, g u < sz S u) → F g = G g) : ∀ (vs : List Nat) (f : Nat → Nat), (∀ u, f u < sz S u) → nsum S vs F f = nsum S vs G f
  | [], f, hf => h f hf
  | v :: vs, f, hf => by
    rw [nsum, nsum]
    refine sumQ_congr fun x hx => nsum_congr h vs _ fun u => ?_
    rw [withV]
    by_cases e : u = v
    · rw [if_pos e, e]; exact hx
    · rw [if_neg e]; exact hf u
theorem nsum_snoc {S : List Nat} (F : (Nat → Nat) → Rat) (v : Nat) : ∀ (vs : List Nat) (f : Nat → Nat), nsum S (vs ++ [v]) F f = nsum S vs (fun g => sumQ (fun x => F (withV g v x)) (sz S v)) f
  | [], f => rfl
  | u :: vs, f => by
    rw [List.cons_append, nsum, nsum]
    exact sumQ_congr fun x _ => nsum_snoc F v vs _
theorem nsum_perm {S : List Nat} (F : (Nat → Nat) → Rat) {a b : List Nat} (h : a.Perm b) : a.Nodup → ∀ f, nsum S a F f = nsum S b F f := by
  induction h with
  | nil => intro _ f; rfl
  | cons x _ ih =>
    intro hn f
    rw [List.nodup_cons] at hn
    rw [nsum, nsum]
    exact sumQ_congr fun y _ => ih hn.2 _
  | swap x y l =>
    intro hn f
    have hne : y ≠ x := by
      rw [List.nodup_cons] at hn
      exact fun e => hn.1 (by rw [e]; exact List.mem_cons_self)
    simp only [nsum]
    rw [sumQ_swap]
    refine sumQ_congr fun p _ => sumQ_congr fun q _ => ?_
    rw [withV_comm f q p (Ne.symm hne)]
  | trans h1 _ ih1 ih2 =>
    intro hn f
    rw [ih1 hn f, ih2 (h1.nodup_iff.1 hn) f]
/-- The product over some. -/
def prodS (V : List Vr) (L : List (List Int)) (R : List (List Fr)) (f : Nat → Nat) : List Nat → Rat
  | [] => 1
  | v :: vs => frQ (likF V L R f v) * prodS V L R f vs
theorem prodS_append (V : List Vr) (L : List (List Int)) (R : List (List Fr)) (f : Nat → Nat) (b : List Nat) : ∀ a, prodS V L R f (a ++ b) = prodS V L R f a * prodS V L R f b
  | [] => by rw [List.nil_append, prodS, Rat.one_mul]
  | v :: a => by rw [List.cons_append, prodS, prodS, prodS_append V L R f b a, Rat.mul_assoc]
theorem prodS_range (V : List Vr) (L : List (List Int)) (R : List (List Fr)) (f : Nat → Nat) : ∀ n, prodV V L R f n = prodS V L R f (List.range n)
  | 0 => rfl
  | n + 1 => by rw [prodV, prodS_range V L R f n, List.range_succ, prodS_append, prodS, prodS, Rat.mul_one]
theorem prodS_perm {V : List Vr} {L : List (List Int)} {R : List (List Fr)} {f : Nat → Nat} {a b : List Nat} (h : a.Perm b) : prodS V L R f a = prodS V L R f b := by
  induction h with
  | nil => rfl
  | cons x _ ih => rw [prodS, prodS, ih]
  | swap x y l => simp only [prodS]; rw [← Rat.mul_assoc, ← Rat.mul_assoc, Rat.mul_comm (frQ (likF V L R f y))]
  | trans _ _ h1 h2 => exact h1.trans h2
/-- What a variable hangs on. -/
theorem likF_with {V : List Vr} {L : List (List Int)} {R : List (List Fr)} {f : Nat → Nat} {u v x : Nat} (h1 : u ≠ v) (h2 : ¬ v ∈ toN (L.getD u [])) : likF V L R (withV f v x) u = likF V L R f u := by
  rw [likF, likF, likT, likT]
  have e : pos (sizesN V) (withV f v x) (toN (L.getD u [])) = pos (sizesN V) f (toN (L.getD u [])) := pos_congr _ fun z hz => by
    rw [withV, if_neg]
    intro e
    exact h2 (e ▸ hz)
  rw [e, withV, if_neg h1]
theorem prodS_with {V : List Vr} {L : List (List Int)} {R : List (List Fr)} {f : Nat → Nat} {v x : Nat} : ∀ {o : List Nat}, (∀ u ∈ o, u ≠ v ∧ ¬ v ∈ toN (L.getD u [])) → prodS V L R (withV f v x) o = prodS V L R f o
  | [], _ => rfl
  | u :: o, h => by
    obtain ⟨h1, h2⟩ := h u List.mem_cons_self
    rw [prodS, prodS, likF_with h1 h2, prodS_with fun z hz => h z (List.mem_cons_of_mem _ hz)]
theorem fsum_sumQ : ∀ (l : List Fr), fsum l = sumQ (fun x => frQ (celF l x)) l.length := by
  intro l
  have key : ∀ n, n ≤ l.length → fsum (l.take n) = sumQ (fun x => frQ (celF l x)) n := by
    intro n
    induction n with
    | zero => intro _; rfl
    | succ n ih =>
      intro hn
      rw [List.take_succ_eq_append_getElem (by omega), fsum_snoc, ih (by omega), sumQ, celF_eq (by omega)]
      rfl
  have := key l.length (Nat.le_refl _)
  rwa [List.take_length] at this
/-- Each row is 1 together. -/
theorem row_one {V : List Vr} {L : List (List Int)} {R : List (List Fr)} (h0 : netE V L R = 0) {v : Nat} (hv : v < V.length) {f : Nat → Nat} (hf : ∀ u, f u < sz (sizesN V) u) : sumQ (fun x => frQ (likF V L R (withV f v x) v)) (sz (sizesN V) v) = 1 := by
  have hok := netE_ok h0
  have hvL : v < L.length := by rw [hok.len]; exact hv
  have hvR : v < R.length := by rw [hok.lenR]; exact hv
  have hno := noSelf_of h0 hvL
  have hlen := hok.rows v hvL hvR
  have hp := pos_lt f hf (toN L[v])
  have hrow : rowB (chunkF R[v] (sz (sizesN V) v) (pos (sizesN V) f (toN L[v]))) = true := by
    have h1 : firstE (rowE (sizesN V) L R) V.length = 0 := by
      rw [netE] at h0
      by_cases h1 : L.length = V.length ∧ R.length = V.length
      · rw [if_pos h1] at h0
        by_cases h2 : gcE L = 0
        · rw [if_pos h2] at h0
          by_cases h3 : varsE V = 0
          · rwa [if_pos h3] at h0
          · rw [if_neg h3] at h0; exact absurd h0 h3
        · rw [if_neg h2] at h0; exact absurd h0 h2
      · rw [if_neg h1] at h0; exact absurd h0 (by decide)
    have h2 := firstE_zero h1 v hv
    rw [rowE, List.getD_eq_getElem?_getD, List.getElem?_eq_getElem hvR, List.getD_eq_getElem?_getD, List.getElem?_eq_getElem hvL] at h2
    simp only [Option.getD_some] at h2
    rw [if_pos hlen] at h2
    by_cases h3 : ((List.range (cnt (sizesN V) (toN L[v]))).all fun i => rowB (chunkF R[v] (sz (sizesN V) v) i)) = true
    · rw [List.all_eq_true] at h3
      exact h3 _ (List.mem_range.2 hp)
    · rw [if_neg h3] at h2; exact absurd h2 (by decide)
  rw [rowB, Bool.and_eq_true] at hrow
  have hs : fsum (chunkF R[v] (sz (sizesN V) v) (pos (sizesN V) f (toN L[v]))) = 1 := of_decide_eq_true hrow.2
  have hmul : (pos (sizesN V) f (toN L[v]) + 1) * sz (sizesN V) v ≤ R[v].length := by rw [hlen]; exact Nat.mul_le_mul_right _ hp
  have e1 : (pos (sizesN V) f (toN L[v]) + 1) * sz (sizesN V) v = pos (sizesN V) f (toN L[v]) * sz (sizesN V) v + sz (sizesN V) v := by rw [Nat.add_mul, Nat.one_mul]
  have hcl : (chunkF R[v] (sz (sizesN V) v) (pos (sizesN V) f (toN L[v]))).length = sz (sizesN V) v := by
    rw [chunkF, List.length_take, List.length_drop]
    omega
  rw [fsum_sumQ, hcl] at hs
  rw [← hs]
  refine sumQ_congr fun x hx => ?_
  rw [likF_eq hvL hvR, likT]
  have e2 : pos (sizesN V) (withV f v x) (toN L[v]) = pos (sizesN V) f (toN L[v]) := pos_congr _ fun z hz => by
    rw [withV, if_neg]
    intro e
    exact hno (e ▸ hz)
  rw [e2, withV, if_pos rfl, celF_eq (by omega), celF_eq (by omega)]
  simp only [chunkF, List.getElem_take, List.getElem_drop]
/-- What stands there has all that it hangs on there. -/
theorem ord_closed (P : List (List Nat)) : ∀ k, ∀ u ∈ ordN P k, ∀ z ∈ P.getD u [], z ∈ ordN P k
  | 0, u, hu => by cases hu
  | k + 1, u, hu => by
    rw [ordN] at hu ⊢
    cases e : nextV P (ordN P k) with
    | none =>
      rw [e] at hu
      exact ord_closed P k u hu
    | some v =>
      rw [e] at hu
      intro z hz
      refine List.mem_append.2 (.inl ?_)
      rcases List.mem_append.1 hu with h | h
      · exact ord_closed P k u h z hz
      · obtain rfl := List.mem_singleton.1 h
        have hfree : freeB P (ordN P k) u = true := List.find?_some e
        rw [freeB, Bool.and_eq_true] at hfree
        exact of_decide_eq_true hfree.2 z hz
/-- An order in which what a variable hangs on stands ahead of it: all of it together is 1. -/
theorem nsum_order {V : List Vr} {L : List (List Int)} {R : List (List Fr)} (h0 : netE V L R = 0) : ∀ k, (ordN (parN L) k).length = k → k ≤ L.length → (ordN (parN L) k).Nodup ∧ ∀ f, (∀ u, f u < sz (sizesN V) u) → nsum (sizesN V) (ordN (parN L) k) (fun g => prodS V L R g (ordN (parN L) k)) f = 1
  | 0, _, _ => ⟨List.nodup_nil, fun _ _ => rfl⟩
  | k + 1, hl, hk => by
    have hok := netE_ok h0
    have hln := ord_len (parN L) k
    cases e : nextV (parN L) (ordN (parN L) k) with
    | none =>
      rw [ordN, e] at hl
      exact absurd hl (by show (ordN (parN L) k).length ≠ _; omega)
    | some v =>
      have e1 := ord_some e
      rw [e1] at hl ⊢
      rw [List.length_append, List.length_singleton] at hl
      obtain ⟨hn, hs⟩ := nsum_order h0 k (by omega) (by omega)
      have hfree : freeB (parN L) (ordN (parN L) k) v = true := List.find?_some e
      rw [freeB, Bool.and_eq_true] at hfree
      have hnv : ¬ v ∈ ordN (parN L) k := by simpa using hfree.1
      have hvl : v < L.length := by have := List.mem_range.1 (List.mem_of_find?_eq_some e); rwa [parN_length] at this
      refine ⟨?_, fun f hf => ?_⟩
      · rw [List.nodup_append]
        refine ⟨hn, by simp, fun a ha b hb => ?_⟩
        rw [List.mem_singleton.1 hb]
        exact fun e => hnv (e ▸ ha)
      · rw [nsum_snoc, ← hs f hf]
        refine nsum_congr (fun g hg => ?_) _ f hf
        rw [sumQ_congr (h := fun x => prodS V L R g (ordN (parN L) k) * frQ (likF V L R (withV g v x) v))]
        · rw [sumQ_mul, row_one h0 (by rw [← hok.len]; exact hvl) hg, Rat.mul_one]
        · intro x _
          rw [prodS_append, prodS, prodS, Rat.mul_one, prodS_with]
          intro u hu
          refine ⟨fun e => hnv (e ▸ hu), fun hp => ?_⟩
          exact hnv (ord_closed (parN L) k u hu v (by
            have hul := ord_lt (parN L) k u hu
            rw [parN_length] at hul
            rw [parN_get hul]
            rw [List.getD_eq_getElem?_getD, List.getElem?_eq_getElem hul] at hp
            exact hp))
end Go.Proofs.YtncccbdledcibaaGreatDoor

