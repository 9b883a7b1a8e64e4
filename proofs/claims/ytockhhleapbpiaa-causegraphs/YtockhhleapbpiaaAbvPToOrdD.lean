/- Plain: what stands above what, who is beside whom: what the program and the document's answer say come to the same. -/
import Derived.Test.YtockhhleapbpiaaWayAToMarkA
import Derived.Test.YtockhhleapbpiaaNeaAToAbvB
import Derived.Test.YtockhhleapbpiaaMorAOwn
import Derived.Test.YtockhhleapbpiaaAbvAToOrdC
namespace Go.Proofs.Ytockhhleapbpiaa
open Go.RowKit Go.Shelf

theorem ord_new {P : List (List Nat)} {k v : Nat} (h : nextV P (ordN P k) = some v) : ¬ v ∈ ordN P k ∧ ∀ u ∈ P.getD v [], u ∈ ordN P k := by
  have := List.find?_some h
  rw [freeB, Bool.and_eq_true, Bool.not_eq_true', decide_eq_false_iff_not, decide_eq_true_iff] at this
  exact this
theorem ord_nodup (P : List (List Nat)) : ∀ k, (ordN P k).Nodup
  | 0 => List.nodup_nil
  | k + 1 => by
    rw [ordN]
    cases e : nextV P (ordN P k) with
    | none => exact ord_nodup P k
    | some v =>
      refine List.nodup_append.2 ⟨ord_nodup P k, by simp, fun a ha b hb => ?_⟩
      rw [List.mem_singleton.1 hb]
      exact fun e' => (ord_new e).1 (e' ▸ ha)
/-- A node stands behind its parents. -/
theorem ord_split {P : List (List Nat)} {v : Nat} : ∀ k, v ∈ ordN P k → ∃ A B, ordN P k = A ++ v :: B ∧ ¬ v ∈ A ∧ ∀ u ∈ P.getD v [], u ∈ A
  | 0, h => by cases h
  | k + 1, h => by
    rw [ordN] at h ⊢
    cases e : nextV P (ordN P k) with
    | none =>
      rw [e] at h
      exact ord_split k h
    | some w =>
      rw [e] at h
      show ∃ A B, ordN P k ++ [w] = A ++ v :: B ∧ _
      rcases List.mem_append.1 h with h | h
      · obtain ⟨A, B, h1, h2, h3⟩ := ord_split k h
        exact ⟨A, B ++ [w], by rw [h1]; simp, h2, h3⟩
      · obtain rfl := List.mem_singleton.1 h
        exact ⟨ordN P k, [], rfl, (ord_new e).1, (ord_new e).2⟩
/-- Where a node stands. -/
def rkN (P : List (List Nat)) (v : Nat) : Nat := (ordN P P.length).idxOf v
theorem rk_less {P : List (List Nat)} {u v : Nat} (hv : v ∈ ordN P P.length) (hu : u ∈ P.getD v []) : rkN P u < rkN P v := by
  obtain ⟨A, B, h1, h2, h3⟩ := ord_split P.length hv
  have hA := h3 u hu
  rw [rkN, rkN, h1, List.idxOf_append, List.idxOf_append, if_pos hA, if_neg h2, List.idxOf_cons_self, Nat.zero_add]
  exact List.idxOf_lt_length_of_mem hA
theorem gc_parts {L : List (List Int)} (h : gcE L = 0) : gB L = true ∧ ∀ v, v < L.length → v ∈ ordN (parN L) (parN L).length := by
  have hg := gcE_gB h
  refine ⟨hg, fun v hv => ?_⟩
  rw [gcE, if_pos hg] at h
  have hl : ¬ (ordN (parN L) L.length).length < L.length := fun hc => by rw [if_pos hc] at h; cases h
  rw [parN_length]
  refine Classical.byContradiction fun hno => ?_
  have := nd_len (l := v :: ordN (parN L) L.length) (m := List.range L.length) (List.nodup_cons.2 ⟨hno, ord_nodup _ _⟩) fun x hx => by
    rcases List.mem_cons.1 hx with rfl | hx
    · exact List.mem_range.2 hv
    · have := ord_lt (parN L) L.length x hx
      rw [parN_length] at this
      exact List.mem_range.2 this
  rw [List.length_cons, List.length_range] at this
  omega
theorem pa_lt {L : List (List Int)} (hg : gB L = true) {u v : Nat} (h : u ∈ (parN L).getD v []) : u < L.length ∧ v < L.length := by
  have hv : v < L.length := by
    rcases Nat.lt_or_ge v L.length with h1 | h1
    · exact h1
    · rw [List.getD_eq_getElem?_getD, List.getElem?_eq_none (by rw [parN_length]; exact h1)] at h; cases h
  refine ⟨?_, hv⟩
  rw [List.getD_eq_getElem?_getD, List.getElem?_eq_getElem (by rw [parN_length]; exact hv)] at h
  exact par_lt hg _ (List.getElem_mem _) u h
theorem rk_pa {L : List (List Int)} (h : gcE L = 0) {u v : Nat} (hu : u ∈ (parN L).getD v []) : rkN (parN L) u < rkN (parN L) v :=
  rk_less ((gc_parts h).2 v (pa_lt (gc_parts h).1 hu).2) hu
theorem rk_top {L : List (List Int)} (h : gcE L = 0) {v : Nat} (hv : v < L.length) : rkN (parN L) v < L.length := by
  have h1 := List.idxOf_lt_length_of_mem ((gc_parts h).2 v hv)
  have h2 := ord_len (parN L) (parN L).length
  rw [parN_length] at h2
  rw [rkN]
  rw [parN_length] at h1 ⊢
  omega
theorem abv_rk {L : List (List Int)} (h : gcE L = 0) {u v : Nat} (ha : Abv (fun u v => u ∈ (parN L).getD v []) u v) : rkN (parN L) u < rkN (parN L) v := by
  induction ha using Abv.ind with
  | one hp => exact rk_pa h hp
  | more _ hp ih => exact Nat.lt_trans ih (rk_pa h hp)
theorem abv_no {L : List (List Int)} (h : gcE L = 0) (v : Nat) : ¬ Abv (fun u v => u ∈ (parN L).getD v []) v v := fun ha => Nat.lt_irrefl _ (abv_rk h ha)
/-- Is a the node b, or above it? (As the document's answer asks, so many steps at most.) -/
def abF (P : List (List Nat)) (a : Nat) : Nat → Nat → Bool
  | 0, b => decide (a = b)
  | f + 1, b => decide (a = b) || (P.getD b []).any (abF P a f)
theorem abF_iff {L : List (List Int)} (h : gcE L = 0) (a : Nat) : ∀ f b, rkN (parN L) b ≤ f → (abF (parN L) a f b = true ↔ a = b ∨ Abv (fun u v => u ∈ (parN L).getD v []) a b)
  | 0, b, hf => by
    rw [abF, decide_eq_true_iff]
    refine ⟨.inl, fun hh => hh.elim id fun ha => ?_⟩
    have := abv_rk h ha
    omega
  | f + 1, b, hf => by
    rw [abF, Bool.or_eq_true, decide_eq_true_iff, List.any_eq_true]
    constructor
    · rintro (e | ⟨c, hc, h1⟩)
      · exact .inl e
      · have := rk_pa h hc
        rcases (abF_iff h a f c (by omega)).1 h1 with rfl | h2
        · exact .inr (.one hc)
        · exact .inr (.more h2 hc)
    · rintro (e | ha)
      · exact .inl e
      · refine .inr ?_
        rcases Abv.last ha with hp | ⟨v, h1, hp⟩
        · exact ⟨a, hp, by cases f <;> simp [abF]⟩
        · have := rk_pa h hp
          exact ⟨v, hp, (abF_iff h a f v (by omega)).2 (.inr h1)⟩
theorem abS_mono {P : List (List Nat)} {s : List Nat} {u : Nat} : ∀ {r : Nat} (d : Nat), u ∈ abS P s r → u ∈ abS P s (r + d)
  | _, 0, h => h
  | r, d + 1, h => by
    show u ∈ abK P (abS P s (r + d)) 8
    exact List.mem_append_left _ (abS_mono d h)
theorem abS_up {L : List (List Int)} (h : gcE L = 0) {s : List Nat} (h8 : L.length ≤ 8) : ∀ m j v, rkN (parN L) v ≤ m → v < L.length → v ∈ abS (parN L) s j → ∀ a, Abv (fun u v => u ∈ (parN L).getD v []) a v → a ∈ abS (parN L) s (j + m) := fun m => by
  induction m with
  | zero =>
    intro j v hm _ _ a ha
    have := abv_rk h ha
    omega
  | succ m ih =>
    intro j v hm hv hs a ha
    have one : ∀ w, w ∈ (parN L).getD v [] → w ∈ abS (parN L) s (j + 1) := fun w hw => List.mem_append_right _ (List.mem_flatMap.2 ⟨v, memU_mem.2 ⟨by omega, hs⟩, hw⟩)
    rcases Abv.last ha with hp | ⟨w, h1, hp⟩
    · rw [show j + (m + 1) = (j + 1) + m by omega]; exact abS_mono m (one a hp)
    · have := rk_pa h hp
      rw [show j + (m + 1) = (j + 1) + m by omega]
      exact ih (j + 1) w (by omega) (pa_lt (gc_parts h).1 hp).1 (one w hp) a h1
theorem abS_iff {L : List (List Int)} (h : gcE L = 0) {s : List Nat} (h8 : L.length ≤ 8) (hs : ∀ v ∈ s, v < L.length) (a : Nat) : a ∈ abS (parN L) s L.length ↔ ∃ b ∈ s, a = b ∨ Abv (fun u v => u ∈ (parN L).getD v []) a b := by
  constructor
  · have : ∀ r a, a ∈ abS (parN L) s r → ∃ b ∈ s, a = b ∨ Abv (fun u v => u ∈ (parN L).getD v []) a b := fun r => by
      induction r with
      | zero => exact fun a ha => ⟨a, ha, .inl rfl⟩
      | succ r ih =>
        intro a ha
        rcases List.mem_append.1 ha with ha | ha
        · exact ih a ha
        · obtain ⟨v, hv, hp⟩ := List.mem_flatMap.1 ha
          obtain ⟨b, hb, h1⟩ := ih v (memU_mem.1 hv).2
          refine ⟨b, hb, .inr ?_⟩
          rcases h1 with rfl | h1
          · exact .one hp
          · clear hb
            induction h1 using Abv.ind with
            | one h2 => exact .more (.one hp) h2
            | more _ h2 ih2 => exact .more ih2 h2
    exact this _ a
  · rintro ⟨b, hb, rfl | ha⟩
    · have := abS_mono (P := parN L) (s := s) (r := 0) L.length hb
      rwa [Nat.zero_add] at this
    · have h1 := rk_top h (hs b hb)
      have := abS_up h h8 L.length 0 b (by omega) (hs b hb) hb a ha
      rwa [Nat.zero_add] at this
/-- Whether u stands beside v when parents of one child are wed. -/
def mrB (P : List (List Nat)) (n v u : Nat) : Bool := (decide (u ∈ P.getD v []) || decide (v ∈ P.getD u [])) || (List.range n).any fun w => decide (u ∈ P.getD w []) && decide (v ∈ P.getD w [])
theorem mrL_mem {P : List (List Nat)} {u x : Nat} : ∀ {n : Nat}, x ∈ mrL P u n ↔ x ≠ u ∧ ∃ v, v < n ∧ u ∈ famL P v ∧ x ∈ famL P v
  | 0 => by simp [mrL]
  | n + 1 => by
    have ih := mrL_mem (P := P) (u := u) (x := x) (n := n)
    rw [mrL]
    by_cases h : u ∈ famL P n
    · rw [if_pos h, List.mem_append, ih, List.mem_filter, decide_eq_true_iff]
      constructor
      · rintro (⟨a, v, b, c⟩ | ⟨a, b⟩)
        · exact ⟨a, v, by omega, c⟩
        · exact ⟨b, n, by omega, h, a⟩
      · rintro ⟨a, v, b, c, d⟩
        rcases Nat.lt_or_ge v n with h1 | h1
        · exact .inl ⟨a, v, h1, c, d⟩
        · rw [show v = n by omega] at d
          exact .inr ⟨d, a⟩
    · rw [if_neg h, ih]
      refine and_congr_right fun _ => ⟨fun ⟨v, a, b⟩ => ⟨v, by omega, b⟩, fun ⟨v, a, b, c⟩ => ⟨v, ?_, b, c⟩⟩
      rcases Nat.lt_or_ge v n with h1 | h1
      · exact h1
      · rw [show v = n by omega] at b; exact absurd b h
theorem mr_iff {P : List (List Nat)} {n v u : Nat} (hu : u < n) (hv : v < n) : u ∈ mrL P v n ↔ (mrB P n v u && decide (u ≠ v)) = true := by
  rw [mrL_mem, Bool.and_eq_true, decide_eq_true_iff, mrB, Bool.or_eq_true, Bool.or_eq_true, decide_eq_true_iff, decide_eq_true_iff, List.any_eq_true]
  constructor
  · rintro ⟨hne, w, hw, h1, h2⟩
    refine ⟨?_, hne⟩
    rcases List.mem_cons.1 h1 with rfl | h1
    · rcases List.mem_cons.1 h2 with rfl | h2
      · exact absurd rfl hne
      · exact .inl (.inl h2)
    · rcases List.mem_cons.1 h2 with rfl | h2
      · exact .inl (.inr h1)
      · exact .inr ⟨w, List.mem_range.2 hw, by rw [decide_eq_true h2, decide_eq_true h1]; rfl⟩
  · rintro ⟨(h1 | h1) | ⟨w, hw, h1⟩, hne⟩
    · exact ⟨hne, v, hv, List.mem_cons_self, List.mem_cons_of_mem _ h1⟩
    · exact ⟨hne, u, hu, List.mem_cons_of_mem _ h1, List.mem_cons_self⟩
    · rw [Bool.and_eq_true, decide_eq_true_iff, decide_eq_true_iff] at h1
      exact ⟨hne, w, List.mem_range.1 hw, List.mem_cons_of_mem _ h1.2, List.mem_cons_of_mem _ h1.1⟩
/-- The list of those beside v, as the document's answer gathers it. -/
def mrR (P : List (List Nat)) (n v u : Nat) : List Nat := (List.range u).filter fun u => mrB P n v u && decide (u ≠ v)
theorem mr_list {P : List (List Nat)} {n v : Nat} (hP : ∀ v, ∀ u ∈ P.getD v [], u < n ∧ v < n) (h8 : n ≤ 8) (hv : v < n) : iL (mrR P n v n) = memL (mrL P v n) := by
  have hlt : ∀ x, x ∈ mrL P v n → x < n := fun x hx => by
    obtain ⟨_, w, hw, _, h2⟩ := mrL_mem.1 hx
    rcases List.mem_cons.1 h2 with rfl | h2
    · exact hw
    · exact (hP _ _ h2).1
  have e : ∀ d, memU (mrL P v n) (n + d) = memU (mrL P v n) n := fun d => by
    induction d with
    | zero => rfl
    | succ d ih =>
      rw [show n + (d + 1) = (n + d) + 1 by omega, memU_no, ih]
      intro hm
      have := hlt _ hm
      omega
  have e8 := e (8 - n)
  rw [show n + (8 - n) = 8 by omega] at e8
  rw [memL, e8, mrR, memU]
  congr 1
  refine List.filter_congr fun u hu => Bool.eq_iff_iff.2 ?_
  rw [← mr_iff (List.mem_range.1 hu) hv, decide_eq_true_iff]
end Go.Proofs.Ytockhhleapbpiaa


/- The document's answer: listsOK, Order, GraphCheck. -/
namespace Go.Proofs.Ytockhhleapbpiaa
open Go.RowKit Go.Shelf

theorem inB_mem {k : Int} {l : List Int} : inB k l = true ↔ k ∈ l := by simp [inB]
theorem inB_nat {l : List Int} {x : Int} (hx : 0 ≤ x) (hl : ∀ y ∈ l, 0 ≤ y) : inB x l = decide (x.toNat ∈ toN l) := by
  rw [Bool.eq_iff_iff, decide_eq_true_iff, inB_mem]
  constructor
  · intro h; exact List.mem_map.2 ⟨x, h, rfl⟩
  · intro h
    obtain ⟨y, hy, e⟩ := List.mem_map.1 h
    have := hl y hy
    obtain rfl : y = x := by omega
    exact hy
theorem inB_iL (l : List Nat) {x : Int} (hx : 0 ≤ x) : inB x (iL l) = decide (x.toNat ∈ l) := by
  rw [inB_nat hx fun y hy => by obtain ⟨z, _, rfl⟩ := List.mem_map.1 hy; omega, toN_iL]
theorem ris_nonneg {l : List Int} {n : Nat} (h : risB l n = true) : ∀ y ∈ l, 0 ≤ y := fun y hy => by
  obtain ⟨i, hi, rfl⟩ := List.getElem_of_mem hy
  exact ((ris_up h).each i hi).1
theorem gB_ris {L : List (List Int)} {i : Nat} (h : i < L.length) (e : risB L[i] L.length = false) : gB L = false := by rw [gB, allRis_bad h e]; simp
theorem gB_self {L : List (List Int)} {i : Nat} (h : i < L.length) (e : i ∈ toN L[i]) : gB L = false := by rw [gB, noSelf_bad h e]; simp
theorem gB_yes {L : List (List Int)} (h1 : 1 ≤ L.length) (h2 : L.length ≤ 8) (h : ∀ i (hi : i < L.length), risB L[i] L.length = true ∧ ¬ i ∈ toN L[i]) : gB L = true := by
  rw [gB, decide_eq_true (p := 1 ≤ L.length ∧ L.length ≤ 8) ⟨h1, h2⟩, noSelf_good fun i hi => (h i hi).2]
  have : allRis L L.length = true := List.all_eq_true.2 fun l hl => by
    obtain ⟨i, hi, rfl⟩ := List.getElem_of_mem hl
    exact (h i hi).1
  rw [this]; rfl

set_option maxRecDepth 100000 in
set_option maxHeartbeats 1000000 in
theorem rListsOK_any (a : Option Addr) (ca : Nat) (L : List (List Int)) (w : World) (h : LsS w a L) (hl : ∀ l ∈ L, l.length ≤ 140737488355328) (hL : L.length ≤ 140737488355328) :
    Calls Try.prog 36 #[.slice a L.length ca] w fun e w' => e = .returned (.bool (gB L)) ∧ Below w.heap.size w w' := by
  have HF := hid h
  have HL := hid hl
  have HN : Hid (¬ (1 ≤ L.length ∧ L.length ≤ 8) → gB L = false) := fun h => by rw [gB, decide_eq_false h]; rfl
  have HR := hid (fun i h e => gB_ris (L := L) (i := i) h e)
  have HS := hid (fun i h e => gB_self (L := L) (i := i) h e)
  have HY := hid (fun h1 h2 h => gB_yes (L := L) h1 h2 h)
  generalize gB L = gb at *
  clear h hl
  by_cases h1 : 1 ≤ L.length
  · by_cases h8 : L.length ≤ 8
    · clear HN
      have e1 : (1 : Int) ≤ (L.length : Int) := by omega
      have e2 : (L.length : Int) ≤ 8 := by omega
      go_enter Try.func36, Try.ntmps36
      go_wp2_with fail
      go_loopw [3] (fun iv wr => ∃ i : Nat, i ≤ L.length ∧ iv = .int .i64 i ∧ Hid (∀ j (h : j < L.length), j < i → risB L[j] L.length = true ∧ ¬ j ∈ toN L[j]) ∧ Hid (Below w.heap.size w wr)) (fun iv _ => L.length - (intOf iv).toNat)
      case atStart => exact ⟨0, Nat.zero_le _, rfl, fun j _ h => absurd h (by omega), Below.refl _ _⟩
      case round =>
        obtain ⟨i, hi, rfl, HP, HB⟩ := hrel
        by_cases hlt : i < L.length
        · obtain ⟨g, o, b, c, rfl, hg, c0, hI⟩ := (HF.out.below HB.out) i hlt
          have hll := HL.out L[i] (List.getElem_mem hlt)
          have HI := hid hI
          have HRi := hid (HR.out i hlt)
          have HSi := hid (HS.out i hlt)
          have HPi : Hid (risB L[i] L.length = true → ¬ i ∈ toN L[i] → ∀ j (h : j < L.length), j < i + 1 → risB L[j] L.length = true ∧ ¬ j ∈ toN L[j]) := fun h h' j hj hji => by
            rcases Nat.lt_or_ge j i with h2 | h2
            · exact HP.out j hj h2
            · obtain rfl : j = i := by omega
              exact ⟨h, h'⟩
          clear hI
          generalize L[i] = l at *
          go_wp2_with fail
          refine (rRising_any b c l (L.length : Int) _ HI.out hll).mono ?_
          rintro e w1 ⟨rfl, hb1⟩
          have c1 := (hb1.cell (p := ⟨g, o + i, none⟩) hg).trans c0
          have HI1 := hid (HI.out.below hb1)
          have HB1 := hid (HB.out.trans (hb1.mono HB.out.size))
          clear hb1 c0 HI HB
          go_wp2_with fail
          refine (rIn_any (i : Nat) b c l _ HI1.out hll).mono ?_
          rintro e w2 ⟨rfl, rfl⟩
          cases hr : risB l L.length with
          | false =>
            have HE := hid (HRi.out hr)
            clear hr
            generalize inB (i : Nat) l = q at *
            go_wp2
            go_ret
            exact ⟨by rw [HE.out]; rfl, HB1.out⟩
          | true =>
            rw [inB_nat (by omega) (ris_nonneg hr), Int.toNat_natCast]
            by_cases hin : i ∈ toN l
            · rw [decide_eq_true hin]
              have HE := hid (HSi.out hin)
              clear hin hr
              go_wp2
              go_ret
              exact ⟨by rw [HE.out]; rfl, HB1.out⟩
            · rw [decide_eq_false hin]
              have HE := hid (HPi.out hr hin)
              clear hin hr
              go_wp2
              go_roundw
              case rel => exact ⟨i + 1, by omega, by go_num, HE, HB1⟩
              case measure => simp [intOf]; omega
        · obtain rfl : i = L.length := by omega
          have HE := hid (HY.out h1 h8 fun j hj => HP.out j hj hj)
          go_wp2
          go_ret
          exact ⟨by rw [HE.out]; rfl, HB.out⟩
    · have HE := hid (HN.out fun h => h8 h.2)
      have e1 : (1 : Int) ≤ (L.length : Int) := by omega
      have e2 : (8 : Int) < (L.length : Int) := by omega
      clear h8
      go_enter Try.func36, Try.ntmps36
      go_wp2
      go_ret
      exact ⟨by rw [HE.out]; rfl, Below.refl _ _⟩
  · have HE := hid (HN.out fun h => h1 h.1)
    have e1 : (L.length : Int) < 1 := by omega
    clear h1
    go_enter Try.func36, Try.ntmps36
    go_wp2
    go_ret
    exact ⟨by rw [HE.out]; rfl, Below.refl _ _⟩
end Go.Proofs.Ytockhhleapbpiaa

