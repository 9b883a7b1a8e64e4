/- Package cause: others. -/
import Derived.Test.YtockhhleapbpiaaSliAToTogA
import Derived.Test.YtockhhleapbpiaaTabR4ToNum
import Derived.Laws.BitsAllLaws
namespace Go.Proofs.Ytockhhleapbpiaa
open Go.RowKit Go.Shelf Go.Sort Go.Lib

theorem slContains_eq (b : Option Addr) (cb : Nat) (l : List Int) (x : Int) (w : World) (h : IntS w b l) (hn : l.length ≤ 140737488355328) :
    Calls Try.prog 85 #[.slice b l.length cb, .int .i64 x] w fun e w' => e = .returned (.bool (l.contains x)) ∧ w' = w := by
  cases l with
  | nil =>
    refine (Try.slices_Contains_int_empty b cb x w).mono ?_
    rintro e w' ⟨rfl, rfl⟩
    exact ⟨rfl, rfl⟩
  | cons y l =>
    obtain ⟨g, o, rfl, _⟩ := h 0 (by simp)
    refine (Try.slices_Contains_int g o (y :: l).length cb (y :: l) x w (Nat.le_refl _) (by omega) (intS_cells h)).mono ?_
    rintro e w' ⟨rfl, rfl⟩
    rw [List.take_length]
    exact ⟨rfl, rfl⟩
/-- Those of a list that are not in another. -/
def othN (l m : List Int) : List Int := l.filter fun u => decide (¬ u ∈ m)

/-- The closure of others. -/
theorem others1_gives (u : Int) (b : Option Addr) (cb : Nat) (l : List Int) (B : Nat) (W : World) (hc : W.cell? ⟨B, 0, none⟩ = some (.slice b l.length cb)) (hl : IntS W b l) (hn : l.length ≤ 140737488355328) :
    FnGives Try.prog 84 #[.pointer (some ⟨B, 0, none⟩)] #[.int .i64 u] (.bool (l.contains u)) W := by
  show Calls Try.prog 84 #[.int .i64 u, .pointer (some ⟨B, 0, none⟩)] W _
  have HC := hid (slContains_eq b cb l u W hl hn)
  clear hl
  go_enter Try.func84, Try.ntmps84
  go_wp2_with fail
  refine HC.out.mono ?_
  rintro e w' ⟨rfl, hw⟩
  rw [hw]
  clear hw w'
  go_wp2
  go_ret
  exact ⟨by simp, 0, rfl⟩
theorem others1_at (b : Option Addr) (cb : Nat) (l : List Int) (B : Nat) (w : World) (hB : B < w.heap.size) (hc : w.cell? ⟨B, 0, none⟩ = some (.slice b l.length cb)) (hl : IntS w b l) (hn : l.length ≤ 140737488355328) :
    PredAt Try.prog 84 #[.pointer (some ⟨B, 0, none⟩)] (Value.int .i64) (fun u => l.contains u) w :=
  fun W x hb => others1_gives x b cb l B W ((hb.cell (p := ⟨B, 0, none⟩) hB).trans hc) (hl.below hb) hn
theorem others1_over (b : Option Addr) (cb : Nat) (l : List Int) (B blk off size : Nat) (w : World) (hB : B < w.heap.size) (hne : B ≠ blk) (hc : w.cell? ⟨B, 0, none⟩ = some (.slice b l.length cb)) (hl : IntS w b l) (hn : l.length ≤ 140737488355328) (hbk : ∀ g o, b = some ⟨g, o, none⟩ → l ≠ [] → g ≠ blk) :
    PredOver Try.prog 84 #[.pointer (some ⟨B, 0, none⟩)] (Value.int .i64) (fun u => l.contains u) blk off size w :=
  fun n os dk x _ => by
    have keep : ∀ g o, g < w.heap.size → g ≠ blk → (sortWorld (Value.int .i64) w blk off n dk os).cell? ⟨g, o, none⟩ = w.cell? ⟨g, o, none⟩ := fun g o hg hne => by
      unfold sortWorld
      rw [cell?_grow _ _ _ (by show g < (putRow _ _ _ _ _).heap.size; rw [size_putRow]; exact hg), cell?_putRow_other _ _ blk off _ _ (Or.inl hne)]
      rfl
    refine others1_gives x b cb l B _ ((keep B 0 hB hne).trans hc) (fun k hk => ?_) hn
    obtain ⟨g, o, e, hg, hck⟩ := hl k hk
    refine ⟨g, o, e, ?_, (keep g _ hg (hbk g o e (fun e => by rw [e] at hk; exact absurd hk (by simp)))).trans hck⟩
    unfold sortWorld
    rw [size_grow, size_putRow]
    exact Nat.lt_of_lt_of_le hg (Nat.le_add_right _ _)

set_option maxRecDepth 100000 in
set_option maxHeartbeats 400000 in
theorem others_any (b c : Option Addr) (cb cc : Nat) (l m : List Int) (w : World) (hl : IntS w b l) (hm : IntS w c m) (hn : l.length ≤ 1000000) (hmn : m.length ≤ 140737488355328) :
    Calls Try.prog 61 #[.slice b l.length cb, .slice c m.length cc] w fun e w' => ∃ (d : Option Addr) (cd : Nat), e = .returned (.slice d (othN l m).length cd) ∧ IntS w' d (othN l m) ∧ ((d = none → cd = 0) ∧ ∀ g o, d = some ⟨g, o, none⟩ → w.heap.size ≤ g) ∧ Below w.heap.size w w' := by
  have HV := hid hl
  have HM := hid hm
  obtain ⟨L, hL⟩ : ∃ L, L = othN l m := ⟨_, rfl⟩
  rw [← hL]
  have HL := hid hL
  have HBK : Hid (∀ g o, c = some ⟨g, o, none⟩ → m ≠ [] → g < w.heap.size) := fun g o e hne => by
    obtain ⟨g', o', e', hg', _⟩ := hm 0 (by cases m with | nil => exact absurd rfl hne | cons x m => simp)
    rw [e] at e'
    cases e'
    exact hg'
  clear hl hm hL
  go_enter Try.func61, Try.ntmps61
  go_wp2_with fail
  have hb0 : Below w.heap.size w (w.alloc (.cells #[.slice c m.length cc] 23)) := (Below.refl _ w).alloc (Nat.le_refl _) _
  have hx := Boxed.new w 23 (.slice c m.length cc)
  generalize (w.alloc (.cells #[.slice c m.length cc] 23)) = W at hb0 hx ⊢
  refine (slClone_any b cb l _ (HV.out.below hb0) hn).mono ?_
  rintro e w1 ⟨x, rfl, hr, hb1⟩
  have hx1 := boxed_keep hx hb1
  have hB1 := hb0.trans (hb1.mono hb0.size)
  have hlt := hx.lt
  have hs1 := hb0.size
  rcases hr.cases with ⟨rfl, rfl⟩ | ⟨g, cap, rfl, hg0, hg, hc1, hc2, hh⟩
  · go_wp2_with fail
    refine (slDelete_none _ _).mono ?_
    rintro e w2 ⟨rfl, hb2⟩
    go_wp2
    go_ret
    have hL0 : L = [] := HL.out
    subst hL0
    exact ⟨none, 0, rfl, fun k hk => absurd hk (by simp), ⟨fun _ => rfl, fun g o e => by cases e⟩, hB1.trans (hb2.mono hB1.size)⟩
  · have hcon := Try.slices_DeleteFunc (Value.int .i64) (fun _ => rfl) (fun u => m.contains u) 84 #[.pointer (some ⟨w.heap.size, 0, none⟩)] (enters_of Try.func84 (by kernel_rfl) rfl) 0 Try.zeroValue3 g 0 cap l.toArray w1 (others1_at c cc m _ _ hx1.lt hx1.cell (HM.out.below hB1) hmn) (others1_over c cc m _ g 0 _ _ hx1.lt (by omega) hx1.cell (HM.out.below hB1) hmn (fun g' o' e' hne => by have := HBK.out g' o' e' hne; omega)) hh (by simp; omega) (by simpa using hc1)
    have hsz : l.toArray.size = l.length := by simp
    rw [hsz] at hcon
    have hfl : l.toArray.toList.filter (fun x => !(m.contains x)) = othN l m := by
      rw [othN]
      refine List.filter_congr fun u _ => ?_
      by_cases hu : u ∈ m <;> simp [hu]
    rw [hfl, ← HL.out] at hcon
    have hll : L.length ≤ l.length := by rw [HL.out]; exact List.length_filter_le _ _
    have HCON := hid hcon
    have HH := hid hh
    have HLL := hid hll
    clear hcon hh hr hsz hfl hc1 hc2 hll
    go_wp2_with fail
    refine HCON.out.mono ?_
    rintro e w2 ⟨rfl, q, rfl⟩
    go_wp2
    go_ret
    have hsum : (L ++ List.replicate (l.length - L.length) 0).toArray.size = l.toArray.size := by
      have := HLL.out
      simp
      omega
    refine ⟨some ⟨g, 0, none⟩, cap, rfl, holds_ints (holds_putRow (Value.int .i64) (Sort.ahead w1 q) g 0 l.toArray _ HH.out hsum) (by rw [size_putRow]; exact hg) (fun j hj => ⟨by simp; omega, by simp [List.getElem_append_left, hj]⟩), ⟨(fun e => by cases e), fun g' o' e => by cases e; omega⟩, below_put_row _ hB1 hB1.size (by omega)⟩
end Go.Proofs.Ytockhhleapbpiaa


/- Package cause: union. -/
namespace Go.Proofs.Ytockhhleapbpiaa
open Go.RowKit Go.Shelf Go.Sort Go.Lib

theorem sort_tog {la lb : List Int} (hnd : (la ++ lb).Nodup) : ((la ++ lb).mergeSort fun x y => decide (x ≤ y)) = togL la lb := by
  obtain ⟨h1, h2⟩ := togL_rise la lb
  have hs : ((la ++ lb).mergeSort fun x y => decide (x ≤ y)).Pairwise (fun x y => decide (x ≤ y) = true) := List.pairwise_mergeSort (fun a b c => by simp; omega) (fun a b => by simp; omega) _
  have hp := List.mergeSort_perm (la ++ lb) fun x y => decide (x ≤ y)
  have hn : ((la ++ lb).mergeSort fun x y => decide (x ≤ y)).Nodup := hp.nodup_iff.2 hnd
  refine rise_extI ?_ h1 fun x => ?_
  · refine (hs.and hn).imp fun {a b} h => ?_
    have h3 := of_decide_eq_true h.1
    have h4 := h.2
    omega
  · rw [hp.mem_iff, h2, List.mem_append]

set_option maxRecDepth 100000 in
set_option maxHeartbeats 800000 in
theorem union_any (a b : Option Addr) (ca cb : Nat) (la lb : List Int) (w : World) (ha : IntS w a la) (hb : IntS w b lb) (ha0 : a = none → ca = 0) (hb0 : b = none → cb = 0) (hla : la.length ≤ 1000) (hlb : lb.length ≤ 1000) (hnd : (la ++ lb).Nodup) :
    Calls Try.prog 63 #[.slice a la.length ca, .slice b lb.length cb] w fun e w' => ∃ (d : Option Addr) (cd : Nat), e = .returned (.slice d (togL la lb).length cd) ∧ IntS w' d (togL la lb) ∧ (d = none → cd = 0) ∧ Below w.heap.size w w' := by
  obtain ⟨L, hL⟩ : ∃ L, L = togL la lb := ⟨_, rfl⟩
  rw [← hL]
  have HL := hid hL
  have hb0' : Below w.heap.size w (w.alloc (.cells #[.slice a la.length ca, .slice b lb.length cb] 23)) := (Below.refl _ w).alloc (Nat.le_refl _) _
  have hrow : (w.alloc (.cells #[.slice a la.length ca, .slice b lb.length cb] 23)).heap[w.heap.size]? = some (.cells #[.slice a la.length ca, .slice b lb.length cb] 23 (0, 0)) := heap_alloc_new _ _
  have HCON := hid (slConcat_any w.heap.size a b ca cb la lb (w.alloc (.cells #[.slice a la.length ca, .slice b lb.length cb] 23)) (by simp) (by rw [cell_of_row _ _ _ _ _ (0, 0) hrow]; rfl) (by rw [cell_of_row _ _ _ _ _ (0, 0) hrow]; rfl) (ha.below hb0') (hb.below hb0') ha0 hb0 hla hlb)
  have HST := hid (sort_tog hnd)
  clear hL ha hb ha0 hb0 hrow hnd
  go_enter Try.func63, Try.ntmps63
  go_wp2_with fail
  generalize (w.alloc (.cells #[.slice a la.length ca, .slice b lb.length cb] 23)) = W at *
  refine HCON.out.mono ?_
  rintro e w1 ⟨v, rfl, hr, hb1⟩
  have hB1 := hb0'.trans (hb1.mono hb0'.size)
  have hs0 := hb0'.size
  rcases hr.cases with ⟨rfl, hnil⟩ | ⟨g, cap, rfl, hg0, hg, hc1, hc2, hh⟩
  · have hL0 : L = [] := by
      have h1 : la = [] := (List.append_eq_nil_iff.1 hnil).1
      have h2 : lb = [] := (List.append_eq_nil_iff.1 hnil).2
      rw [HL.out, h1, h2, togL_nil]
    subst hL0
    go_wp2_with fail
    refine (Try.slices_Sort_int_none none 0 _).mono ?_
    rintro e w2 ⟨rfl, rfl⟩
    go_wp2
    go_ret
    exact ⟨none, 0, rfl, fun k hk => absurd hk (by simp), fun _ => rfl, hB1⟩
  · have hll : (la ++ lb).length ≤ 2000 := by rw [List.length_append]; omega
    have hsort := Try.slices_Sort_int g 0 cap (la ++ lb) w1 hh hg (by omega)
    have hlen : ((la ++ lb).mergeSort fun x y => decide (x ≤ y)).length = (la ++ lb).length := List.length_mergeSort _
    rw [HST.out, ← HL.out] at hlen hsort
    have HSORT := hid hsort
    have HLE := hid hlen
    have HH := hid hh
    clear hsort hh hr hc2 hb1 hlen HST
    generalize hLL : (la ++ lb).length = n at *
    have HLN := hid hLL
    clear hLL
    go_wp2_with fail
    refine HSORT.out.mono ?_
    rintro e w2 ⟨rfl, q, os, rfl⟩
    have hsz : L.toArray.size = (la ++ lb).toArray.size := by
      have := HLE.out
      have := HLN.out
      simp only [List.size_toArray]
      omega
    have hH2 : Holds (Value.int .i64) (grow (putRow (Value.int .i64) (Sort.ahead w1 q) g 0 L.toArray) os) g 0 L.toArray := fun j hj => by
      obtain ⟨h1, h2⟩ := holds_putRow (Value.int .i64) (Sort.ahead w1 q) g 0 _ L.toArray HH.out hsz j hj
      have hgp : g < (putRow (Value.int .i64) (Sort.ahead w1 q) g 0 L.toArray).heap.size := by rw [size_putRow]; exact hg
      refine ⟨(cell?_grow _ _ _ hgp).trans h1, ?_⟩
      rw [frozen?_grow _ _ _ hgp]
      exact h2
    have hgw : g < (grow (putRow (Value.int .i64) (Sort.ahead w1 q) g 0 L.toArray) os).heap.size := Nat.lt_of_lt_of_le hg (grownBy_sortedI (w := w1) (g := g) (n := q) (os := os) L.toArray).size
    have HB2 := hid (below_sorted (n := q) (os := os) L.toArray hB1 hB1.size (show w.heap.size ≤ g by omega))
    generalize grow (putRow (Value.int .i64) (Sort.ahead w1 q) g 0 L.toArray) os = w2 at *
    have HI := hid (holds_ints (l := L) hH2 hgw fun j hj => ⟨by simpa using hj, by simp⟩)
    clear hH2 hsz
    go_wp2
    go_ret
    exact ⟨some ⟨g, 0, none⟩, cap, by rw [HLE.out]; rfl, HI.out, (fun e => by cases e), HB2.out⟩
end Go.Proofs.Ytockhhleapbpiaa


/- Package graph: sets as bits. -/
namespace Go.Proofs.Ytockhhleapbpiaa
open Go.RowKit

/-- A set of numbers as bits. -/
def mskN : List Nat → Nat
  | [] => 0
  | v :: l => mskN l ||| 2 ^ v
theorem msk_bit (l : List Nat) (v : Nat) : (mskN l).testBit v = decide (v ∈ l) := by
  induction l with
  | nil => simp [mskN]
  | cons u l ih =>
    rw [mskN, Nat.testBit_or, ih, Nat.testBit_two_pow]
    by_cases h : u = v
    · subst h; simp
    · have h' : ¬ v = u := fun e => h e.symm
      simp [h, h']
theorem msk_ext {a b : List Nat} (h : ∀ x, x ∈ a ↔ x ∈ b) : mskN a = mskN b := by
  apply Nat.eq_of_testBit_eq
  intro i
  rw [msk_bit, msk_bit]
  exact decide_eq_decide.2 (h i)
theorem msk_lt : ∀ {l : List Nat}, (∀ v ∈ l, v < 8) → mskN l < 256
  | [], _ => by decide
  | v :: l, h => by
    have h1 := msk_lt (l := l) fun u hu => h u (List.mem_cons_of_mem _ hu)
    have h2 : 2 ^ v < 2 ^ 8 := Nat.pow_lt_pow_right (by decide) (h v List.mem_cons_self)
    exact Nat.or_lt_two_pow (n := 8) h1 h2
theorem bit_div (s v : Nat) : (s / 2 ^ v &&& 1 = 1) ↔ s.testBit v = true := by
  rw [Nat.testBit_eq_decide_div_mod_eq, decide_eq_true_iff, Nat.and_one_is_mod]
theorem holds_iff {s p : Nat} (hs : s < 256) (hp : p < 256) : (p &&& (4294967295 - s) = 0) ↔ ∀ v, p.testBit v = true → s.testBit v = true := by
  have e : 4294967295 - s = 2 ^ 32 - (s + 1) := by omega
  have hs' : s < 2 ^ 32 := by omega
  rw [e]
  constructor
  · intro h v hv
    have h1 : (p &&& (2 ^ 32 - (s + 1))).testBit v = false := by rw [h]; simp
    rw [Nat.testBit_and, hv, Nat.testBit_two_pow_sub_succ hs', Bool.true_and] at h1
    have hlt : v < 32 := by
      rcases Nat.lt_or_ge v 32 with h2 | h2
      · exact h2
      · have := Nat.testBit_lt_two_pow (x := p) (i := v) (Nat.lt_of_lt_of_le (show p < 2 ^ 32 by omega) (Nat.pow_le_pow_right (by decide) h2))
        rw [this] at hv
        cases hv
    simpa [hlt] using h1
  · intro h
    apply Nat.eq_of_testBit_eq
    intro i
    rw [Nat.testBit_and, Nat.testBit_two_pow_sub_succ hs', Nat.zero_testBit]
    cases hp' : p.testBit i
    · rfl
    · rw [h i hp']; simp

set_option maxRecDepth 100000 in
set_option maxHeartbeats 400000 in
theorem sWith_any (l : List Nat) (v : Nat) (w : World) (hl : ∀ u ∈ l, u < 8) (hv : v < 8) :
    Calls Try.prog 46 #[.int .u32 (mskN l : Nat), .int .i64 (v : Nat)] w fun e w' => e = .returned (.int .u32 (mskN (v :: l) : Nat)) ∧ w' = w := by
  have hs := msk_lt hl
  have h2 : 2 ^ v < 256 := show 2 ^ v < 2 ^ 8 from Nat.pow_lt_pow_right (by decide) hv
  have HE : Hid (bits BinOp.or IntKind.u32 (mskN l : Nat) (2 ^ v % 4294967296) = ((mskN (v :: l) : Nat) : Int)) := by
    show _ = _
    have e : ((2 : Int) ^ v % 4294967296) = ((2 ^ v : Nat) : Int) := by
      have e2 : ((2 : Int) ^ v) = ((2 ^ v : Nat) : Int) := by rw [Int.natCast_pow]; rfl
      rw [e2]
      generalize (2 ^ v : Nat) = q at *
      omega
    rw [e, u32_or_nat _ _ (by omega) (by omega)]
    rfl
  generalize mskN (v :: l) = r at *
  generalize mskN l = s at *
  go_enter Try.func46, Try.ntmps46
  go_wp2
  go_ret
  exact ⟨by rw [HE.out]; rfl, rfl⟩
set_option maxRecDepth 100000 in
set_option maxHeartbeats 400000 in
theorem sHas_any (l : List Nat) (v : Nat) (w : World) (hl : ∀ u ∈ l, u < 8) (hv : v < 8) :
    Calls Try.prog 70 #[.int .u32 (mskN l : Nat), .int .i64 (v : Nat)] w fun e w' => e = .returned (.bool (decide (v ∈ l))) ∧ w' = w := by
  have hs := msk_lt hl
  have HE : Hid ((bits BinOp.and IntKind.u32 ((mskN l : Nat) / 2 ^ v) 1 == 1) = decide (v ∈ l)) := by
    show _ = _
    have e : (((mskN l : Nat) : Int) / 2 ^ v) = ((mskN l / 2 ^ v : Nat) : Int) := by rw [Int.natCast_ediv, Int.natCast_pow]; rfl
    have hle : mskN l / 2 ^ v ≤ mskN l := Nat.div_le_self _ _
    rw [e, show (1 : Int) = ((1 : Nat) : Int) from rfl, u32_and_nat _ _ (by omega) (by omega), ← msk_bit, Bool.eq_iff_iff, ← bit_div, beq_iff_eq]
    omega
  generalize decide (v ∈ l) = r at *
  generalize mskN l = s at *
  go_enter Try.func70, Try.ntmps70
  go_wp2
  go_ret
  exact ⟨by rw [HE.out]; rfl, rfl⟩
set_option maxRecDepth 100000 in
set_option maxHeartbeats 400000 in
theorem sHolds_any (l p : List Nat) (w : World) (hl : ∀ u ∈ l, u < 8) (hp : ∀ u ∈ p, u < 8) :
    Calls Try.prog 71 #[.int .u32 (mskN l : Nat), .int .u32 (mskN p : Nat)] w fun e w' => e = .returned (.bool (decide (∀ v ∈ p, v ∈ l))) ∧ w' = w := by
  have hs := msk_lt hl
  have hq := msk_lt hp
  have HE : Hid ((bits BinOp.andNot IntKind.u32 (mskN p : Nat) (mskN l : Nat) == 0) = decide (∀ v ∈ p, v ∈ l)) := by
    show _ = _
    have hi := holds_iff hs hq
    simp only [msk_bit, decide_eq_true_eq] at hi
    rw [u32_andNot_nat _ _ (by omega) (by omega), Bool.eq_iff_iff, beq_iff_eq, decide_eq_true_iff, ← hi]
    omega
  generalize decide (∀ v ∈ p, v ∈ l) = r at *
  generalize mskN l = s at *
  generalize mskN p = t at *
  go_enter Try.func71, Try.ntmps71
  go_wp2
  go_ret
  exact ⟨by rw [HE.out]; rfl, rfl⟩

theorem toN_take (l : List Int) (i : Nat) : toN (l.take i) = (toN l).take i := by simp [toN, List.map_take]
theorem ris_small {l : List Int} {n i : Nat} (hn : n ≤ 8) (h : (List.range i).all (okAt l n) = true) (hi : i ≤ l.length) : ∀ u ∈ toN (l.take i), u < 8 := by
  intro u hu
  obtain ⟨x, hx, rfl⟩ := List.mem_map.1 hu
  obtain ⟨j, hj, rfl⟩ := List.getElem_of_mem hx
  rw [List.length_take] at hj
  have h1 := List.all_eq_true.1 h j (List.mem_range.2 (by omega))
  rw [okAt, decide_eq_true_iff, getD_eq (by omega)] at h1
  rw [List.getElem_take]
  omega
/-- What setOf answers. -/
def setA (l : List Int) (n : Nat) : Nat := if risB l n = true then mskN (toN l) else 0
set_option maxRecDepth 100000 in
set_option maxHeartbeats 1000000 in
theorem setOf_any (a : Option Addr) (cap : Nat) (l : List Int) (n : Nat) (w : World) (h : IntS w a l) (hn : l.length ≤ 140737488355328) (hnn : n ≤ 8) :
    Calls Try.prog 37 #[.slice a l.length cap, .int .i64 (n : Nat)] w fun e w' => e = .returned (.tuple #[.int .u32 (setA l n : Nat), .bool (risB l n)]) ∧ w' = w := by
  have HF := hid h
  clear h
  have HB := hid (fun i h e => risB_bad (l := l) (n := n) (i := i) h e)
  have HT : Hid ((List.range l.length).all (okAt l n) = true → risB l n = true) := id
  have HA1 : Hid (risB l n = true → setA l n = mskN (toN l)) := fun h => if_pos h
  have HA2 : Hid (risB l n = false → setA l n = 0) := fun h => if_neg (by rw [h]; decide)
  generalize risB l n = rb at *
  generalize setA l n = ra at *
  go_enter Try.func37, Try.ntmps37
  go_wp2_with fail
  go_loopw [6, 7, 12] (fun sv lv iv wr => ∃ i : Nat, i ≤ l.length ∧ iv = .int .i64 i ∧ lv = .int .i64 (least l i) ∧ sv = .int .u32 (mskN (toN (l.take i)) : Nat) ∧ Hid ((List.range i).all (okAt l n) = true) ∧ wr = w) (fun _ _ iv _ => l.length - (intOf iv).toNat)
  case atStart => exact ⟨0, Nat.zero_le _, rfl, rfl, rfl, rfl, rfl⟩
  case round =>
    obtain ⟨i, hi, rfl, rfl, rfl, HI, rfl⟩ := hrel
    by_cases hlt : i < l.length
    · obtain ⟨g, o, rfl, hg, c0⟩ := HF.out i hlt
      obtain ⟨hok, hl0⟩ := okAt_least hlt HI.out
      have HLS := hid (least_succ hlt)
      have HOK := hid hok
      have HSM := hid (ris_small hnn HI.out hi)
      have HST : Hid (∀ x : Nat, (x : Int) = l[i] → mskN (x :: toN (l.take i)) = mskN (toN (l.take (i + 1)))) := fun x hx => msk_ext fun z => by
        rw [List.take_succ_eq_append_getElem hlt, ← hx, toN, toN, List.map_append]
        simp only [List.mem_cons, List.mem_append, List.map_cons, List.map_nil, List.not_mem_nil, or_false, Int.toNat_natCast]
        exact or_comm
      clear hok
      generalize hs1 : mskN (toN (l.take (i + 1))) = s1 at *
      have HS1 := hid hs1
      clear hs1
      generalize toN (l.take i) = pre at *
      generalize least l i = m at *
      generalize l[i] = x at *
      by_cases e : m ≤ x ∧ x < n
      · have HS := hid (ris_succ HI.out (by rw [HOK.out]; exact decide_eq_true e))
        obtain ⟨e1, e2⟩ := e
        obtain ⟨X, rfl⟩ : ∃ X : Nat, x = X := ⟨x.toNat, by omega⟩
        have hst := HST.out X rfl
        go_wp2_with fail
        refine (sWith_any pre X _ HSM.out (by omega)).mono ?_
        rintro e w1 ⟨rfl, rfl⟩
        rw [hst]
        go_wp2
        go_roundw
        case rel => exact ⟨i + 1, by omega, by go_num, by rw [HLS.out], by rw [HS1.out], HS.out, trivial⟩
        case measure => simp [intOf]; omega
      · have HE := hid (HB.out i hlt (by rw [HOK.out]; exact decide_eq_false e))
        rcases (show x < m ∨ (m ≤ x ∧ (n : Int) ≤ x) by omega) with h3 | ⟨h3, h4⟩
        all_goals
          clear e
          go_wp2
          go_ret2
          exact ⟨by rw [HA2.out HE.out, HE.out]; rfl, rfl⟩
    · obtain rfl : i = l.length := by omega
      have HE := hid (HT.out HI.out)
      have HA := hid (HA1.out HE.out)
      rw [List.take_length]
      go_wp2
      go_ret2
      exact ⟨by rw [HA.out, HE.out]; rfl, rfl⟩
end Go.Proofs.Ytockhhleapbpiaa

