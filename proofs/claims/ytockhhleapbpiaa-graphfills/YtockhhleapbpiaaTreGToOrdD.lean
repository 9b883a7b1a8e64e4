/- Package graph: Tree. -/
import Derived.Test.YtockhhleapbpiaaLnkAOwn
import Derived.Test.YtockhhleapbpiaaOrdCToNeaA
namespace Go.Proofs.Ytockhhleapbpiaa
open Go.RowKit Go.Shelf

theorem own_at {w : World} {B : Nat} {e : TypeId} {s : Nat} {v : Value} {n : Nat} {xs : List Value} (h : w.ownsRow B e s v n xs) (hn : 0 < n) : ∃ g c, v = .slice (some ⟨g, 0, none⟩) n c ∧ B ≤ g ∧ g < w.heap.size ∧ ∀ j (hj : j < xs.length), w.cell? ⟨g, j, none⟩ = some xs[j] := by
  rcases h.2 with ⟨h1, h2⟩ | ⟨g', cap, cur, h1, h2, h3, h4, h5, h6, h7⟩
  · omega
  · refine ⟨g', cap, h1, h2, (Array.getElem?_eq_some_iff.1 h3).1, fun j hj => ?_⟩
    have hl : j < n * s := by have := h.1; omega
    rw [cell_of_row w g' j _ _ (0, 0) h3]
    have e' : cur[j]? = (cur.toList.take (n * s))[j]? := by
      rw [List.getElem?_take, if_pos hl, Array.getElem?_toList]
    rw [e', h7, List.getElem?_eq_getElem hj]
/-- Links in memory. -/
def LnS (w : World) (a : Option Addr) (l : List (Nat × Nat × List Int)) : Prop := ∀ k (h : k < l.length), ∃ g d cd, a = some ⟨g, 0, none⟩ ∧ g < w.heap.size ∧ w.cell? ⟨g, k * 3, none⟩ = some (.int .i64 (l[k].1 : Nat)) ∧ w.cell? ⟨g, k * 3 + 1, none⟩ = some (.int .i64 (l[k].2.1 : Nat)) ∧ w.cell? ⟨g, k * 3 + 2, none⟩ = some (.slice d l[k].2.2.length cd) ∧ IntS w d l[k].2.2
theorem LnS.below {w w' : World} {a : Option Addr} {l : List (Nat × Nat × List Int)} (h : LnS w a l) (hb : Below w.heap.size w w') : LnS w' a l := fun k hk => by
  obtain ⟨g, d, cd, h1, h2, h3, h4, h5, h6⟩ := h k hk
  exact ⟨g, d, cd, h1, Nat.lt_of_lt_of_le h2 hb.size, (hb.cell (p := ⟨g, k * 3, none⟩) h2).trans h3, (hb.cell (p := ⟨g, k * 3 + 1, none⟩) h2).trans h4, (hb.cell (p := ⟨g, k * 3 + 2, none⟩) h2).trans h5, h6.below hb⟩
theorem kC_get : ∀ (l : List PK) (k : Nat) (h : k < l.length), (kC l)[k * 3]? = some (.int .i64 (l[k].1 : Nat)) ∧ (kC l)[k * 3 + 1]? = some (.int .i64 (l[k].2.1 : Nat)) ∧ (kC l)[k * 3 + 2]? = some l[k].2.2.1
  | p :: l, 0, _ => ⟨rfl, rfl, rfl⟩
  | p :: l, k + 1, h => by
    have ih := kC_get l k (by simpa using h)
    rw [show (k + 1) * 3 = k * 3 + 1 + 1 + 1 by omega]
    exact ih
theorem LkX.links {w : World} {C : List (List Nat)} {t : Nat} {x : Value} {P : List PK} {W : World} (h : LkX w C t x P W) : ∃ d cd, x = .slice d t cd ∧ LnS W d (lkL C t) := by
  by_cases ht : 0 < t
  · obtain ⟨g, c, h1, h2, h3, h4⟩ := own_at h.own.1 (by rw [h.len]; exact ht)
    refine ⟨_, c, by rw [h1, h.len], fun k hk => ?_⟩
    have hkp : k < P.length := by rw [← h.ls, List.length_map] at hk; exact hk
    have hcl := kC_length P
    obtain ⟨q0, q1, q2⟩ := kC_get P k hkp
    obtain ⟨d, cd, e1, e2⟩ := (h.own.2 _ (List.getElem_mem hkp)).ints
    have el : (lkL C t)[k] = pk3 P[k] := by
      have := List.getElem_map pk3 (l := P) (i := k) (h := by rw [List.length_map]; exact hkp)
      rw [← this]
      congr 1
      exact h.ls.symm
    rw [el]
    have hc : ∀ j v, (kC P)[j]? = some v → W.cell? ⟨g, j, none⟩ = some v := fun j v hj => by
      obtain ⟨hjl, hje⟩ := List.getElem?_eq_some_iff.1 hj
      rw [h4 j hjl, hje]
    exact ⟨g, d, cd, rfl, h3, hc _ _ q0, hc _ _ q1, by rw [hc _ _ q2, e1]; rfl, e2⟩
  · obtain ⟨d, c, hx⟩ := h.slice
    obtain rfl : t = 0 := by omega
    exact ⟨d, c, hx, fun k hk => absurd hk (by simp [lkL])⟩
/-- A set within another is no greater a number. -/
theorem msk_sub {a b : List Nat} (h : ∀ x ∈ a, x ∈ b) : mskN a ≤ mskN b := by
  have e : mskN a &&& mskN b = mskN a := by
    rw [msk_and]
    exact msk_ext fun x => ⟨fun hx => (List.mem_filter.1 hx).1, fun hx => List.mem_filter.2 ⟨hx, decide_eq_true (h x hx)⟩⟩
  rw [← e]
  exact Nat.and_le_right
/-- Some bag stands in no other one. -/
theorem kept_some {B : List (List Nat)} (hn : 0 < B.length) (h8 : ∀ p ∈ B, ∀ u ∈ p, u < 8) : ∃ i, i < B.length ∧ keptB B i = true := by
  refine Classical.byContradiction fun hno => ?_
  have hall : ∀ i, i < B.length → ∃ j, j < B.length ∧ covB B i j = true := fun i hi => by
    refine Classical.byContradiction fun hj => hno ⟨i, hi, kept_yes fun j hjl => ?_⟩
    cases hc : covB B i j
    · rfl
    · exact absurd ⟨j, hjl, hc⟩ hj
  have key : ∀ K : Nat, ∃ i, i < B.length ∧ K ≤ mskN (B.getD i []) * (B.length + 1) + (B.length - i) := fun K => by
    induction K with
    | zero => exact ⟨0, hn, Nat.zero_le _⟩
    | succ K ih =>
      obtain ⟨i, hi, hK⟩ := ih
      obtain ⟨j, hj, hc⟩ := hall i hi
      obtain ⟨_, hs, hd⟩ := of_decide_eq_true hc
      have hle := msk_sub hs
      refine ⟨j, hj, ?_⟩
      rcases Nat.lt_or_eq_of_le hle with hlt | heq
      · have := Nat.mul_le_mul_right (B.length + 1) (show mskN (B.getD i []) + 1 ≤ mskN (B.getD j []) from hlt)
        rw [Nat.add_mul, Nat.one_mul] at this
        omega
      · have hji : j < i := by
          rcases hd with h | h
          · exact absurd heq.symm h
          · exact h
        rw [← heq]
        omega
  obtain ⟨i, hi, hK⟩ := key (256 * (B.length + 1) + B.length + 1)
  have hm : mskN (B.getD i []) < 256 := msk_lt (by
    rw [List.getD_eq_getElem?_getD, List.getElem?_eq_getElem hi]
    exact h8 _ (List.getElem_mem hi))
  have := Nat.mul_le_mul_right (B.length + 1) (Nat.le_of_lt hm)
  omega
theorem ous_pos {B : List (List Nat)} (hn : 0 < B.length) (h8 : ∀ p ∈ B, ∀ u ∈ p, u < 8) : 0 < (ousL B B.length).length := by
  obtain ⟨i, hi, hk⟩ := kept_some hn h8
  rw [ousL, List.length_map]
  exact List.length_pos_of_mem (List.mem_filter.2 ⟨List.mem_range.2 hi, hk⟩)
theorem ous_small {B : List (List Nat)} (h8 : ∀ p ∈ B, ∀ u ∈ p, u < 8) (k : Nat) : ∀ p ∈ ousL B k, ∀ u ∈ p, u < 8 := fun p hp u hu => by
  obtain ⟨i, _, rfl⟩ := List.mem_map.1 hp
  exact getD_small h8 i u hu
theorem bags_parts {L : List (List Int)} (h : bagsB L = true) : 1 ≤ L.length ∧ L.length ≤ 8 ∧ ∀ p ∈ parN L, ∀ u ∈ p, u < 8 := by
  rw [bagsB, Bool.and_eq_true, Bool.and_eq_true, decide_eq_true_iff] at h
  refine ⟨h.1.1, h.1.2, fun p hp => ?_⟩
  obtain ⟨l, hl, rfl⟩ := List.mem_map.1 hp
  exact ris_all (n := 8) (Nat.le_refl _) (List.all_eq_true.1 h.2.1 l hl)
/-- What Tree answers. -/
def TrR (L : List (List Int)) (e : Ending) (w' : World) : Prop :=
  (bagsB L = true ∧ ∃ G d cd, e = .returned (.tuple #[.slice (some ⟨G, 0, none⟩) (ousL (parN L) L.length).length (ousL (parN L) L.length).length, .slice d ((ousL (parN L) L.length).length - 1) cd, .int .i64 0]) ∧ LsS w' (some ⟨G, 0, none⟩) ((ousL (parN L) L.length).map memL) ∧ LnS w' d (lkL (ousL (parN L) L.length) ((ousL (parN L) L.length).length - 1))) ∨
  (bagsB L = false ∧ e = .returned (.tuple #[.slice none 0 0, .slice none 0 0, .int .i64 11]))

set_option maxRecDepth 100000 in
set_option maxHeartbeats 1000000 in
theorem gTree_any (a : Option Addr) (ca : Nat) (L : List (List Int)) (w : World) (h : LsS w a L) (hl : ∀ l ∈ L, l.length ≤ 140737488355328) :
    Calls Try.prog 22 #[.slice a L.length ca] w fun e w' => TrR L e w' ∧ Below w.heap.size w w' := by
  have HRB := hid (readBags_any a ca L w h hl)
  have HOU : Hid (bagsB L = true → ∀ (G : Nat) (U : World), RowU U G (masks L) → Calls Try.prog 54 #[.slice (some ⟨G, 0, none⟩) L.length L.length] U fun e w' => ∃ g m c, e = .returned (.slice (some ⟨g, 0, none⟩) (m + 1) c) ∧ (ousL (parN L) L.length).length = m + 1 ∧ m < 8 ∧ g < w'.heap.size ∧ (∀ v, v < m + 1 → w'.cell? ⟨g, v, none⟩ = some (.int .u32 (mskN ((ousL (parN L) L.length).getD v []) : Nat))) ∧ Below U.heap.size U w') := fun hb G U hU => by
    obtain ⟨h1, h8, h9⟩ := bags_parts hb
    rw [masks_par] at hU
    have e1 : (parN L).length = L.length := by simp [parN]
    refine (outermost_any G L.length L.length (parN L) U e1 h8 hU h9).mono ?_
    rintro e w' ⟨v, rfl, hv, hbl⟩
    have hp : 0 < (ousL (parN L) L.length).length := by rw [← e1]; exact ous_pos (by omega) h9
    obtain ⟨g, c, rfl, hg1, hg2, hg3⟩ := own_at hv (by rw [List.length_map]; exact hp)
    refine ⟨g, (ousL (parN L) L.length).length - 1, c, ?_, by omega, ?_, hg2, fun v hvl => ?_, hbl⟩
    · rw [List.length_map, show (ousL (parN L) L.length).length - 1 + 1 = (ousL (parN L) L.length).length by omega]
    · have := ousL_len (parN L) L.length
      omega
    · have hv2 : v < (ousL (parN L) L.length).length := by omega
      have := hg3 v (by simp; omega)
      rw [this]
      simp [List.getD_eq_getElem?_getD, List.getElem?_eq_getElem hv2, uv]
  have HSM : Hid (bagsB L = true → ∀ p ∈ ousL (parN L) L.length, ∀ u ∈ p, u < 8) := fun hb => ous_small (bags_parts hb).2.2 _
  clear h hl
  go_enter Try.func22, Try.ntmps22
  go_wp2_with fail
  refine HRB.out.mono ?_
  rintro e w1 ⟨hb, ⟨hn, G, rfl, hG, hU⟩ | ⟨hn, rfl⟩⟩
  · have HO := hid (HOU.out hn G _ hU)
    have HC8 := hid (HSM.out hn)
    have HN := hid hn
    have HB := hid hb
    clear hU hb HOU HSM hn
    generalize hC : ousL (parN L) L.length = C at *
    have HCQ := hid hC
    clear hC
    go_wp2_with fail
    refine HO.out.mono ?_
    rintro e w2 ⟨g, m, c, rfl, hlen, h8, hg, hcl, hb2⟩
    have HLI : Hid (Calls Try.prog 49 #[.slice (some ⟨g, 0, none⟩) (m + 1) c] w2 fun e w' => ∃ G, e = .returned (.slice (some ⟨G, 0, none⟩) (m + 1) (m + 1)) ∧ w2.heap.size ≤ G ∧ LsS w' (some ⟨G, 0, none⟩) (C.map memL) ∧ Below w2.heap.size w2 w') := by
      have := lists_any (some ⟨g, 0, none⟩) c C w2 HC8.out (by omega) (fun k hk => ⟨g, 0, rfl, hg, by
        rw [Nat.zero_add, hcl k (by omega), List.getD_eq_getElem?_getD, List.getElem?_eq_getElem hk]; rfl⟩)
      rw [hlen] at this
      exact this
    have HLK : Hid (∀ U : World, Below w2.heap.size w2 U → Calls Try.prog 55 #[.slice (some ⟨g, 0, none⟩) (m + 1) c] U (LkR U C)) := fun U hbU => link_any g m c C U hlen h8 (Nat.lt_of_lt_of_le hg hbU.size) (fun v hv => (hbU.cell (p := ⟨g, v, none⟩) hg).trans (hcl v hv)) HC8.out
    have HB2 := hid (HB.out.trans (hb2.mono HB.out.size))
    have HLE := hid hlen
    clear hcl hb2 hlen
    go_wp2_with fail
    refine HLI.out.mono ?_
    rintro e w3 ⟨G3, rfl, hG3, hL3, hb3⟩
    have HL3 := hid hL3
    have HK3 := hid (HLK.out w3 hb3)
    have HB3 := hid (HB2.out.trans (hb3.mono HB2.out.size))
    clear hb3 hL3 hG3
    go_wp2_with fail
    refine HK3.out.mono ?_
    rintro e w4 ⟨x, P, rfl, hX⟩
    obtain ⟨d, cd, rfl, hK⟩ := hX.links
    have HL4 := hid (HL3.out.below hX.low)
    have HB4 := hid (HB3.out.trans (hX.low.mono HB3.out.size))
    have HK := hid hK
    have hE : C.length - 1 = m := by have := HLE.out; omega
    rw [hE]
    clear hX hK hE
    go_wp2
    refine bodyPost_ret (results_tmp3 rfl _ _ _) rfl ?_
    refine ⟨.inl ⟨HN.out, G3, d, cd, ?_, by rw [HCQ.out]; exact HL4.out, by rw [HCQ.out]; exact HK.out⟩, HB4.out⟩
    rw [HCQ.out, HLE.out]
    rfl
  · have HN := hid hn
    have HB := hid hb
    clear hn hb
    go_wp2
    refine bodyPost_ret (results_tmp3 rfl _ _ _) rfl ?_
    exact ⟨.inr ⟨HN.out, rfl⟩, HB.out⟩
end Go.Proofs.Ytockhhleapbpiaa


/- The document's answer: listsOK, Order, GraphCheck. -/
namespace Go.Proofs.Ytockhhleapbpiaa
open Go.RowKit Go.Shelf

theorem inB_mem {k : Int} {l : List Int} : inB k l = true ↔ k ∈ l := by simp [inB]
theorem inB_nat {l : List Int} {x : Int} (hx : 0 ≤ x) (hl : ∀ y ∈ l, 0 ≤ y) : inB x l = decide (x.toNat ∈ toN l) := by
  rw [Bool.eq_iff_iff, decide_eq_true_iff, inB_mem]
  constructor
  · intro h; exact List.mem_map.2 ⟨x, h, rfl⟩
  · intro h
    obtain ⟨y, hy, e⟩ := List.mem_map.1 h
    have := hl y hy
    obtain rfl : y = x := by omega
    exact hy
theorem inB_iL (l : List Nat) {x : Int} (hx : 0 ≤ x) : inB x (iL l) = decide (x.toNat ∈ l) := by
  rw [inB_nat hx fun y hy => by obtain ⟨z, _, rfl⟩ := List.mem_map.1 hy; omega, toN_iL]
theorem ris_nonneg {l : List Int} {n : Nat} (h : risB l n = true) : ∀ y ∈ l, 0 ≤ y := fun y hy => by
  obtain ⟨i, hi, rfl⟩ := List.getElem_of_mem hy
  exact ((ris_up h).each i hi).1
theorem gB_ris {L : List (List Int)} {i : Nat} (h : i < L.length) (e : risB L[i] L.length = false) : gB L = false := by rw [gB, allRis_bad h e]; simp
theorem gB_self {L : List (List Int)} {i : Nat} (h : i < L.length) (e : i ∈ toN L[i]) : gB L = false := by rw [gB, noSelf_bad h e]; simp
theorem gB_yes {L : List (List Int)} (h1 : 1 ≤ L.length) (h2 : L.length ≤ 8) (h : ∀ i (hi : i < L.length), risB L[i] L.length = true ∧ ¬ i ∈ toN L[i]) : gB L = true := by
  rw [gB, decide_eq_true (p := 1 ≤ L.length ∧ L.length ≤ 8) ⟨h1, h2⟩, noSelf_good fun i hi => (h i hi).2]
  have : allRis L L.length = true := List.all_eq_true.2 fun l hl => by
    obtain ⟨i, hi, rfl⟩ := List.getElem_of_mem hl
    exact (h i hi).1
  rw [this]; rfl

set_option maxRecDepth 100000 in
set_option maxHeartbeats 1000000 in
theorem rListsOK_any (a : Option Addr) (ca : Nat) (L : List (List Int)) (w : World) (h : LsS w a L) (hl : ∀ l ∈ L, l.length ≤ 140737488355328) (hL : L.length ≤ 140737488355328) :
    Calls Try.prog 36 #[.slice a L.length ca] w fun e w' => e = .returned (.bool (gB L)) ∧ Below w.heap.size w w' := by
  have HF := hid h
  have HL := hid hl
  have HN : Hid (¬ (1 ≤ L.length ∧ L.length ≤ 8) → gB L = false) := fun h => by rw [gB, decide_eq_false h]; rfl
  have HR := hid (fun i h e => gB_ris (L := L) (i := i) h e)
  have HS := hid (fun i h e => gB_self (L := L) (i := i) h e)
  have HY := hid (fun h1 h2 h => gB_yes (L := L) h1 h2 h)
  generalize gB L = gb at *
  clear h hl
  by_cases h1 : 1 ≤ L.length
  · by_cases h8 : L.length ≤ 8
    · clear HN
      have e1 : (1 : Int) ≤ (L.length : Int) := by omega
      have e2 : (L.length : Int) ≤ 8 := by omega
      go_enter Try.func36, Try.ntmps36
      go_wp2_with fail
      go_loopw [3] (fun iv wr => ∃ i : Nat, i ≤ L.length ∧ iv = .int .i64 i ∧ Hid (∀ j (h : j < L.length), j < i → risB L[j] L.length = true ∧ ¬ j ∈ toN L[j]) ∧ Hid (Below w.heap.size w wr)) (fun iv _ => L.length - (intOf iv).toNat)
      case atStart => exact ⟨0, Nat.zero_le _, rfl, fun j _ h => absurd h (by omega), Below.refl _ _⟩
      case round =>
        obtain ⟨i, hi, rfl, HP, HB⟩ := hrel
        by_cases hlt : i < L.length
        · obtain ⟨g, o, b, c, rfl, hg, c0, hI⟩ := (HF.out.below HB.out) i hlt
          have hll := HL.out L[i] (List.getElem_mem hlt)
          have HI := hid hI
          have HRi := hid (HR.out i hlt)
          have HSi := hid (HS.out i hlt)
          have HPi : Hid (risB L[i] L.length = true → ¬ i ∈ toN L[i] → ∀ j (h : j < L.length), j < i + 1 → risB L[j] L.length = true ∧ ¬ j ∈ toN L[j]) := fun h h' j hj hji => by
            rcases Nat.lt_or_ge j i with h2 | h2
            · exact HP.out j hj h2
            · obtain rfl : j = i := by omega
              exact ⟨h, h'⟩
          clear hI
          generalize L[i] = l at *
          go_wp2_with fail
          refine (rRising_any b c l (L.length : Int) _ HI.out hll).mono ?_
          rintro e w1 ⟨rfl, hb1⟩
          have c1 := (hb1.cell (p := ⟨g, o + i, none⟩) hg).trans c0
          have HI1 := hid (HI.out.below hb1)
          have HB1 := hid (HB.out.trans (hb1.mono HB.out.size))
          clear hb1 c0 HI HB
          go_wp2_with fail
          refine (rIn_any (i : Nat) b c l _ HI1.out hll).mono ?_
          rintro e w2 ⟨rfl, rfl⟩
          cases hr : risB l L.length with
          | false =>
            have HE := hid (HRi.out hr)
            clear hr
            generalize inB (i : Nat) l = q at *
            go_wp2
            go_ret
            exact ⟨by rw [HE.out]; rfl, HB1.out⟩
          | true =>
            rw [inB_nat (by omega) (ris_nonneg hr), Int.toNat_natCast]
            by_cases hin : i ∈ toN l
            · rw [decide_eq_true hin]
              have HE := hid (HSi.out hin)
              clear hin hr
              go_wp2
              go_ret
              exact ⟨by rw [HE.out]; rfl, HB1.out⟩
            · rw [decide_eq_false hin]
              have HE := hid (HPi.out hr hin)
              clear hin hr
              go_wp2
              go_roundw
              case rel => exact ⟨i + 1, by omega, by go_num, HE, HB1⟩
              case measure => simp [intOf]; omega
        · obtain rfl : i = L.length := by omega
          have HE := hid (HY.out h1 h8 fun j hj => HP.out j hj hj)
          go_wp2
          go_ret
          exact ⟨by rw [HE.out]; rfl, HB.out⟩
    · have HE := hid (HN.out fun h => h8 h.2)
      have e1 : (1 : Int) ≤ (L.length : Int) := by omega
      have e2 : (8 : Int) < (L.length : Int) := by omega
      clear h8
      go_enter Try.func36, Try.ntmps36
      go_wp2
      go_ret
      exact ⟨by rw [HE.out]; rfl, Below.refl _ _⟩
  · have HE := hid (HN.out fun h => h1 h.1)
    have e1 : (L.length : Int) < 1 := by omega
    clear h1
    go_enter Try.func36, Try.ntmps36
    go_wp2
    go_ret
    exact ⟨by rw [HE.out]; rfl, Below.refl _ _⟩
end Go.Proofs.Ytockhhleapbpiaa

