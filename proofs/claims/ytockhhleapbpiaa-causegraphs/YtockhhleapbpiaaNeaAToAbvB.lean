/- Package graph: readNear, Fill. -/
import Derived.Test.YtockhhleapbpiaaChiAOwn
import Derived.Test.YtockhhleapbpiaaAbvAToOrdC
import Derived.BigQuiet
namespace Go.Proofs.Ytockhhleapbpiaa
open Go.RowKit Go.Shelf

theorem dec_neG {l1 l2 : List Nat} {i : Nat} (h1 : i < l1.length) (h2 : i < l2.length) (h : l1[i] ≠ l2[i]) : decide (l1 = l2) = false := decide_eq_false fun e => h (by subst e; rfl)
theorem dec_eq {l1 l2 : List Nat} (hl : l1.length = l2.length) (h : ∀ i (h1 : i < l1.length) (h2 : i < l2.length), l1[i] = l2[i]) : decide (l1 = l2) = true := decide_eq_true (List.ext_getElem hl h)
set_option maxRecDepth 100000 in
set_option maxHeartbeats 1000000 in
theorem setsEq_any (G1 G2 n c1 c2 : Nat) (l1 l2 : List Nat) (w : World) (e1 : l1.length = n) (e2 : l2.length = n) (hn : n ≤ 5000) (h1 : RowU w G1 l1) (h2 : RowU w G2 l2) :
    Calls Try.prog 75 #[.slice (some ⟨G1, 0, none⟩) n c1, .slice (some ⟨G2, 0, none⟩) n c2] w fun e w' => e = .returned (.bool (decide (l1 = l2))) ∧ Below w.heap.size w w' := by
  have H1 := hid h1
  have H2 := hid h2
  have HN := hid (fun i (a : i < l1.length) (b : i < l2.length) h => dec_neG a b h)
  have HE := hid (fun h => dec_eq (l1 := l1) (l2 := l2) (by omega) h)
  generalize decide (l1 = l2) = r at *
  clear h1 h2
  go_enter Try.func75, Try.ntmps75
  go_wp2_with fail
  go_loopw [13] (fun iv wr => ∃ i : Nat, i ≤ n ∧ iv = .int .i64 i ∧ Hid (∀ j (a : j < l1.length) (b : j < l2.length), j < i → l1[j] = l2[j]) ∧ Hid (Below w.heap.size w wr)) (fun iv _ => n - (intOf iv).toNat)
  case atStart => exact ⟨0, Nat.zero_le _, rfl, fun j _ _ h => absurd h (by omega), Below.refl _ _⟩
  case round =>
    obtain ⟨i, hi, rfl, HI, HB⟩ := hrel
    by_cases hlt : i < n
    · have a1 := (H1.out.below HB.out H1.out.lt).cell i (by omega)
      have a2 := (H2.out.below HB.out H2.out.lt).cell i (by omega)
      have HNi := hid (HN.out i (by omega) (by omega))
      have HS : Hid (l1[i]'(by omega) = l2[i]'(by omega) → ∀ j (a : j < l1.length) (b : j < l2.length), j < i + 1 → l1[j] = l2[j]) := fun h j a b hj => by
        rcases Nat.lt_or_ge j i with h3 | h3
        · exact HI.out j a b h3
        · obtain rfl : j = i := by omega
          exact h
      generalize l1[i]'(by omega) = x at *
      generalize l2[i]'(by omega) = y at *
      go_upto_region 6 with fail
      go_quiet (fail)
      have HBn := hid (below_drewN HB.out nq)
      clear a1 a2
      generalize wr.drewN nq = w2 at *
      by_cases hxy : x = y
      · have HS2 := hid (HS.out hxy)
        subst hxy
        go_wp2
        go_roundw
        case rel => exact ⟨i + 1, by omega, by go_num, HS2, HBn⟩
        case measure => simp [intOf]; omega
      · have HR := hid (HNi.out hxy)
        have hb : ((x : Int) != (y : Int)) = true := by
          have : ¬ (x : Int) = (y : Int) := by omega
          simpa using this
        clear hxy
        go_wp2
        go_ret
        exact ⟨by rw [HR.out]; rfl, HBn.out⟩
    · obtain rfl : i = n := by omega
      have HR := hid (HE.out fun j a b => HI.out j a b (by omega))
      go_wp2
      go_ret
      exact ⟨by rw [HR.out]; rfl, HB.out⟩
/-- Neighbours of neighbours. -/
def nearB (L : List (List Int)) : Bool := gB L && decide (masks L = (chA (parN L) L.length L.length).map mskN)
theorem par_lt {L : List (List Int)} (h : gB L = true) : ∀ p ∈ parN L, ∀ u ∈ p, u < L.length := by
  obtain ⟨_, _, hr, _⟩ := gB_parts h
  intro p hp u hu
  obtain ⟨l, hl, rfl⟩ := List.mem_map.1 hp
  obtain ⟨x, hx, rfl⟩ := List.mem_map.1 hu
  obtain ⟨i, hi, rfl⟩ := List.getElem_of_mem hl
  have h2 := ris_up (allRis_at hr hi)
  obtain ⟨j, hj, rfl⟩ := List.getElem_of_mem hx
  have := h2.each j hj
  omega
theorem nbr_of {L : List (List Int)} (h : gB L = true) : Nbr L.length (parN L) := by
  refine ⟨parN_length L, par_lt h, fun u hu => ?_⟩
  obtain ⟨_, _, _, hs⟩ := gB_parts h
  by_cases hl : u < L.length
  · rw [parN_get hl] at hu
    rw [noSelf_bad hl hu] at hs
    cases hs
  · rw [List.getD_eq_getElem?_getD, List.getElem?_eq_none (by rw [parN_length]; omega)] at hu
    simp at hu

set_option maxRecDepth 100000 in
set_option maxHeartbeats 1000000 in
theorem readNear_any (a : Option Addr) (ca : Nat) (L : List (List Int)) (w : World) (h : LsS w a L) (hl : ∀ l ∈ L, l.length ≤ 140737488355328) :
    Calls Try.prog 50 #[.slice a L.length ca] w fun e w' => Below w.heap.size w w' ∧
      ((nearB L = true ∧ ∃ G, e = .returned (.tuple #[.slice (some ⟨G, 0, none⟩) L.length L.length, .bool true]) ∧ w.heap.size ≤ G ∧ RowU w' G (masks L)) ∨ (nearB L = false ∧ e = .returned (.tuple #[.slice none 0 0, .bool false]))) := by
  have HRO := hid (readOthers_any a ca L w h hl)
  have HNB : Hid (nearB L = (gB L && decide (masks L = (chA (parN L) L.length L.length).map mskN))) := rfl
  have HCH : Hid (gB L = true → ∀ (G : Nat) (U : World), RowU U G (masks L) → Calls Try.prog 73 #[.slice (some ⟨G, 0, none⟩) L.length L.length] U fun e w' => e = .returned (.slice (some ⟨U.heap.size, 0, none⟩) L.length L.length) ∧ RowU w' U.heap.size ((chA (parN L) L.length L.length).map mskN) ∧ Below U.heap.size U w') := fun hg G U hU => by
    rw [masks_par] at hU
    exact children_any G L.length L.length (parN L) U (parN_length L) (gB_parts hg).2.1 hU (par_lt hg)
  have HEQ : Hid (gB L = true → ∀ (G1 G2 : Nat) (U : World), RowU U G1 (masks L) → RowU U G2 ((chA (parN L) L.length L.length).map mskN) → Calls Try.prog 75 #[.slice (some ⟨G1, 0, none⟩) L.length L.length, .slice (some ⟨G2, 0, none⟩) L.length L.length] U fun e w' => e = .returned (.bool (decide (masks L = (chA (parN L) L.length L.length).map mskN))) ∧ Below U.heap.size U w') := fun hg G1 G2 U h1 h2 => setsEq_any G1 G2 L.length L.length L.length _ _ U (masks_length L) (by rw [List.length_map, chA_length]) (by have := (gB_parts hg).2.1; omega) h1 h2
  generalize nearB L = nb at *
  generalize decide (masks L = (chA (parN L) L.length L.length).map mskN) = dq at *
  generalize (chA (parN L) L.length L.length).map mskN = cm at *
  clear h hl
  go_enter Try.func50, Try.ntmps50
  go_wp2_with fail
  refine HRO.out.mono ?_
  rintro e w1 ⟨hb, ⟨hg, G, rfl, hG, hU⟩ | ⟨hg, v, rfl⟩⟩
  · have HC := hid (HCH.out hg G)
    have HE := hid (HEQ.out hg G)
    rw [hg] at HNB
    have HU := hid hU
    have HB := hid hb
    clear hU hb HCH HEQ
    go_wp2_with fail
    refine (HC.out _ HU.out).mono ?_
    rintro e w2 ⟨rfl, hr2, hb2⟩
    have HU2 := hid (HU.out.below hb2 HU.out.lt)
    have HR2 := hid hr2
    have HB2 := hid (HB.out.trans (hb2.mono HB.out.size))
    clear hr2 hb2 HC
    go_wp2_with fail
    refine (HE.out _ _ HU2.out HR2.out).mono ?_
    rintro e w3 ⟨rfl, hb3⟩
    have HU3 := hid (HU2.out.below hb3 HU2.out.lt)
    have HB3 := hid (HB2.out.trans (hb3.mono HB2.out.size))
    clear hb3 HE
    cases dq
    · go_wp2
      go_ret2
      exact ⟨HB3.out, .inr ⟨HNB.out, rfl⟩⟩
    · go_wp2
      go_ret2
      exact ⟨HB3.out, .inl ⟨HNB.out, G, rfl, hG, HU3.out⟩⟩
  · rw [hg] at HNB
    have HB := hid hb
    clear hb HCH HEQ hg
    go_wp2
    go_ret2
    exact ⟨HB.out, .inr ⟨HNB.out, rfl⟩⟩
theorem RwU.cells {w : World} {B : Nat} {v : Value} {l : List Nat} (h : RwU w B v l) : ∃ d cd, v = .slice d l.length cd ∧ ∀ k (hk : k < l.length), ∃ g o, d = some ⟨g, o, none⟩ ∧ g < w.heap.size ∧ w.cell? ⟨g, o + k, none⟩ = some (.int .u32 (l[k] : Nat)) := by
  rcases h.2 with ⟨h1, h2⟩ | ⟨g, cap, cur, h1, h2, h3, h4, h5, h6, h7⟩
  · have : l = [] := List.length_eq_zero_iff.1 h2
    subst this
    exact ⟨none, 0, h1, fun k hk => absurd hk (by simp)⟩
  · refine ⟨_, _, h1, fun j hj => ⟨g, 0, rfl, (Array.getElem?_eq_some_iff.1 h3).1, ?_⟩⟩
    rw [Nat.zero_add, cell_of_row w g j _ _ (0, 0) h3]
    have e : cur[j]? = (cur.toList.take (l.length * 1))[j]? := by
      rw [List.getElem?_take, if_pos (by omega), Array.getElem?_toList]
    rw [e, h7, List.getElem?_map, List.getElem?_eq_getElem hj]
    rfl
/-- What Fill answers. -/
def FlR (L : List (List Int)) (e : Ending) (w' : World) : Prop :=
  (nearB L = true ∧ ∃ d cd G, e = .returned (.tuple #[.slice d L.length cd, .slice (some ⟨G, 0, none⟩) L.length L.length, .int .i64 0]) ∧ IntS w' d (iL (flS (parN L) L.length L.length).ord) ∧ LsS w' (some ⟨G, 0, none⟩) ((flS (parN L) L.length L.length).bag.map memL)) ∨
  (nearB L = false ∧ e = .returned (.tuple #[.slice none 0 0, .slice none 0 0, .int .i64 11]))

set_option maxRecDepth 100000 in
set_option maxHeartbeats 1000000 in
theorem gFill_any (a : Option Addr) (ca : Nat) (L : List (List Int)) (w : World) (h : LsS w a L) (hl : ∀ l ∈ L, l.length ≤ 140737488355328) :
    Calls Try.prog 20 #[.slice a L.length ca] w fun e w' => FlR L e w' ∧ Below w.heap.size w w' := by
  have HRN := hid (readNear_any a ca L w h hl)
  have HFI : Hid (nearB L = true → ∀ (G : Nat) (U : World), RowU U G (masks L) → Calls Try.prog 51 #[.slice (some ⟨G, 0, none⟩) L.length L.length] U fun e w' => ∃ nv bv, e = .returned (.tuple #[nv, bv]) ∧ FXg U w' G nv bv (iL (flS (parN L) L.length L.length).ord) ((flS (parN L) L.length L.length).bag.map mskN) ((flS (parN L) L.length L.length).nei.map mskN)) := fun hn G U hU => by
    have hg : gB L = true := by
      rw [nearB, Bool.and_eq_true] at hn
      exact hn.1
    rw [masks_par] at hU
    exact gfill_any G L.length L.length (parN L) U (gB_parts hg).1 (gB_parts hg).2.1 hU (nbr_of hg)
  have HOK : Hid (nearB L = true → (flS (parN L) L.length L.length).ord.length = L.length ∧ (flS (parN L) L.length L.length).bag.length = L.length ∧ L.length ≤ 8 ∧ ∀ p ∈ (flS (parN L) L.length L.length).bag, ∀ u ∈ p, u < 8) := fun hn => by
    have hg : gB L = true := by
      rw [nearB, Bool.and_eq_true] at hn
      exact hn.1
    have h8 := (gB_parts hg).2.1
    have h1 := (gB_parts hg).1
    have hk := fun k => flS_ok (nbr_of hg) k
    refine ⟨(hk L.length).2.2.1, (hk L.length).2.2.2, h8, ?_⟩
    have key : ∀ k, ∀ p ∈ (flS (parN L) L.length k).bag, ∀ u ∈ p, u < 8 := fun k => by
      induction k with
      | zero => intro p hp; simp [flS] at hp
      | succ k ih =>
        intro p hp u hu
        rw [flS] at hp
        rcases List.mem_append.1 hp with hp | hp
        · exact ih p hp u hu
        · rw [List.mem_singleton.1 hp] at hu
          rcases List.mem_cons.1 hu with rfl | hu
          · have := fewV_lt (P := (flS (parN L) L.length k).nei) h1 (hk k).2.1
            omega
          · have := (hk k).1.at _ u hu
            omega
    exact key _
  clear h hl
  go_enter Try.func20, Try.ntmps20
  go_wp2_with fail
  refine HRN.out.mono ?_
  rintro e w1 ⟨hb, ⟨hn, G, rfl, hG, hU⟩ | ⟨hn, rfl⟩⟩
  · have HF := hid (HFI.out hn G _ hU)
    obtain ⟨ho, hbl, h8, hb8⟩ := HOK.out hn
    have HN := hid hn
    have HB := hid hb
    have HB8 := hid hb8
    clear hU hb HFI HOK hn hb8
    generalize hS : flS (parN L) L.length L.length = S at *
    have HSQ := hid hS
    clear hS
    go_wp2_with fail
    refine HF.out.mono ?_
    rintro e w2 ⟨nv, bv, rfl, hX⟩
    obtain ⟨d, cd, rfl, hI⟩ := hX.nd.ints
    obtain ⟨d2, cd2, rfl, hC⟩ := hX.bg.cells
    have HB2 : Hid (Below w.heap.size w w2) := ⟨hX.grow.os.trans HB.out.os, hX.grow.tape.trans HB.out.tape, hX.grow.output.trans HB.out.output, Nat.le_trans HB.out.size hX.grow.size, fun k hk => (hX.grow.block k (Nat.lt_of_lt_of_le hk HB.out.size) (fun e => by have := Option.some.inj e; omega)).trans (HB.out.block k hk)⟩
    have e1 : (iL S.ord).length = L.length := by rw [iL_length]; exact ho
    have e2 : (S.bag.map mskN).length = L.length := by rw [List.length_map]; exact hbl
    rw [e1, e2]
    have HLI := hid (lists_any d2 cd2 S.bag w2 HB8.out (by omega) (fun k hk => by
      obtain ⟨g, o, h1, h2, h3⟩ := hC k (by rw [List.length_map]; exact hk)
      exact ⟨g, o, h1, h2, by rw [h3, List.getElem_map]⟩))
    rw [hbl] at HLI
    have HI := hid hI
    clear hX hI hC e1 e2
    go_wp2_with fail
    refine HLI.out.mono ?_
    rintro e w3 ⟨G3, rfl, hG3, hL3, hb3⟩
    have HI3 := hid (HI.out.below hb3)
    have HL3 := hid hL3
    have HB3 := hid (HB2.out.trans (hb3.mono HB2.out.size))
    clear hb3 hL3
    go_wp2
    refine bodyPost_ret (results_tmp3 rfl _ _ _) rfl ?_
    exact ⟨.inl ⟨HN.out, d, cd, G3, rfl, by rw [HSQ.out]; exact HI3.out, by rw [HSQ.out]; exact HL3.out⟩, HB3.out⟩
  · have HN := hid hn
    have HB := hid hb
    clear hn hb
    go_wp2
    refine bodyPost_ret (results_tmp3 rfl _ _ _) rfl ?_
    exact ⟨.inr ⟨HN.out, rfl⟩, HB.out⟩
end Go.Proofs.Ytockhhleapbpiaa


/- Package graph: Above. -/
namespace Go.Proofs.Ytockhhleapbpiaa
open Go.RowKit Go.Shelf

/-- What Above answers. -/
def AbR (L : List (List Int)) (l : List Int) (e : Ending) (w' : World) : Prop :=
  (gcE L ≠ 0 ∧ e = .returned (.tuple #[.slice none 0 0, .int .i64 (gcE L)])) ∨
  (gcE L = 0 ∧ risB l L.length = false ∧ e = .returned (.tuple #[.slice none 0 0, .int .i64 11])) ∨
  (gcE L = 0 ∧ risB l L.length = true ∧ ∃ d cd, e = .returned (.tuple #[.slice d (memL (abS (parN L) (toN l) L.length)).length cd, .int .i64 0]) ∧ IntS w' d (memL (abS (parN L) (toN l) L.length)))
theorem gcE_gB {L : List (List Int)} (h : gcE L = 0) : gB L = true := by
  rw [gcE] at h
  by_cases e : gB L = true
  · exact e
  · rw [if_neg e] at h
    exact absurd h (by decide)

set_option maxRecDepth 100000 in
set_option maxHeartbeats 1000000 in
theorem gAbove_any (a b : Option Addr) (ca cb : Nat) (L : List (List Int)) (l : List Int) (w : World) (h : LsS w a L) (hl : ∀ l ∈ L, l.length ≤ 140737488355328) (hb : IntS w b l) (hll : l.length ≤ 140737488355328) :
    Calls Try.prog 13 #[.slice a L.length ca, .slice b l.length cb] w fun e w' => AbR L l e w' ∧ Below w.heap.size w w' := by
  have HR := hid (gRead_any a ca L w h hl)
  have HB := hid hb
  have HSO := hid (fun (U : World) (hU : IntS U b l) (hn : L.length ≤ 8) => setOf_any b cb l L.length U hU hll hn)
  have HAB : Hid (gcE L = 0 → risB l L.length = true → ∀ (G c : Nat) (U : World), RowU U G (masks L) → Calls Try.prog 38 #[.slice (some ⟨G, 0, none⟩) L.length c, .int .u32 (mskN (toN l) : Nat)] U fun e w' => e = .returned (.int .u32 (mskN (abS (parN L) (toN l) L.length) : Nat)) ∧ Below U.heap.size U w') := fun hg hr G c U hU => by
    rw [masks_par] at hU
    have hgb := gcE_gB hg
    exact above_any G L.length c (parN L) (toN l) U (parN_length L) (gB_parts hgb).2.1 hU (par_lt hgb) (fun u hu => by
      obtain ⟨x, hx, rfl⟩ := List.mem_map.1 hu
      obtain ⟨j, hj, rfl⟩ := List.getElem_of_mem hx
      have := (ris_up hr).each j hj
      omega)
  have HLI : Hid (gcE L = 0 → risB l L.length = true → ∀ U : World, Calls Try.prog 39 #[.int .u32 (mskN (abS (parN L) (toN l) L.length) : Nat)] U fun e w' => ∃ v, e = .returned v ∧ RwI w' U.heap.size v (iL (memU (abS (parN L) (toN l) L.length) 8)) ∧ Below U.heap.size U w') := fun hg hr U => list_any _ U (fun u hu => by
    have hgb := gcE_gB hg
    have h8 := (gB_parts hgb).2.1
    have := abS_lt (n := L.length) (P := parN L) (s := toN l) (fun v u hu => (nbr_of hgb).at v u hu) (fun u hu => by
      obtain ⟨x, hx, rfl⟩ := List.mem_map.1 hu
      obtain ⟨j, hj, rfl⟩ := List.getElem_of_mem hx
      have := (ris_up hr).each j hj
      omega) L.length u hu
    omega)
  have HSA : Hid (risB l L.length = true → setA l L.length = mskN (toN l)) := setA_yes
  clear h hl hb
  go_enter Try.func13, Try.ntmps13
  go_wp2_with fail
  refine HR.out.mono ?_
  rintro e w1 ⟨hb1, ⟨hg, G, rfl, hG, hU⟩ | ⟨hg, rfl⟩⟩
  · have h8 := (gB_parts (gcE_gB hg)).2.1
    have HS := hid (HSO.out w1 (HB.out.below hb1) h8)
    have HU := hid hU
    have HB1 := hid hb1
    have HG0 := hid hg
    clear hU hb1 HSO hg
    cases hr : risB l L.length with
    | false =>
      rw [hr] at HS
      have HRF := hid hr
      clear hr HAB HLI HSA
      generalize setA l L.length = sa at *
      go_wp2_with fail
      refine HS.out.mono ?_
      rintro e w2 ⟨rfl, hw2⟩
      subst hw2
      go_wp2
      go_ret2
      exact ⟨.inr (.inl ⟨HG0.out, HRF.out, rfl⟩), HB1.out⟩
    | true =>
      rw [hr, HSA.out hr] at HS
      have HRT := hid hr
      have HA := hid (HAB.out HG0.out hr G L.length)
      have HL := hid (HLI.out HG0.out hr)
      clear hr HAB HLI HSA
      generalize hab : abS (parN L) (toN l) L.length = ab at *
      have HABQ := hid hab
      clear hab
      generalize mskN (toN l) = m0 at *
      go_wp2_with fail
      refine HS.out.mono ?_
      rintro e w2 ⟨rfl, hw2⟩
      subst hw2
      go_wp2_with fail
      refine (HA.out _ HU.out).mono ?_
      rintro e w3 ⟨rfl, hb3⟩
      have HB3 := hid (HB1.out.trans (hb3.mono HB1.out.size))
      clear hb3
      go_wp2_with fail
      refine (HL.out _).mono ?_
      rintro e w4 ⟨v, rfl, hv, hb4⟩
      obtain ⟨d, cd, rfl, hI⟩ := hv.ints
      have HI := hid hI
      have HB4 := hid (HB3.out.trans (hb4.mono HB3.out.size))
      clear hv hI hb4
      go_wp2
      go_ret2
      exact ⟨.inr (.inr ⟨HG0.out, HRT.out, d, cd, by rw [HABQ.out]; rfl, by rw [HABQ.out]; exact HI.out⟩), HB4.out⟩
  · have HGN := hid hg
    have HB1 := hid hb1
    have hgb : (gcE L == 0) = false := by simpa using hg
    clear hg hb1 HAB HLI HSA HSO
    generalize hge : gcE L = ge at *
    have HGE := hid hge
    clear hge
    go_wp2
    go_ret2
    exact ⟨.inl ⟨by rw [HGE.out]; exact HGN.out, by rw [HGE.out]; rfl⟩, HB1.out⟩
end Go.Proofs.Ytockhhleapbpiaa

