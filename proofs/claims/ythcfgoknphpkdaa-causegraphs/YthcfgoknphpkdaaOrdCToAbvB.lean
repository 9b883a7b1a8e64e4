/- Package graph: read, Check. -/
import Derived.Test.YthcfgoknphpkdaaOrdAToListB
import Derived.Test.YthcfgoknphpkdaaMarkAToAbvA
import Derived.BigQuiet
namespace Go.Proofs.Ythcfgoknphpkdaa
open Go.RowKit Go.Shelf

theorem gB_parts {L : List (List Int)} (h : gB L = true) : 1 ≤ L.length ∧ L.length ≤ 8 ∧ allRis L L.length = true ∧ noSelf L = true := by
  rw [gB, Bool.and_eq_true, Bool.and_eq_true, decide_eq_true_iff] at h
  exact ⟨h.1.1.1, h.1.1.2, h.1.2, h.2⟩
theorem gB_par {L : List (List Int)} (h : gB L = true) : ∀ p ∈ parN L, ∀ u ∈ p, u < 8 := by
  obtain ⟨h1, h2, h3, h4⟩ := gB_parts h
  intro p hp
  obtain ⟨l, hl, rfl⟩ := List.mem_map.1 hp
  exact ris_all h2 (List.all_eq_true.1 h3 l hl)

set_option maxRecDepth 100000 in
set_option maxHeartbeats 1000000 in
theorem gRead_any (a : Option Addr) (ca : Nat) (L : List (List Int)) (w : World) (h : LsS w a L) (hl : ∀ l ∈ L, l.length ≤ 140737488355328) :
    Calls Try.prog 24 #[.slice a L.length ca] w fun e w' => Below w.heap.size w w' ∧
      ((gcE L = 0 ∧ ∃ G, e = .returned (.tuple #[.slice (some ⟨G, 0, none⟩) L.length L.length, .int .i64 0]) ∧ w.heap.size ≤ G ∧ RowU w' G (masks L)) ∨ (gcE L ≠ 0 ∧ e = .returned (.tuple #[.slice none 0 0, .int .i64 (gcE L)]))) := by
  have HF := hid h
  have HR := hid (fun (V : World) (hV : LsS V a L) => readOthers_any a ca L V hV hl)
  have HG1 : Hid (gB L = false → gcE L = 11) := fun h => if_neg (by rw [h]; decide)
  have HG2 : Hid (gB L = true → (ordN (parN L) L.length).length < L.length → gcE L = 10) := fun h1 h2 => by rw [gcE, if_pos h1, if_pos h2]
  have HG3 : Hid (gB L = true → ¬ (ordN (parN L) L.length).length < L.length → gcE L = 0) := fun h1 h2 => by rw [gcE, if_pos h1, if_neg h2]
  have HO : Hid (gB L = true → ∀ (G c : Nat) (V : World), RowU V G (masks L) → Calls Try.prog 25 #[.slice (some ⟨G, 0, none⟩) L.length c] V fun e w' => ∃ x, e = .returned x ∧ RwI w' V.heap.size x (iL (ordN (parN L) L.length)) ∧ Below V.heap.size V w') := fun hg G c V hV => by
    have h8 := (gB_parts hg).2.1
    have := order_any G c (parN L) V (by rw [← masks_par]; exact hV) (by rw [parN_length]; exact h8) (gB_par hg)
    rwa [parN_length] at this
  generalize gcE L = ge at *
  generalize masks L = ms at *
  clear h hl
  go_enter Try.func24, Try.ntmps24
  go_wp2_with fail
  refine (HR.out _ HF.out).mono ?_
  rintro e w1 ⟨hb, ⟨hg, G, rfl, hG, hU⟩ | ⟨hg, v, rfl⟩⟩
  · have HUU := hid hU
    have HOG := hid (HO.out hg G L.length)
    have HB := hid hb
    have HGG := hid hg
    clear hU hb hg HO HR
    go_wp2_with fail
    refine (HOG.out _ HUU.out).mono ?_
    rintro e w2 ⟨x, rfl, hx, hb2⟩
    obtain ⟨d, cd, rfl, _⟩ := hx.ints
    have HB2 := hid (HB.out.trans (hb2.mono HB.out.size))
    have HU2 := hid (HUU.out.below hb2 HUU.out.lt)
    have HLL : Hid ((iL (ordN (parN L) L.length)).length = (ordN (parN L) L.length).length) := iL_length _
    clear hx hb2
    by_cases hlt : (ordN (parN L) L.length).length < L.length
    · have HE := hid (HG2.out HGG.out hlt)
      have hlt' : (iL (ordN (parN L) L.length)).length < L.length := by rw [HLL.out]; exact hlt
      clear hlt
      generalize (iL (ordN (parN L) L.length)).length = m at *
      go_wp2
      go_ret2
      exact ⟨HB2.out, .inr ⟨by rw [HE.out]; decide, by rw [HE.out]; rfl⟩⟩
    · have HE := hid (HG3.out HGG.out hlt)
      have hlt' : ¬ (iL (ordN (parN L) L.length)).length < L.length := by rw [HLL.out]; exact hlt
      clear hlt
      generalize (iL (ordN (parN L) L.length)).length = m at *
      go_wp2
      go_ret2
      exact ⟨HB2.out, .inl ⟨HE.out, G, rfl, hG, HU2.out⟩⟩
  · have HE := hid (HG1.out hg)
    have HB := hid hb
    clear hg hb
    go_wp2
    go_ret2
    exact ⟨HB.out, .inr ⟨by rw [HE.out]; decide, by rw [HE.out]; rfl⟩⟩
set_option maxRecDepth 100000 in
set_option maxHeartbeats 1000000 in
theorem gCheck_any (a : Option Addr) (ca : Nat) (L : List (List Int)) (w : World) (h : LsS w a L) (hl : ∀ l ∈ L, l.length ≤ 140737488355328) :
    Calls Try.prog 9 #[.slice a L.length ca] w fun e w' => e = .returned (.int .i64 (gcE L)) ∧ Below w.heap.size w w' := by
  have HF := hid h
  have HR := hid (fun (V : World) (hV : LsS V a L) => gRead_any a ca L V hV hl)
  generalize gcE L = ge at *
  clear h hl
  go_enter Try.func9, Try.ntmps9
  go_wp2_with fail
  refine (HR.out _ HF.out).mono ?_
  rintro e w1 ⟨hb, ⟨rfl, G, rfl, hG, hU⟩ | ⟨hg, rfl⟩⟩
  · clear hU
    go_wp2
    go_ret
    exact ⟨rfl, hb⟩
  · clear hg
    go_wp2
    go_ret
    exact ⟨rfl, hb⟩
end Go.Proofs.Ythcfgoknphpkdaa


/- Package graph: readNear, Fill. -/
namespace Go.Proofs.Ythcfgoknphpkdaa
open Go.RowKit Go.Shelf

theorem dec_ne {l1 l2 : List Nat} {i : Nat} (h1 : i < l1.length) (h2 : i < l2.length) (h : l1[i] ≠ l2[i]) : decide (l1 = l2) = false := decide_eq_false fun e => h (by subst e; rfl)
theorem dec_eq {l1 l2 : List Nat} (hl : l1.length = l2.length) (h : ∀ i (h1 : i < l1.length) (h2 : i < l2.length), l1[i] = l2[i]) : decide (l1 = l2) = true := decide_eq_true (List.ext_getElem hl h)
/-- Neighbours of neighbours. -/
def nearB (L : List (List Int)) : Bool := gB L && decide (masks L = (chA (parN L) L.length L.length).map mskN)
theorem par_lt {L : List (List Int)} (h : gB L = true) : ∀ p ∈ parN L, ∀ u ∈ p, u < L.length := by
  obtain ⟨_, _, hr, _⟩ := gB_parts h
  intro p hp u hu
  obtain ⟨l, hl, rfl⟩ := List.mem_map.1 hp
  obtain ⟨x, hx, rfl⟩ := List.mem_map.1 hu
  obtain ⟨i, hi, rfl⟩ := List.getElem_of_mem hl
  have h2 := ris_up (allRis_at hr hi)
  obtain ⟨j, hj, rfl⟩ := List.getElem_of_mem hx
  have := h2.each j hj
  omega
theorem nbr_of {L : List (List Int)} (h : gB L = true) : Nbr L.length (parN L) := by
  refine ⟨parN_length L, par_lt h, fun u hu => ?_⟩
  obtain ⟨_, _, _, hs⟩ := gB_parts h
  by_cases hl : u < L.length
  · rw [parN_get hl] at hu
    rw [noSelf_bad hl hu] at hs
    cases hs
  · rw [List.getD_eq_getElem?_getD, List.getElem?_eq_none (by rw [parN_length]; omega)] at hu
    simp at hu

theorem RwU.cells {w : World} {B : Nat} {v : Value} {l : List Nat} (h : RwU w B v l) : ∃ d cd, v = .slice d l.length cd ∧ ∀ k (hk : k < l.length), ∃ g o, d = some ⟨g, o, none⟩ ∧ g < w.heap.size ∧ w.cell? ⟨g, o + k, none⟩ = some (.int .u32 (l[k] : Nat)) := by
  rcases h.2 with ⟨h1, h2⟩ | ⟨g, cap, cur, h1, h2, h3, h4, h5, h6, h7⟩
  · have : l = [] := List.length_eq_zero_iff.1 h2
    subst this
    exact ⟨none, 0, h1, fun k hk => absurd hk (by simp)⟩
  · refine ⟨_, _, h1, fun j hj => ⟨g, 0, rfl, (Array.getElem?_eq_some_iff.1 h3).1, ?_⟩⟩
    rw [Nat.zero_add, cell_of_row w g j _ _ (0, 0) h3]
    have e : cur[j]? = (cur.toList.take (l.length * 1))[j]? := by
      rw [List.getElem?_take, if_pos (by omega), Array.getElem?_toList]
    rw [e, h7, List.getElem?_map, List.getElem?_eq_getElem hj]
    rfl
/-- What Fill answers. -/
def FlR (L : List (List Int)) (e : Ending) (w' : World) : Prop :=
  (nearB L = true ∧ ∃ d cd G, e = .returned (.tuple #[.slice d L.length cd, .slice (some ⟨G, 0, none⟩) L.length L.length, .int .i64 0]) ∧ IntS w' d (iL (flS (parN L) L.length L.length).ord) ∧ LsS w' (some ⟨G, 0, none⟩) ((flS (parN L) L.length L.length).bag.map memL)) ∨
  (nearB L = false ∧ e = .returned (.tuple #[.slice none 0 0, .slice none 0 0, .int .i64 11]))

end Go.Proofs.Ythcfgoknphpkdaa


/- Package graph: Above. -/
namespace Go.Proofs.Ythcfgoknphpkdaa
open Go.RowKit Go.Shelf

/-- What Above answers. -/
def AbR (L : List (List Int)) (l : List Int) (e : Ending) (w' : World) : Prop :=
  (gcE L ≠ 0 ∧ e = .returned (.tuple #[.slice none 0 0, .int .i64 (gcE L)])) ∨
  (gcE L = 0 ∧ risB l L.length = false ∧ e = .returned (.tuple #[.slice none 0 0, .int .i64 11])) ∨
  (gcE L = 0 ∧ risB l L.length = true ∧ ∃ d cd, e = .returned (.tuple #[.slice d (memL (abS (parN L) (toN l) L.length)).length cd, .int .i64 0]) ∧ IntS w' d (memL (abS (parN L) (toN l) L.length)))
theorem gcE_gB {L : List (List Int)} (h : gcE L = 0) : gB L = true := by
  rw [gcE] at h
  by_cases e : gB L = true
  · exact e
  · rw [if_neg e] at h
    exact absurd h (by decide)

set_option maxRecDepth 100000 in
set_option maxHeartbeats 1000000 in
theorem gAbove_any (a b : Option Addr) (ca cb : Nat) (L : List (List Int)) (l : List Int) (w : World) (h : LsS w a L) (hl : ∀ l ∈ L, l.length ≤ 140737488355328) (hb : IntS w b l) (hll : l.length ≤ 140737488355328) :
    Calls Try.prog 11 #[.slice a L.length ca, .slice b l.length cb] w fun e w' => AbR L l e w' ∧ Below w.heap.size w w' := by
  have HR := hid (gRead_any a ca L w h hl)
  have HB := hid hb
  have HSO := hid (fun (U : World) (hU : IntS U b l) (hn : L.length ≤ 8) => setOf_any b cb l L.length U hU hll hn)
  have HAB : Hid (gcE L = 0 → risB l L.length = true → ∀ (G c : Nat) (U : World), RowU U G (masks L) → Calls Try.prog 29 #[.slice (some ⟨G, 0, none⟩) L.length c, .int .u32 (mskN (toN l) : Nat)] U fun e w' => e = .returned (.int .u32 (mskN (abS (parN L) (toN l) L.length) : Nat)) ∧ Below U.heap.size U w') := fun hg hr G c U hU => by
    rw [masks_par] at hU
    have hgb := gcE_gB hg
    exact above_any G L.length c (parN L) (toN l) U (parN_length L) (gB_parts hgb).2.1 hU (par_lt hgb) (fun u hu => by
      obtain ⟨x, hx, rfl⟩ := List.mem_map.1 hu
      obtain ⟨j, hj, rfl⟩ := List.getElem_of_mem hx
      have := (ris_up hr).each j hj
      omega)
  have HLI : Hid (gcE L = 0 → risB l L.length = true → ∀ U : World, Calls Try.prog 30 #[.int .u32 (mskN (abS (parN L) (toN l) L.length) : Nat)] U fun e w' => ∃ v, e = .returned v ∧ RwI w' U.heap.size v (iL (memU (abS (parN L) (toN l) L.length) 8)) ∧ Below U.heap.size U w') := fun hg hr U => list_any _ U (fun u hu => by
    have hgb := gcE_gB hg
    have h8 := (gB_parts hgb).2.1
    have := abS_lt (n := L.length) (P := parN L) (s := toN l) (fun v u hu => (nbr_of hgb).at v u hu) (fun u hu => by
      obtain ⟨x, hx, rfl⟩ := List.mem_map.1 hu
      obtain ⟨j, hj, rfl⟩ := List.getElem_of_mem hx
      have := (ris_up hr).each j hj
      omega) L.length u hu
    omega)
  have HSA : Hid (risB l L.length = true → setA l L.length = mskN (toN l)) := setA_yes
  clear h hl hb
  go_enter Try.func11, Try.ntmps11
  go_wp2_with fail
  refine HR.out.mono ?_
  rintro e w1 ⟨hb1, ⟨hg, G, rfl, hG, hU⟩ | ⟨hg, rfl⟩⟩
  · have h8 := (gB_parts (gcE_gB hg)).2.1
    have HS := hid (HSO.out w1 (HB.out.below hb1) h8)
    have HU := hid hU
    have HB1 := hid hb1
    have HG0 := hid hg
    clear hU hb1 HSO hg
    cases hr : risB l L.length with
    | false =>
      rw [hr] at HS
      have HRF := hid hr
      clear hr HAB HLI HSA
      generalize setA l L.length = sa at *
      go_wp2_with fail
      refine HS.out.mono ?_
      rintro e w2 ⟨rfl, hw2⟩
      subst hw2
      go_wp2
      go_ret2
      exact ⟨.inr (.inl ⟨HG0.out, HRF.out, rfl⟩), HB1.out⟩
    | true =>
      rw [hr, HSA.out hr] at HS
      have HRT := hid hr
      have HA := hid (HAB.out HG0.out hr G L.length)
      have HL := hid (HLI.out HG0.out hr)
      clear hr HAB HLI HSA
      generalize hab : abS (parN L) (toN l) L.length = ab at *
      have HABQ := hid hab
      clear hab
      generalize mskN (toN l) = m0 at *
      go_wp2_with fail
      refine HS.out.mono ?_
      rintro e w2 ⟨rfl, hw2⟩
      subst hw2
      go_wp2_with fail
      refine (HA.out _ HU.out).mono ?_
      rintro e w3 ⟨rfl, hb3⟩
      have HB3 := hid (HB1.out.trans (hb3.mono HB1.out.size))
      clear hb3
      go_wp2_with fail
      refine (HL.out _).mono ?_
      rintro e w4 ⟨v, rfl, hv, hb4⟩
      obtain ⟨d, cd, rfl, hI⟩ := hv.ints
      have HI := hid hI
      have HB4 := hid (HB3.out.trans (hb4.mono HB3.out.size))
      clear hv hI hb4
      go_wp2
      go_ret2
      exact ⟨.inr (.inr ⟨HG0.out, HRT.out, d, cd, by rw [HABQ.out]; rfl, by rw [HABQ.out]; exact HI.out⟩), HB4.out⟩
  · have HGN := hid hg
    have HB1 := hid hb1
    have hgb : (gcE L == 0) = false := by simpa using hg
    clear hg hb1 HAB HLI HSA HSO
    generalize hge : gcE L = ge at *
    have HGE := hid hge
    clear hge
    go_wp2
    go_ret2
    exact ⟨.inl ⟨by rw [HGE.out]; exact HGN.out, by rw [HGE.out]; rfl⟩, HB1.out⟩
end Go.Proofs.Ythcfgoknphpkdaa

