/- The law GraphTrees: its walk. -/
import Derived.Test.YtockhhleapbpiaaRtHToGtrA
import Derived.Deep.QuietTactic
import Derived.BigQuiet
namespace Go.Proofs.Ytockhhleapbpiaa
open Go.RowKit Go.Shelf

/-- Does one below k have it? -/
def anyK (f : Nat → Bool) : Nat → Bool
  | 0 => false
  | k + 1 => anyK f k || f k
theorem anyK_true {f : Nat → Bool} {k : Nat} : ∀ {n : Nat}, k < n → f k = true → anyK f n = true
  | n + 1, h, hf => by
    rw [anyK]
    by_cases e : k = n
    · rw [← e, hf, Bool.or_true]
    · rw [anyK_true (by omega) hf, Bool.true_or]
theorem lkL_len (C : List (List Nat)) : ∀ t, (lkL C t).length = t
  | 0 => rfl
  | t + 1 => by rw [lkL, List.length_append, lkL_len C t]; rfl
theorem lkL_lt {C : List (List Nat)} (h : 0 < C.length) : ∀ t, ∀ p ∈ lkL C t, p.1 < C.length ∧ p.2.1 < C.length
  | 0, p, hp => by cases hp
  | t + 1, p, hp => by
    rw [lkL] at hp
    rcases List.mem_append.1 hp with hp | hp
    · exact lkL_lt h t p hp
    · rw [List.mem_singleton.1 hp]
      exact nrI_lt h (thR_lt h t) 8
/-- What is to be known of a graph: bags, cliques, links. -/
def bagsL (N : List (List Int)) : List (List Int) := (flS (parN N) N.length N.length).bag.map memL
def clqL (N : List (List Int)) : List (List Nat) := ousL (parN (bagsL N)) (bagsL N).length
structure GtOK (N : List (List Int)) : Prop where
  near : nearB N = true
  len : (bagsL N).length = N.length
  bags : bagsB (bagsL N) = true
  node : ∀ v, v < N.length → ∃ k, k < (clqL N).length ∧ (v : Int) ∈ memL ((clqL N).getD k [])
  edge : ∀ v, v < N.length → ∀ x ∈ N.getD v [], ∃ k, k < (clqL N).length ∧ (v : Int) ∈ memL ((clqL N).getD k []) ∧ x ∈ memL ((clqL N).getD k [])
  full : ∀ v : Int, v = -1 ∨ (0 ≤ v ∧ v < (N.length : Int)) → 0 < (witL ((clqL N).map memL) v (clqL N).length).length
  con : ∀ v : Int, v = -1 ∨ (0 ≤ v ∧ v < (N.length : Int)) → ∀ S : Nat → Prop, S ((witL ((clqL N).map memL) v (clqL N).length).getD 0 0) → (∀ x, S x → ∀ p ∈ lkL (clqL N) ((clqL N).length - 1), ∀ b, oth x p = some b → b ∈ witL ((clqL N).map memL) v (clqL N).length → S b) → ∀ x ∈ witL ((clqL N).map memL) v (clqL N).length, S x

set_option maxRecDepth 100000 in
set_option maxHeartbeats 40000000 in
theorem graphTrees_any (a : Option Addr) (ca : Nat) (E : List Int) (z : Int) (w : World) (hE : IntS w a E) (hEl : E.length ≤ 140737488355328) (hEb : ∀ x ∈ E, -9223372036854775808 ≤ x ∧ x ≤ 9223372036854775807) (hz : -9223372036854775808 ≤ z ∧ z ≤ 9223372036854775807) (hok : ∀ n, 1 ≤ n → n ≤ 8 → GtOK (nrN E n)) :
    Calls Try.prog 5 #[.slice a E.length ca, .int .i64 z] w fun e w' => e = .returned (.bool true) ∧ Below w.heap.size w w' := by
  obtain ⟨i0, hi0, hz0, hz1, hz2⟩ := info_parts Try.infoInts1
  have HE := hid hE
  have HEB := hid hEb
  have HOK := hid hok
  have HPZ := hid (rPick_any z 8 w hz.1 hz.2 (by omega) (by omega))
  have HPK := hid (fun (x : Int) (hx : x ∈ E) (U : World) => rPick_any x 3 U (hEb x hx).1 (hEb x hx).2 (by omega) (by omega))
  have hzl : pickN z 8 < 8 := pickN_lt z (by omega)
  generalize pickN z 8 = z8 at *
  clear hE hEb hok hz
  by_cases hbig : 256 < E.length
  · go_enter Try.func5, Try.ntmps5
    go_wp2
    go_ret
    exact ⟨rfl, Below.refl _ _⟩
  have hsm : E.length ≤ 256 := by omega
  clear hbig
  go_enter Try.func5, Try.ntmps5
  go_wp2_with fail
  refine HPZ.out.mono ?_
  rintro e w1 ⟨rfl, hb1⟩
  have HE1 := hid (HE.out.below hb1)
  have HB1 := hid hb1
  clear hb1 HE HPZ
  obtain ⟨n, hn⟩ : ∃ n : Nat, n = 1 + z8 := ⟨_, rfl⟩
  have hn1 : 1 ≤ n := by omega
  have hn8 : n ≤ 8 := by omega
  have hni : (1 : Int) + (z8 : Int) = (n : Int) := by omega
  have HOKn := hid (HOK.out n hn1 hn8)
  clear HOK hzl hn
  go_wp2_with (first
    | (at_make; refine wpList_make_full _ rfl _ _ 22 rfl w1.heap.size 23 i0 (.slice none 0 0) 1 Try.underlying22 hi0 hz0 hz1 .i64 .i64 _ _ n rfl rfl (by go_num) (by go_num) (by rw [hz2]; omega) (by unfold maxLen; omega) (Nat.le_refl _) ?_; intro w2 hown2 hgrow2))
  have hb2 := block_of_own hown2
  rw [made_slices] at hb2
  have HM0 : Hid (NM w1 E n 0 (List.replicate n (.slice none 0 0)) w2) := ⟨by simp, hb2, fun j h => absurd h (by omega), fun j _ h => by rw [List.getElem?_replicate, if_pos h], (Below.refl _ w1).grown hgrow2 (Nat.le_refl _) (fun k e => by cases e)⟩
  clear hown2 hgrow2 hb2
  go_wp2_with fail
  go_loopw [6] (fun vv wr => ∃ (v : Nat) (vs : List Value), v ≤ n ∧ vv = .int .i64 v ∧ Hid (NM w1 E n v vs wr)) (fun vv _ => n - (intOf vv).toNat)
  case atStart => exact ⟨0, _, Nat.zero_le _, rfl, HM0⟩
  case round =>
    obtain ⟨v, vs, hv, rfl, HM⟩ := hrel
    clear HM0
    by_cases hvn : v < n
    · have HI0 := hid (NI.start HM.out hvn)
      clear HM
      generalize wr = U at *
      go_wp2_with fail
      go_loopw [7] (fun uv wr => ∃ (u : Nat) (x : Value), u ≤ n ∧ uv = .int .i64 u ∧ Hid (NI w1 E n v u vs U x wr)) (fun uv _ => n - (intOf uv).toNat)
      case atStart => exact ⟨0, _, Nat.zero_le _, rfl, HI0⟩
      case round =>
        obtain ⟨u, x, hu, rfl, HI⟩ := hrel
        clear HI0
        by_cases hun : u < n
        · have hvu : v < 8 := by omega
          have huu : u < 8 := by omega
          obtain ⟨dx, cx, rfl, -⟩ := HI.out.own.ints
          have HEE : Hid (eB E v u = (decide (u ≠ v) && (decide (0 < E.length) && decide (pickN (E.getD ((min u v * 7 + max u v * 3) % E.length) 0) 3 = 0)))) := rfl
          have HSK := hid (fun h => HI.out.skip h)
          by_cases huv : v < u
          · have hmi : min u v = v := by omega
            have hma : max u v = u := by omega
            have hne : u ≠ v := by omega
            have hnei : (((u : Nat) : Int) == ((v : Nat) : Int)) = false := beq_eq_false_iff_ne.2 (by omega)
            rw [hmi, hma, decide_eq_true hne, Bool.true_and] at HEE
            by_cases hE0 : 0 < E.length
            · have hE0' : ¬ (((E.length : Nat) : Int) = 0) := by omega
              have hEn : ¬ E = [] := fun e => by rw [e] at hE0; exact absurd hE0 (by decide)
              have hlt : (v * 7 + u * 3) % E.length < E.length := Nat.mod_lt _ hE0
              have HPX := hid (HPK.out (E[(v * 7 + u * 3) % E.length]) (List.getElem_mem hlt))
              obtain ⟨ge, oe, hae, hge, ce⟩ := (HE1.out.below HI.out.low) ((v * 7 + u * 3) % E.length) hlt
              rw [List.getD_eq_getElem?_getD, List.getElem?_eq_getElem hlt, Option.getD_some, decide_eq_true hE0, Bool.true_and] at HEE
              have hid1 : ((v : Int) * 7 + (u : Int) * 3) % (E.length : Int) = ((((v * 7 + u * 3) % E.length : Nat)) : Int) := by rw [Int.natCast_emod]; rfl
              generalize E[(v * 7 + u * 3) % E.length] = ex at *
              have hidl : (v * 7 + u * 3) % E.length < E.length := hlt
              generalize hix : (v * 7 + u * 3) % E.length = ix at *
              clear hix
              generalize pickN ex 3 = pk at *
              subst hae
              by_cases hpk : pk = 0
              · subst hpk
                have HED : Hid (eB E v u = true) := by show _ = _; rw [HEE.out]; rfl
                clear HEE HSK
                have hln := nrP_len E v u
                go_wp2_with (first | (go_at_call 25; refine (HPX.out _).mono ?_; rintro e w4 ⟨rfl, hb4⟩; have HI4 := hid (HI.out.below hb4); have k4 := HI4.out.row.cell v (by rw [List.length_set, HI4.out.len]; exact hvn); rw [List.getElem_set_self] at k4; have HI5 := hid (HI4.out.below ((Below.refl _ w4).alloc (Nat.le_refl _) (.cells #[.int .i64 (u : Nat)] 3))); have HIA := hid (one_int w4 (u : Nat))) | (at_builtin; refine wpList_append_ints rfl _ _ rfl U.heap.size _ (iL (nrP E v u)) [((u : Nat) : Int)] rfl HI5.out.own (some ⟨w4.heap.size, 0, none⟩) 1 rfl HIA.out (fun e => by cases e) (by rw [iL_length]; simp; omega) (Nat.le_trans HI5.out.size (Nat.le_refl _)) ?_; intro v' w5 hr5 hg5; obtain ⟨d5, cd5, rfl, _⟩ := hr5.ints; have hgr := (HI5.out.grow hg5).1; have k5 := hgr.cell v (by rw [List.length_set, HI5.out.len]; exact hvn); have f5 := hgr.fz v; rw [List.getElem_set_self] at k5))
                have hS := HI5.out.push HED.out hr5 hg5
                rw [show (iL (nrP E v u) ++ [(u : Int)]).length = (iL (nrP E v u)).length + 1 by simp] at hS
                have HS := hid hS
                clear hr5 hg5 hgr hS
                go_wp2
                go_roundw
                case rel => exact ⟨u + 1, _, by omega, by go_num, HS⟩
                case measure => simp [intOf]; omega
              · have hpk' : ((pk : Int) == 0) = false := beq_eq_false_iff_ne.2 (by omega)
                have HED : Hid (eB E v u = false) := by show _ = _; rw [HEE.out, decide_eq_false hpk]
                clear HEE
                clear HSK
                go_wp2_with (go_at_call 25; refine (HPX.out _).mono ?_; rintro e w4 ⟨rfl, hb4⟩; have HI4 := hid (HI.out.below hb4); skip)
                have HS := hid (HI4.out.skip HED.out)
                go_wp2
                go_roundw
                case rel => exact ⟨u + 1, _, by omega, by go_num, HS⟩
                case measure => simp [intOf]; omega
            · have hE0i : decide ((0 : Int) < ((E.length : Nat) : Int)) = false := decide_eq_false (by omega)
              have HS := hid (HSK.out (by rw [HEE.out, decide_eq_false hE0]; rfl))
              clear HEE HSK
              go_wp2_with fail
              go_roundw
              case rel => exact ⟨u + 1, _, by omega, by go_num, HS⟩
              case measure => simp [intOf]; omega
          · have hmi : min u v = u := by omega
            have hma : max u v = v := by omega
            by_cases hne : u = v
            · subst hne
              have HS := hid (HSK.out (by rw [HEE.out]; simp))
              clear HEE HSK
              go_wp2_with fail
              go_roundw
              case rel => exact ⟨u + 1, _, by omega, by go_num, HS⟩
              case measure => simp [intOf]; omega
            · have hnei : (((u : Nat) : Int) == ((v : Nat) : Int)) = false := beq_eq_false_iff_ne.2 (by omega)
              rw [hmi, hma, decide_eq_true hne, Bool.true_and] at HEE
              by_cases hE0 : 0 < E.length
              · have hE0' : ¬ (((E.length : Nat) : Int) = 0) := by omega
                have hEn : ¬ E = [] := fun e => by rw [e] at hE0; exact absurd hE0 (by decide)
                have hlt : (u * 7 + v * 3) % E.length < E.length := Nat.mod_lt _ hE0
                have HPX := hid (HPK.out (E[(u * 7 + v * 3) % E.length]) (List.getElem_mem hlt))
                obtain ⟨ge, oe, hae, hge, ce⟩ := (HE1.out.below HI.out.low) ((u * 7 + v * 3) % E.length) hlt
                rw [List.getD_eq_getElem?_getD, List.getElem?_eq_getElem hlt, Option.getD_some, decide_eq_true hE0, Bool.true_and] at HEE
                have hid1 : ((u : Int) * 7 + (v : Int) * 3) % (E.length : Int) = ((((u * 7 + v * 3) % E.length : Nat)) : Int) := by rw [Int.natCast_emod]; rfl
                generalize E[(u * 7 + v * 3) % E.length] = ex at *
                have hidl : (u * 7 + v * 3) % E.length < E.length := hlt
                generalize hix : (u * 7 + v * 3) % E.length = ix at *
                clear hix
                generalize pickN ex 3 = pk at *
                subst hae
                by_cases hpk : pk = 0
                · subst hpk
                  have HED : Hid (eB E v u = true) := by show _ = _; rw [HEE.out]; rfl
                  clear HEE HSK
                  have hln := nrP_len E v u
                  go_wp2_with (first | (go_at_call 25; refine (HPX.out _).mono ?_; rintro e w4 ⟨rfl, hb4⟩; have HI4 := hid (HI.out.below hb4); have k4 := HI4.out.row.cell v (by rw [List.length_set, HI4.out.len]; exact hvn); rw [List.getElem_set_self] at k4; have HI5 := hid (HI4.out.below ((Below.refl _ w4).alloc (Nat.le_refl _) (.cells #[.int .i64 (u : Nat)] 3))); have HIA := hid (one_int w4 (u : Nat))) | (at_builtin; refine wpList_append_ints rfl _ _ rfl U.heap.size _ (iL (nrP E v u)) [((u : Nat) : Int)] rfl HI5.out.own (some ⟨w4.heap.size, 0, none⟩) 1 rfl HIA.out (fun e => by cases e) (by rw [iL_length]; simp; omega) (Nat.le_trans HI5.out.size (Nat.le_refl _)) ?_; intro v' w5 hr5 hg5; obtain ⟨d5, cd5, rfl, _⟩ := hr5.ints; have hgr := (HI5.out.grow hg5).1; have k5 := hgr.cell v (by rw [List.length_set, HI5.out.len]; exact hvn); have f5 := hgr.fz v; rw [List.getElem_set_self] at k5))
                  have hS := HI5.out.push HED.out hr5 hg5
                  rw [show (iL (nrP E v u) ++ [(u : Int)]).length = (iL (nrP E v u)).length + 1 by simp] at hS
                  have HS := hid hS
                  clear hr5 hg5 hgr hS
                  go_wp2
                  go_roundw
                  case rel => exact ⟨u + 1, _, by omega, by go_num, HS⟩
                  case measure => simp [intOf]; omega
                · have hpk' : ((pk : Int) == 0) = false := beq_eq_false_iff_ne.2 (by omega)
                  have HED : Hid (eB E v u = false) := by show _ = _; rw [HEE.out, decide_eq_false hpk]
                  clear HEE
                  clear HSK
                  go_wp2_with (go_at_call 25; refine (HPX.out _).mono ?_; rintro e w4 ⟨rfl, hb4⟩; have HI4 := hid (HI.out.below hb4); skip)
                  have HS := hid (HI4.out.skip HED.out)
                  go_wp2
                  go_roundw
                  case rel => exact ⟨u + 1, _, by omega, by go_num, HS⟩
                  case measure => simp [intOf]; omega
              · have hE0i : decide ((0 : Int) < ((E.length : Nat) : Int)) = false := decide_eq_false (by omega)
                have HS := hid (HSK.out (by rw [HEE.out, decide_eq_false hE0]; rfl))
                clear HEE HSK
                go_wp2_with fail
                go_roundw
                case rel => exact ⟨u + 1, _, by omega, by go_num, HS⟩
                case measure => simp [intOf]; omega
        · obtain rfl : u = n := by omega
          have HF := hid HI.out.fin
          clear HI
          go_wp2
          go_roundw
          case rel => exact ⟨v + 1, _, by omega, by go_num, HF⟩
          case measure => simp [intOf]; omega
    · obtain rfl : v = n := by omega
      have HLS := hid HM.out.lists
      have HB2 := hid (HB1.out.trans (HM.out.low.mono HB1.out.size))
      have hNl : (nrN E v).length = v := by simp [nrN]
      have HFL : Hid (Calls Try.prog 20 #[.slice (some ⟨w1.heap.size, 0, none⟩) v v] wr fun e w' => FlR (nrN E v) e w' ∧ Below wr.heap.size wr w') := by
        have := gFill_any (some ⟨w1.heap.size, 0, none⟩) v (nrN E v) wr HLS.out (fun l hl => by
          obtain ⟨x, hx, rfl⟩ := List.mem_map.1 hl
          have := nrP_len E x v
          rw [iL_length]
          omega)
        rwa [hNl] at this
      have HFR : Hid (∀ e w', FlR (nrN E v) e w' → ∃ d cd G, e = .returned (.tuple #[.slice d v cd, .slice (some ⟨G, 0, none⟩) v v, .int .i64 0]) ∧ LsS w' (some ⟨G, 0, none⟩) (bagsL (nrN E v))) := fun e w' h => by
        rcases h with ⟨_, d, cd, G, h1, _, h3⟩ | ⟨h, _⟩
        · rw [hNl] at h1
          exact ⟨d, cd, G, h1, h3⟩
        · rw [HOKn.out.near] at h
          cases h
      have hbl : (bagsL (nrN E v)).length = v := by rw [HOKn.out.len, hNl]
      have HBL : Hid (∀ l ∈ bagsL (nrN E v), l.length ≤ 140737488355328) := fun l hl => by
        obtain ⟨x, _, rfl⟩ := List.mem_map.1 hl
        have := memU_len x 8
        rw [memL, iL_length]
        omega
      have HTR : Hid (∀ (G : Nat) (U : World), LsS U (some ⟨G, 0, none⟩) (bagsL (nrN E v)) → Calls Try.prog 22 #[.slice (some ⟨G, 0, none⟩) v v] U fun e w' => (∃ H d cd, e = .returned (.tuple #[.slice (some ⟨H, 0, none⟩) (clqL (nrN E v)).length (clqL (nrN E v)).length, .slice d ((clqL (nrN E v)).length - 1) cd, .int .i64 0]) ∧ LsS w' (some ⟨H, 0, none⟩) ((clqL (nrN E v)).map memL) ∧ LnS w' d (lkL (clqL (nrN E v)) ((clqL (nrN E v)).length - 1))) ∧ Below U.heap.size U w') := fun G U hU => by
        have := gTree_any (some ⟨G, 0, none⟩) v (bagsL (nrN E v)) U hU HBL.out
        rw [hbl] at this
        refine this.mono ?_
        rintro e w' ⟨h | ⟨h, _⟩, hb⟩
        · obtain ⟨_, H, d, cd, h1, h2, h3⟩ := h
          exact ⟨⟨H, d, cd, h1, h2, h3⟩, hb⟩
        · rw [HOKn.out.bags] at h
          cases h
      clear HM HEB HPK hNl hbl HBL
      go_wp2_with fail
      refine HFL.out.mono ?_
      rintro e w3 ⟨hfr, hb3⟩
      obtain ⟨d3, cd3, G3, rfl, hL3⟩ := HFR.out e w3 hfr
      have HT3 := hid (HTR.out G3 w3 hL3)
      have HLS3 := hid (HLS.out.below hb3)
      have HB3 := hid (HB2.out.trans (hb3.mono HB2.out.size))
      clear hfr hb3 hL3 HFR HTR HFL HLS HB2
      go_wp2_with fail
      refine HT3.out.mono ?_
      rintro e w4 ⟨⟨H4, d4, cd4, rfl, hL4, hK4⟩, hb4⟩
      have HLS4 := hid (HLS3.out.below hb4)
      have HB4 := hid (HB3.out.trans (hb4.mono HB3.out.size))
      have HL4 := hid hL4
      have HK4 := hid hK4
      clear hL4 hK4 hb4 HLS3 HB3 HT3
      have HNO := hid HOKn.out.node
      have HED := hid HOKn.out.edge
      have HFU := hid HOKn.out.full
      have HCO := hid HOKn.out.con
      have HNL : Hid ((nrN E v).length = v) := by show _ = _; simp [nrN]
      have hcp : 0 < (clqL (nrN E v)).length := by
        have h1 := HFU.out (-1) (.inl rfl)
        have h2 := witL_len ((clqL (nrN E v)).map memL) (-1) (clqL (nrN E v)).length
        omega
      have HCL8 : Hid ((clqL (nrN E v)).length ≤ 8) := by
        have h1 := ousL_len (parN (bagsL (nrN E v))) (bagsL (nrN E v)).length
        have h2 := HOKn.out.len
        have h3 := HNL.out
        show (clqL (nrN E v)).length ≤ 8
        rw [clqL]
        omega
      have HXL8 : Hid (∀ q (h : q < (nrN E v).length), (nrN E v)[q].length ≤ 8) := fun q h => by
        have e : (nrN E v)[q] = iL (nrP E q v) := by simp [nrN]
        have := nrP_len E q v
        rw [e, iL_length]
        omega
      clear HOKn
      generalize hNN : nrN E v = N at *
      generalize clqL N = C at *
      obtain ⟨m, hm⟩ : ∃ m, C.length = m + 1 := ⟨C.length - 1, by omega⟩
      rw [hm] at HNO HED HFU HCO HK4 ⊢
      rw [Nat.add_sub_cancel] at HCO HK4 ⊢
      have HLM := hid hm
      have HM8 : Hid (m + 1 ≤ 8) := by show m + 1 ≤ 8; rw [← hm]; exact HCL8.out
      have HLL : Hid (∀ p ∈ lkL C m, p.1 < m + 1 ∧ p.2.1 < m + 1) := fun p hp => by have := lkL_lt (C := C) (by omega) m p hp; rwa [HLM.out] at this
      have HCV : Hid (∀ U : World, Below w4.heap.size w4 U → ∀ k, k < m + 1 → ∃ b c, U.cell? ⟨H4, k, none⟩ = some (.slice b (memL (C.getD k [])).length c) ∧ IntS U b (memL (C.getD k []))) := fun U hb k hk => by
        obtain ⟨gn, on, bn, cn, en, hgn, c0, hIn⟩ := (HL4.out.below hb) k (by rw [List.length_map, HLM.out]; exact hk)
        cases en
        rw [Nat.zero_add] at c0
        rw [List.getElem_map] at c0 hIn
        rw [List.getD_eq_getElem?_getD, List.getElem?_eq_getElem (by rw [HLM.out]; exact hk), Option.getD_some]
        exact ⟨bn, cn, c0, hIn⟩
      have HC8 : Hid (∀ k, (memL (C.getD k [])).length ≤ 8) := fun k => by rw [memL, iL_length]; exact memU_len _ _
      have HIN := hid (fun (x : Int) (a' : Option Addr) (c' : Nat) (l : List Int) (U : World) (hi : IntS U a' l) (hn : l.length ≤ 1000) => rIn_any x a' c' l U hi (by omega))
      have hm8 : m ≤ 7 := by have := HM8.out; omega
      have HCN : Hid (∀ (x : Int) (U : World), Below w4.heap.size w4 U → (x = -1 ∨ (0 ≤ x ∧ x < (v : Int))) → Calls Try.prog 27 #[.slice (some ⟨H4, 0, none⟩) (m + 1) (m + 1), .slice d4 m cd4, .int .i64 x] U fun e w' => e = .returned (.bool true) ∧ Below U.heap.size U w') := fun x U hb hx => by
        have e1 : (C.map memL).length = m + 1 := by rw [List.length_map, HLM.out]
        have e2 : (lkL C m).length = m := lkL_len C m
        have hx' : x = -1 ∨ (0 ≤ x ∧ x < (N.length : Int)) := by rw [HNL.out]; exact hx
        have := connected_any (some ⟨H4, 0, none⟩) (m + 1) (C.map memL) d4 cd4 (lkL C m) x U (HL4.out.below hb) (by omega) (fun l hl => by
          obtain ⟨y, _, rfl⟩ := List.mem_map.1 hl
          have := memU_len y 8
          rw [memL, iL_length]
          omega) (HK4.out.below hb) (by omega) (by rw [e1]; exact HFU.out x hx') (by rw [e1]; exact HCO.out x hx')
        rwa [e1, e2] at this
      clear hm hcp hNN
      go_wp2_with fail
      go_loopw [16] (fun qv wr => ∃ q : Nat, q ≤ v ∧ qv = .int .i64 q ∧ Hid (Below w4.heap.size w4 wr)) (fun qv _ => v - (intOf qv).toNat)
      case atStart => exact ⟨0, Nat.zero_le _, rfl, Below.refl _ _⟩
      case round =>
        obtain ⟨q, hq, rfl, HBQ⟩ := hrel
        by_cases hqv : q < v
        · have hqN : q < N.length := by rw [HNL.out]; exact hqv
          have HNq := hid (HNO.out q hqN)
          have HEq := hid (HED.out q hqN)
          rw [List.getD_eq_getElem?_getD, List.getElem?_eq_getElem hqN, Option.getD_some] at HEq
          have hxl : N[q].length ≤ 8 := HXL8.out q hqN
          have HXV : Hid (∀ U : World, Below w4.heap.size w4 U → ∃ b c, U.cell? ⟨w1.heap.size, q, none⟩ = some (.slice b N[q].length c) ∧ IntS U b N[q]) := fun U hb => by
            obtain ⟨gn, on, bn, cn, en, hgn, c0, hIn⟩ := (HLS4.out.below hb) q hqN
            cases en
            rw [Nat.zero_add] at c0
            exact ⟨bn, cn, c0, hIn⟩
          generalize N[q] = X at *
          clear hqN
          obtain ⟨bn, cn, c0, -⟩ := HXV.out wr HBQ.out
          go_wp2_with fail
          go_loopw [17] (fun iv wq => ∃ j : Nat, j ≤ X.length + 1 ∧ iv = .int .i64 ((j : Int) - 1) ∧ Hid (Below w4.heap.size w4 wq)) (fun iv _ => X.length + 1 - (intOf iv + 1).toNat)
          case atStart => exact ⟨0, Nat.zero_le _, rfl, HBQ⟩
          case round =>
            obtain ⟨j, hj, rfl, HBJ⟩ := hrel
            clear HBQ c0
            obtain ⟨bn, cn, c0, hIX⟩ := HXV.out wr HBJ.out
            by_cases hjl : j < X.length + 1
            · cases j with
              | zero =>
                have hj0 : ((0 : Nat) : Int) - 1 = -1 := rfl
                rw [hj0]
                have hlx : (-1 : Int) < (X.length : Int) := by omega
                have HTR : Hid (anyK (fun k' => inB (q : Int) (memL (C.getD k' []))) (m + 1) = true) := by
                  obtain ⟨k, hk, hm⟩ := HNq.out
                  exact anyK_true hk (inB_mem.2 hm)
                go_wp2_with fail
                go_loopw [18, 19] (fun bv kv wq => ∃ k : Nat, k ≤ m + 1 ∧ kv = .int .i64 k ∧ bv = .bool (anyK (fun k' => inB (q : Int) (memL (C.getD k' []))) k) ∧ Hid (Below w4.heap.size w4 wq)) (fun _ kv _ => m + 1 - (intOf kv).toNat)
                case atStart => exact ⟨0, Nat.zero_le _, rfl, rfl, HBJ⟩
                case round =>
                  obtain ⟨k, hk, rfl, rfl, HBK⟩ := hrel
                  clear c0 hIX HBJ
                  by_cases hkm : k < m + 1
                  · obtain ⟨b, cb, ck, hIk⟩ := HCV.out wr HBK.out k hkm
                    have HIk := hid (fun n' => HIN.out (q : Int) b cb _ (wr.drewN n') (hIk.below (below_drewN (Below.refl _ wr) n')) (by have := HC8.out k; omega))
                    have HAN : Hid (anyK (fun k' => inB (q : Int) (memL (C.getD k' []))) (k + 1) = (anyK (fun k' => inB (q : Int) (memL (C.getD k' []))) k || inB (q : Int) (memL (C.getD k [])))) := rfl
                    have HBD := hid (fun n' => below_drewN HBK.out n')
                    generalize (memL (C.getD k [])).length = lk at *
                    generalize inB (q : Int) (memL (C.getD k [])) = bq at *
                    clear HTR
                    generalize anyK (fun k' => inB (q : Int) (memL (C.getD k' []))) = ak at *
                    clear hIk
                    generalize hak : ak k = ac at *
                    clear hak
                    cases ac <;> cases bq
                    all_goals
                      go_wp2_with fail
                      go_quiet ((go_at_call 26; refine Calls.quiet_of_same (HIk.out _)))
                      go_wp2
                      go_roundw
                      case rel => exact ⟨k + 1, by omega, by go_num, by rw [HAN.out]; rfl, HBD.out _⟩
                      case measure => simp [intOf]; omega
                  · obtain rfl : k = m + 1 := by omega
                    rw [HTR.out]
                    go_wp2
                    go_roundw
                    case rel => exact ⟨1, by omega, rfl, HBK⟩
                    case measure => simp [intOf]
              | succ j =>
                have hjx : j < X.length := by omega
                have hj1 : ((j + 1 : Nat) : Int) - 1 = (j : Int) := by omega
                rw [hj1]
                have hlx : (j : Int) < (X.length : Int) := by omega
                have HXJ : Hid (∀ U : World, Below w4.heap.size w4 U → ∃ g o c, U.cell? ⟨w1.heap.size, q, none⟩ = some (.slice (some ⟨g, o, none⟩) X.length c) ∧ U.cell? ⟨g, o + j, none⟩ = some (.int .i64 X[j])) := fun U hb => by
                  obtain ⟨b, c, h1, h2⟩ := HXV.out U hb
                  obtain ⟨g, o, h3, h4, h5⟩ := h2 j hjx
                  rw [h3] at h1
                  exact ⟨g, o, c, h1, h5⟩
                have HTR : Hid (anyK (fun k' => inB (q : Int) (memL (C.getD k' [])) && inB X[j] (memL (C.getD k' []))) (m + 1) = true) := by
                  obtain ⟨k, hk, h1, h2⟩ := HEq.out X[j] (List.getElem_mem hjx)
                  exact anyK_true hk (by rw [inB_mem.2 h1, inB_mem.2 h2]; rfl)
                generalize X[j] = xj at *
                go_wp2_with fail
                go_loopw [18, 19] (fun bv kv wq => ∃ k : Nat, k ≤ m + 1 ∧ kv = .int .i64 k ∧ bv = .bool (anyK (fun k' => inB (q : Int) (memL (C.getD k' [])) && inB xj (memL (C.getD k' []))) k) ∧ Hid (Below w4.heap.size w4 wq)) (fun _ kv _ => m + 1 - (intOf kv).toNat)
                case atStart => exact ⟨0, Nat.zero_le _, rfl, rfl, HBJ⟩
                case round =>
                  obtain ⟨k, hk, rfl, rfl, HBK⟩ := hrel
                  clear c0 hIX HBJ
                  by_cases hkm : k < m + 1
                  · obtain ⟨b, cb, ck, hIk⟩ := HCV.out wr HBK.out k hkm
                    obtain ⟨gx, ox, cx, cx0, cx1⟩ := HXJ.out wr HBK.out
                    have HIk := hid (fun n' => HIN.out (q : Int) b cb _ (wr.drewN n') (hIk.below (below_drewN (Below.refl _ wr) n')) (by have := HC8.out k; omega))
                    have HIx := hid (fun n' => HIN.out xj b cb _ (wr.drewN n') (hIk.below (below_drewN (Below.refl _ wr) n')) (by have := HC8.out k; omega))
                    have HAN : Hid (anyK (fun k' => inB (q : Int) (memL (C.getD k' [])) && inB xj (memL (C.getD k' []))) (k + 1) = (anyK (fun k' => inB (q : Int) (memL (C.getD k' [])) && inB xj (memL (C.getD k' []))) k || (inB (q : Int) (memL (C.getD k [])) && inB xj (memL (C.getD k []))))) := rfl
                    have HBD := hid (fun n' => below_drewN HBK.out n')
                    generalize (memL (C.getD k [])).length = lk at *
                    generalize inB (q : Int) (memL (C.getD k [])) = bq at *
                    generalize inB xj (memL (C.getD k [])) = bx at *
                    clear HTR
                    generalize anyK (fun k' => inB (q : Int) (memL (C.getD k' [])) && inB xj (memL (C.getD k' []))) = ak at *
                    clear hIk
                    generalize hak : ak k = ac at *
                    clear hak
                    cases ac <;> cases bq <;> cases bx
                    all_goals
                      go_wp2_with fail
                      go_quiet ((go_at_call 26; first | with_reducible refine Calls.quiet_of_same (HIk.out _) | with_reducible refine Calls.quiet_of_same (HIx.out _)))
                      go_wp2
                      go_roundw
                      case rel => exact ⟨k + 1, by omega, by go_num, by rw [HAN.out]; rfl, HBD.out _⟩
                      case measure => simp [intOf]; omega
                  · obtain rfl : k = m + 1 := by omega
                    rw [HTR.out]
                    go_wp2
                    go_roundw
                    case rel => exact ⟨j + 1 + 1, by omega, by go_num, HBK⟩
                    case measure => simp [intOf]; omega
            · obtain rfl : j = X.length + 1 := by omega
              have hj1 : ((X.length + 1 : Nat) : Int) - 1 = (X.length : Int) := by omega
              rw [hj1]
              have HC := hid (HCN.out (q : Int) wr HBJ.out (.inr ⟨by omega, by omega⟩))
              clear hIX
              go_wp2_with fail
              refine HC.out.mono ?_
              rintro e w6 ⟨rfl, hb6⟩
              have HB6 := hid (HBJ.out.trans (hb6.mono HBJ.out.size))
              clear hb6
              go_wp2
              go_roundw
              case rel => exact ⟨q + 1, by omega, by go_num, HB6⟩
              case measure => simp [intOf]; omega
        · obtain rfl : q = v := by omega
          generalize wr = V at *
          go_wp2_with fail
          go_loopw [20] (fun iv wq => ∃ i : Nat, i ≤ m ∧ iv = .int .i64 i ∧ wq = V) (fun iv _ => m - (intOf iv).toNat)
          case atStart => exact ⟨0, Nat.zero_le _, rfl, rfl⟩
          case round =>
            obtain ⟨i, hi, rfl, rfl⟩ := hrel
            by_cases him : i < m
            · obtain ⟨g, d, cd, hd4, hg, m0, m1, -, -⟩ := (HK4.out.below HBQ.out) i (by rw [lkL_len]; exact him)
              obtain ⟨hA, hB⟩ := HLL.out _ (List.getElem_mem (show i < (lkL C m).length by rw [lkL_len]; exact him))
              generalize ((lkL C m)[i]'(by rw [lkL_len]; exact him)).1 = A at *
              generalize ((lkL C m)[i]'(by rw [lkL_len]; exact him)).2.1 = B at *
              subst hd4
              go_wp2_with fail
              go_roundw
              case rel => exact ⟨i + 1, by omega, by go_num, by first | rfl | trivial⟩
              case measure => simp [intOf]; omega
            · obtain rfl : i = m := by omega
              have HC := hid (HCN.out (-1) wr HBQ.out (.inl rfl))
              go_wp2_with fail
              refine HC.out.mono ?_
              rintro e w6 ⟨rfl, hb6⟩
              have HB6 := hid (HB4.out.trans ((HBQ.out.trans (hb6.mono HBQ.out.size)).mono HB4.out.size))
              clear hb6
              go_wp2
              go_ret
              exact ⟨rfl, HB6.out⟩
end Go.Proofs.Ytockhhleapbpiaa

