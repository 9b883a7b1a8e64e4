/- Package cause: setsMayBe, apart, isAbove. -/
import Derived.Test.YtockhhleapbpiaaWinAToOpnC
import Derived.Test.YtockhhleapbpiaaNeaAToAbvB
import Derived.Test.YtockhhleapbpiaaApaAOwn
namespace Go.Proofs.Ytockhhleapbpiaa
open Go.RowKit Go.Shelf

theorem up_small {l : List Int} {n : Nat} (h : Up l n) : l.length ≤ n := by
  have hnd : (toN l).Nodup := List.pairwise_map.2 (List.pairwise_iff_getElem.2 fun i j hi hj hij => by
    have h1 := h.lt i j hj hij
    have h2 := h.each i hi
    omega)
  have := nd_len hnd (m := List.range n) fun x hx => by
    have := up_lt h x hx
    exact List.mem_range.2 this
  simpa [toN] using this
/-- What setsMayBe has found, as far as the i-th set. -/
structure SmB (L Ls : List (List Int)) (i : Nat) (bn : List Int) : Prop where
  ok : 0 < i → gcE L = 0
  ris : ∀ l ∈ Ls.take i, risB l L.length = true
  nd : (Ls.take i).flatten.Nodup
  up : Up bn L.length
  mem : ∀ x, x ∈ bn ↔ x ∈ (Ls.take i).flatten
theorem SmB.start (L Ls : List (List Int)) : SmB L Ls 0 [] := ⟨fun h => absurd h (by omega), (fun l hl => by cases hl), by simp, ⟨fun i h => absurd h (by simp), fun i j h => absurd h (by simp)⟩, fun x => by simp⟩
theorem take_flat {Ls : List (List Int)} {i : Nat} (hi : i < Ls.length) : (Ls.take (i + 1)).flatten = (Ls.take i).flatten ++ Ls[i] := by
  rw [List.take_succ_eq_append_getElem hi, List.flatten_append]
  simp
theorem SmB.disj {L Ls : List (List Int)} {i : Nat} {bn : List Int} (h : SmB L Ls i bn) (hi : i < Ls.length) (hr : risB Ls[i] L.length = true) (hd : ∀ x ∈ Ls[i], ¬ x ∈ bn) : (bn ++ Ls[i]).Nodup := by
  refine List.nodup_append.2 ⟨up_nodup h.up, up_nodup (ris_up hr), fun a ha b hb e => ?_⟩
  subst e
  exact hd a hb ha
theorem SmB.next {L Ls : List (List Int)} {i : Nat} {bn : List Int} (h : SmB L Ls i bn) (hi : i < Ls.length) (hg : gcE L = 0) (hr : risB Ls[i] L.length = true) (hd : ∀ x ∈ Ls[i], ¬ x ∈ bn) : SmB L Ls (i + 1) (togL bn Ls[i]) := by
  have hu := ris_up hr
  refine ⟨fun _ => hg, fun l hl => ?_, ?_, togL_up h.up hu, fun x => ?_⟩
  · rw [List.take_succ_eq_append_getElem hi] at hl
    rcases List.mem_append.1 hl with hl | hl
    · exact h.ris l hl
    · rw [List.mem_singleton.1 hl]; exact hr
  · rw [take_flat hi]
    refine List.nodup_append.2 ⟨h.nd, up_nodup hu, fun a ha b hb e => ?_⟩
    subst e
    exact hd a hb ((h.mem a).2 ha)
  · rw [(togL_rise _ _).2, take_flat hi, List.mem_append, h.mem]
theorem SmB.twice {L Ls : List (List Int)} {i : Nat} {bn : List Int} (h : SmB L Ls i bn) (hi : i < Ls.length) {x : Int} (hx : x ∈ Ls[i]) (hb : x ∈ bn) : apB L.length Ls = false := by
  refine Bool.eq_false_iff.2 fun e => ?_
  have hn := (apB_iff.1 e).2
  rw [← List.take_append_drop (i + 1) Ls, List.flatten_append, take_flat hi] at hn
  have h1 := (List.nodup_append.1 (List.nodup_append.1 hn).1).2.2
  exact h1 x ((h.mem x).1 hb) x hx rfl
theorem SmB.fin {L Ls : List (List Int)} {bn : List Int} (h : SmB L Ls Ls.length bn) (hp : 0 < Ls.length) : stE L Ls = 0 := by
  have h1 := h.ris
  have h2 := h.nd
  rw [List.take_length] at h1 h2
  rw [stE, if_pos (h.ok hp), if_pos (apB_iff.2 ⟨h1, h2⟩)]
theorem stE_bad {L Ls : List (List Int)} (hg : gcE L = 0) (h : apB L.length Ls = false) : stE L Ls = 11 := by rw [stE, if_pos hg, if_neg (by rw [h]; decide)]
theorem stE_gc {L Ls : List (List Int)} (hg : gcE L ≠ 0) : stE L Ls = gcE L := by rw [stE, if_neg hg]
theorem apB_bad {n : Nat} {Ls : List (List Int)} {i : Nat} (hi : i < Ls.length) (h : risB Ls[i] n = false) : apB n Ls = false := Bool.eq_false_iff.2 fun e => by
  have := (apB_iff.1 e).1 _ (List.getElem_mem hi)
  rw [h] at this
  cases this
theorem oth_less {l m : List Int} : (othN l m).length < l.length ↔ ∃ x ∈ l, x ∈ m := by
  rw [othN]
  constructor
  · intro h
    refine Classical.byContradiction fun hno => ?_
    have e : l.filter (fun u => decide (¬ u ∈ m)) = l := List.filter_eq_self.2 fun x hx => decide_eq_true fun hm => hno ⟨x, hx, hm⟩
    rw [e] at h
    omega
  · rintro ⟨x, hx, hm⟩
    exact List.length_filter_lt_length_iff_exists.2 ⟨x, hx, by simp [hm]⟩

set_option maxRecDepth 100000 in
set_option maxHeartbeats 1000000 in
theorem setsMayBe_any (a s : Option Addr) (ca cs : Nat) (L Ls : List (List Int)) (w : World) (h : LsS w a L) (hl : ∀ l ∈ L, l.length ≤ 140737488355328) (hs : LsS w s Ls) (hsn : LsN w s Ls) (hsl : ∀ l ∈ Ls, l.length ≤ 1000) (hp : 0 < Ls.length) (hp8 : Ls.length ≤ 8) :
    Calls Try.prog 58 #[.slice a L.length ca, .slice s Ls.length cs] w fun e w' => e = .returned (.int .i64 (stE L Ls)) ∧ Below w.heap.size w w' := by
  have HF : Hid (∀ i (hi : i < Ls.length), ∃ g o b c, s = some ⟨g, o, none⟩ ∧ g < w.heap.size ∧ w.cell? ⟨g, o + i, none⟩ = some (.slice b Ls[i].length c) ∧ IntS w b Ls[i] ∧ (b = none → c = 0)) := fun i hi => by
    obtain ⟨g, o, b, c, h1, h2, h3, h4⟩ := hs i hi
    exact ⟨g, o, b, c, h1, h2, h3, h4, hsn i hi g o b _ c h1 h3⟩
  have HSL := hid hsl
  have HAB := hid (fun (b : Option Addr) (cb : Nat) (l : List Int) (U : World) (hU : Below w.heap.size w U) (hb : IntS U b l) (hn : l.length ≤ 1000) => gAbove_any a b ca cb L l U (h.below hU) hl hb (by omega))
  have HN8 : Hid (gcE L = 0 → L.length ≤ 8) := fun hg => (gB_parts (gc_parts hg).1).2.1
  have HS0 := hid (SmB.start L Ls)
  have HSE : Hid (∀ n, stE L Ls = n → (Ending.returned (.int .i64 n)) = .returned (.int .i64 (stE L Ls))) := fun n e => by rw [e]
  clear h hl hs hsn hsl
  go_enter Try.func58, Try.ntmps58
  go_wp2_with fail
  go_loopw [5, 12] (fun bv iv wr => ∃ (i : Nat) (bn : List Int) (d : Option Addr) (c : Nat), i ≤ Ls.length ∧ iv = .int .i64 i ∧ bv = .slice d bn.length c ∧ Hid (SmB L Ls i bn) ∧ Hid (IntS wr d bn) ∧ Hid (d = none → c = 0) ∧ Hid (Below w.heap.size w wr)) (fun _ iv _ => Ls.length - (intOf iv).toNat)
  case atStart => exact ⟨0, [], none, 0, Nat.zero_le _, rfl, rfl, HS0, (fun k hk => absurd hk (by simp)), (fun _ => rfl), Below.refl _ _⟩
  case round =>
    obtain ⟨i, bn, d, c, hi, rfl, rfl, HSM, HI, HD0, HB⟩ := hrel
    clear HS0
    by_cases hlt : i < Ls.length
    · obtain ⟨g, o, b, cb, rfl, hg, hc, hb, hb0⟩ := HF.out i hlt
      have kc : wr.cell? ⟨g, o + i, none⟩ = some (.slice b Ls[i].length cb) := (HB.out.cell (p := ⟨g, _, none⟩) hg).trans hc
      have hli := HSL.out _ (List.getElem_mem hlt)
      have HA := hid (HAB.out b cb Ls[i] wr HB.out (hb.below HB.out) hli)
      have HBI := hid (hb.below HB.out)
      have HB0 := hid hb0
      have HBAD : Hid (risB Ls[i] L.length = false → apB L.length Ls = false) := apB_bad hlt
      have HTW : Hid (∀ x ∈ Ls[i], x ∈ bn → apB L.length Ls = false) := fun x hx hb => HSM.out.twice hlt hx hb
      have HDJ : Hid (risB Ls[i] L.length = true → (∀ x ∈ Ls[i], ¬ x ∈ bn) → (bn ++ Ls[i]).Nodup) := HSM.out.disj hlt
      have HNX : Hid (gcE L = 0 → risB Ls[i] L.length = true → (∀ x ∈ Ls[i], ¬ x ∈ bn) → SmB L Ls (i + 1) (togL bn Ls[i])) := HSM.out.next hlt
      have HBL := hid (up_small HSM.out.up)
      clear hc hb hb0 HSM
      generalize Ls[i] = si at *
      go_wp2_with fail
      refine HA.out.mono ?_
      rintro e w1 ⟨hab, hb1⟩
      have HB1 := hid (HB.out.trans (hb1.mono HB.out.size))
      have HI1 := hid (HI.out.below hb1)
      have HBI1 := hid (HBI.out.below hb1)
      clear hb1 HA HI HBI kc
      rcases hab with ⟨hgc, rfl⟩ | ⟨hgc, hr, rfl⟩ | ⟨hgc, hr, d2, cd2, rfl, hi2⟩
      · have hgb : (gcE L == 0) = false := by simpa using hgc
        have HR := hid (HSE.out _ (stE_gc hgc))
        clear hgc
        generalize gcE L = ge at *
        go_wp2
        go_ret
        exact ⟨HR.out, HB1.out⟩
      · have HR := hid (HSE.out _ (stE_bad hgc (HBAD.out hr)))
        clear hgc hr
        go_wp2
        go_ret
        exact ⟨HR.out, HB1.out⟩
      · have hbl : bn.length ≤ 8 := Nat.le_trans HBL.out (HN8.out hgc)
        have HO := hid (others_any b d cb c si bn w1 HBI1.out HI1.out (by omega) (by omega))
        have HOL : Hid ((othN si bn).length < si.length ↔ ∃ x ∈ si, x ∈ bn) := oth_less
        have HG0 := hid hgc
        have HRI := hid hr
        generalize (memL (abS (parN L) (toN si) L.length)).length = ml at *
        generalize (othN si bn).length = ol at *
        clear hi2 hgc hr
        go_wp2_with fail
        refine HO.out.mono ?_
        rintro e w2 ⟨d3, c3, rfl, _, _, hb2⟩
        have HB2 := hid (HB1.out.trans (hb2.mono HB1.out.size))
        have HI2 := hid (HI1.out.below hb2)
        have HBI2 := hid (HBI1.out.below hb2)
        clear hb2 HO HI1 HBI1
        by_cases hless : ol < si.length
        · have HR := hid (HSE.out _ (stE_bad HG0.out (by obtain ⟨x, hx, hm⟩ := HOL.out.1 hless; exact HTW.out x hx hm)))
          go_wp2
          go_ret
          exact ⟨HR.out, HB2.out⟩
        · have hdj : ∀ x ∈ si, ¬ x ∈ bn := fun x hx hm => hless (HOL.out.2 ⟨x, hx, hm⟩)
          have HU := hid (union_any d b c cb bn si w2 HI2.out HBI2.out HD0.out HB0.out (by omega) (by omega) (HDJ.out HRI.out hdj))
          have HN := hid (HNX.out HG0.out HRI.out hdj)
          clear hdj
          go_wp2_with fail
          refine HU.out.mono ?_
          rintro e w3 ⟨d4, c4, rfl, hi4, h04, hb3⟩
          have HB3 := hid (HB2.out.trans (hb3.mono HB2.out.size))
          have HI4 := hid hi4
          have H04 := hid h04
          clear hi4 h04 hb3 HU
          go_wp2
          go_roundw
          case rel => exact ⟨i + 1, _, d4, c4, by omega, by go_num, rfl, HN, HI4, H04, HB3⟩
          case measure => simp [intOf]; omega
    · obtain rfl : i = Ls.length := by omega
      have HR := hid (HSE.out _ (HSM.out.fin hp))
      go_wp2
      go_ret
      exact ⟨HR.out, HB.out⟩

set_option maxRecDepth 100000 in
set_option maxHeartbeats 400000 in
theorem cApart_any (a bx by' bz : Option Addr) (ca cx cy cz : Nat) (L : List (List Int)) (x y z : List Int) (w : World) (h : LsS w a L) (hl : ∀ l ∈ L, l.length ≤ 140737488355328) (hx : IntS w bx x) (hy : IntS w by' y) (hz : IntS w bz z) (hxl : x.length ≤ 140737488355328) (hyl : y.length ≤ 140737488355328) (hzl : z.length ≤ 140737488355328) (hg : gcE L = 0) (hap : apB L.length [x, y, z] = true) :
    Calls Try.prog 62 #[.slice a L.length ca, .slice bx x.length cx, .slice by' y.length cy, .slice bz z.length cz] w fun e w' => e = .returned (.bool (!opX L x y z)) ∧ Below w.heap.size w w' := by
  have HA : Hid (Calls Try.prog 15 #[.slice a L.length ca, .slice bx x.length cx, .slice by' y.length cy, .slice bz z.length cz] w fun e w' => e = .returned (.tuple #[.bool (!opX L x y z), .int .i64 0]) ∧ Below w.heap.size w w') := (gApart_any a bx by' bz ca cx cy cz L x y z w h hl hx hy hz hxl hyl hzl).mono fun e w' h => by
    rcases h.2 with ⟨k, _⟩ | ⟨_, k, _⟩ | ⟨_, _, k⟩
    · exact absurd hg k
    · rw [hap] at k; cases k
    · exact ⟨k, h.1⟩
  clear h hl hx hy hz hg hap
  generalize (!opX L x y z) = q at *
  go_enter Try.func62, Try.ntmps62
  go_wp2_with fail
  refine HA.out.mono ?_
  rintro e w1 ⟨rfl, hb1⟩
  have HB := hid hb1
  clear hb1
  go_wp2
  go_ret
  exact ⟨rfl, HB.out⟩
theorem memL_has {s : List Nat} {u : Nat} (hu : u < 8) : (memL s).contains (u : Int) = decide (u ∈ s) := by
  refine Bool.eq_iff_iff.2 ?_
  rw [List.contains_iff_mem, decide_eq_true_iff, memL, iL, List.mem_map]
  constructor
  · rintro ⟨v, hv, e⟩
    obtain rfl : v = u := by omega
    exact (memU_mem.1 hv).2
  · exact fun h => ⟨u, memU_mem.2 ⟨hu, h⟩, rfl⟩

set_option maxRecDepth 100000 in
set_option maxHeartbeats 400000 in
theorem cIsAbove_any (a b : Option Addr) (ca cb u : Nat) (L : List (List Int)) (l : List Int) (w : World) (h : LsS w a L) (hl : ∀ l ∈ L, l.length ≤ 140737488355328) (hb : IntS w b l) (hll : l.length ≤ 140737488355328) (hg : gcE L = 0) (hr : risB l L.length = true) (hu : u < L.length) :
    Calls Try.prog 67 #[.slice a L.length ca, .int .i64 (u : Nat), .slice b l.length cb] w fun e w' => e = .returned (.bool (abO L u (toN l))) ∧ Below w.heap.size w w' := by
  have h8 := (gB_parts (gc_parts hg).1).2.1
  have HA : Hid (Calls Try.prog 13 #[.slice a L.length ca, .slice b l.length cb] w fun e w' => ∃ d cd, e = .returned (.tuple #[.slice d (memL (abS (parN L) (toN l) L.length)).length cd, .int .i64 0]) ∧ IntS w' d (memL (abS (parN L) (toN l) L.length)) ∧ Below w.heap.size w w') := (gAbove_any a b ca cb L l w h hl hb hll).mono fun e w' h => by
    rcases h.1 with ⟨k, _⟩ | ⟨_, k, _⟩ | ⟨_, _, d, cd, k, k2⟩
    · exact absurd hg k
    · rw [hr] at k; cases k
    · exact ⟨d, cd, k, k2, h.2⟩
  have HQ : Hid ((memL (abS (parN L) (toN l) L.length)).contains (u : Int) = abO L u (toN l)) := by
    show _ = _
    rw [memL_has (by omega)]
    refine Bool.eq_iff_iff.2 ?_
    rw [decide_eq_true_iff, abO_iff hg h8 (up_lt (ris_up hr))]
  have HML : Hid ((memL (abS (parN L) (toN l) L.length)).length ≤ 8) := by
    show _ ≤ _
    have := memU_len (abS (parN L) (toN l) L.length) 8
    rw [memL, iL_length]
    exact this
  have HCN := hid (fun (d : Option Addr) (cd : Nat) (U : World) (hU : IntS U d (memL (abS (parN L) (toN l) L.length))) => slContains_any d cd (memL (abS (parN L) (toN l) L.length)) (u : Nat) U hU (by have := HML.out; omega))
  rw [HQ.out] at HCN
  clear h hl hb hg hr
  generalize memL (abS (parN L) (toN l) L.length) = ml at *
  generalize abO L u (toN l) = q at *
  go_enter Try.func67, Try.ntmps67
  go_wp2_with fail
  refine HA.out.mono ?_
  rintro e w1 ⟨d, cd, rfl, hi, hb1⟩
  have HB := hid hb1
  have HC := hid (HCN.out d cd w1 hi)
  clear hb1 hi HCN HQ HML HA
  go_wp2_with fail
  refine HC.out.mono ?_
  rintro e w2 ⟨rfl, hb2⟩
  have HB2 := hid (HB.out.trans (hb2.mono HB.out.size))
  clear hb2
  go_wp2
  go_ret
  exact ⟨rfl, HB2.out⟩
end Go.Proofs.Ytockhhleapbpiaa

