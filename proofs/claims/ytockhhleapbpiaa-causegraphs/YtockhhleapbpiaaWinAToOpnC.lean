/- Package cause: rows of lists that are cloned and written into; withoutIn, withoutOut. -/
import Derived.Test.YtockhhleapbpiaaOthAToSetA
import Derived.Test.YtockhhleapbpiaaApaPToCutP
import Derived.Test.YtockhhleapbpiaaFewAToListB
import Derived.Test.YtockhhleapbpiaaAnsCOwn
import Derived.Test.YtockhhleapbpiaaComAToOpnB
import Derived.Test.YtockhhleapbpiaaAbvAToOrdC
import Derived.Test.YtockhhleapbpiaaTreGOwn
import Derived.Deep.LoopGhost
namespace Go.Proofs.Ytockhhleapbpiaa
open Go.RowKit Go.Shelf

/-- A row's lists, none of which lies in the row's own block. -/
def VsL (W : World) (R : Nat) (vs : List Value) (Ls : List (List Int)) : Prop :=
  vs.length = Ls.length ∧ ∀ k (h : k < Ls.length), ∃ b c, vs[k]? = some (.slice b Ls[k].length c) ∧ IntS W b Ls[k] ∧ ∀ g o, b = some ⟨g, o, none⟩ → Ls[k] ≠ [] → g ≠ R
theorem ints_keep {W W' : World} {R : Nat} {b : Option Addr} {l : List Int} (h : IntS W b l) (hn : ∀ g o, b = some ⟨g, o, none⟩ → l ≠ [] → g ≠ R) (hk : ∀ g, g < W.heap.size → g ≠ R → W'.heap[g]? = W.heap[g]?) (hs : W.heap.size ≤ W'.heap.size) : IntS W' b l := fun k hkl => by
  obtain ⟨g, o, e, hg, hc⟩ := h k hkl
  have hne := hn g o e (fun e => by rw [e] at hkl; exact absurd hkl (by simp))
  exact ⟨g, o, e, Nat.lt_of_lt_of_le hg hs, (World.cell?_of_block (hk g hg hne)).trans hc⟩
theorem VsL.keep {W W' : World} {R : Nat} {vs : List Value} {Ls : List (List Int)} (h : VsL W R vs Ls) (hk : ∀ g, g < W.heap.size → g ≠ R → W'.heap[g]? = W.heap[g]?) (hs : W.heap.size ≤ W'.heap.size) : VsL W' R vs Ls := ⟨h.1, fun k hkl => by
  obtain ⟨b, c, h1, h2, h3⟩ := h.2 k hkl
  exact ⟨b, c, h1, ints_keep h2 h3 hk hs, h3⟩⟩
theorem VsL.below {W W' : World} {R : Nat} {vs : List Value} {Ls : List (List Int)} (h : VsL W R vs Ls) (hb : Below W.heap.size W W') : VsL W' R vs Ls := h.keep (fun g hg _ => hb.block g hg) hb.size
theorem VsL.lists {W : World} {R : Nat} {vs rest : List Value} {Ls : List (List Int)} (h : VsL W R vs Ls) (hr : RowV W R (vs ++ rest)) : LsS W (some ⟨R, 0, none⟩) Ls := fun k hk => by
  obtain ⟨b, c, h1, h2, _⟩ := h.2 k hk
  have hkv : k < vs.length := by rw [h.1]; exact hk
  refine ⟨R, 0, b, c, rfl, hr.lt, ?_, h2⟩
  rw [Nat.zero_add, hr.cell k (by rw [List.length_append]; omega), List.getElem_append_left hkv]
  rw [List.getElem?_eq_getElem hkv] at h1
  exact h1
/-- One list is written into the row. -/
theorem VsL.put {W : World} {R : Nat} {vs rest : List Value} {Ls : List (List Int)} (h : VsL W R vs Ls) (hr : RowV W R (vs ++ rest)) {v : Nat} (hv : v < Ls.length) {b : Option Addr} {c : Nat} {l : List Int} (hi : IntS W b l) (hb : ∀ g o, b = some ⟨g, o, none⟩ → l ≠ [] → g ≠ R) :
    VsL (W.setCell ⟨R, v, none⟩ (.slice b l.length c)) R (vs.set v (.slice b l.length c)) (Ls.set v l) ∧ RowV (W.setCell ⟨R, v, none⟩ (.slice b l.length c)) R (vs.set v (.slice b l.length c) ++ rest) := by
  have hfar : ∀ k, k ≠ R → (W.setCell ⟨R, v, none⟩ (.slice b l.length c)).heap[k]? = W.heap[k]? := fun k hk => Below.heap_setCell W ⟨R, v, none⟩ _ k hk
  have hsz := (KeepsOthers.setCell W ⟨R, v, none⟩ (.slice b l.length c)).size
  have hvv : v < vs.length := by rw [h.1]; exact hv
  refine ⟨⟨by rw [List.length_set, List.length_set]; exact h.1, fun k hk => ?_⟩, ?_⟩
  · rw [List.length_set] at hk
    by_cases e : v = k
    · subst e
      refine ⟨b, c, ?_, ?_, ?_⟩
      · rw [List.getElem?_set_self hvv, List.getElem_set_self]
      · rw [List.getElem_set_self]
        exact ints_keep hi hb (fun g _ hne => hfar g hne) hsz
      · rw [List.getElem_set_self]
        exact hb
    · obtain ⟨b', c', h1, h2, h3⟩ := h.2 k hk
      refine ⟨b', c', ?_, ?_, ?_⟩
      · rw [List.getElem?_set_ne e, List.getElem_set_ne e]
        exact h1
      · rw [List.getElem_set_ne e]
        exact ints_keep h2 h3 (fun g _ hne => hfar g hne) hsz
      · rw [List.getElem_set_ne e]
        exact h3
  · have := hr.set v (.slice b l.length c)
    rwa [List.set_append_left _ _ hvv] at this
theorem some_row {w : World} {a : Option Addr} {L : List (List Int)} (h : LsS w a L) (hp : 0 < L.length) : ∃ g o, a = some ⟨g, o, none⟩ ∧ g < w.heap.size := by
  obtain ⟨g, o, _, _, h1, h2, _⟩ := h 0 hp
  exact ⟨g, o, h1, h2⟩

set_option maxRecDepth 100000 in
set_option maxHeartbeats 400000 in
theorem slCloneL_any (a : Option Addr) (ca : Nat) (L : List (List Int)) (w : World) (h : LsS w a L) (hp : 0 < L.length) (h8 : L.length ≤ 1000) :
    Calls Try.prog 81 #[.slice a L.length ca] w fun e w' => ∃ R cap vs rest, e = .returned (.slice (some ⟨R, 0, none⟩) L.length cap) ∧ L.length ≤ cap ∧ w.heap.size ≤ R ∧ RowV w' R (vs ++ rest) ∧ VsL w' R vs L ∧ Below w.heap.size w w' := by
  obtain ⟨i0, hi0, hz0, hz1, hz2⟩ := info_parts Try.infoInts1
  obtain ⟨g, o, rfl, hg⟩ := some_row h hp
  have HF := hid h
  obtain ⟨vs, hvs⟩ : ∃ vs : List Value, vs = (List.range L.length).map fun k => (w.cell? ⟨g, o + k, none⟩).getD undef := ⟨_, rfl⟩
  have hvl : vs.length = L.length := by rw [hvs]; simp
  have HAT : Hid (∀ k (hk : k < L.length), ∃ b c, vs[k]? = some (.slice b L[k].length c) ∧ IntS w b L[k] ∧ w.cell? ⟨g, o + k, none⟩ = some (.slice b L[k].length c)) := fun k hk => by
    obtain ⟨g', o', b, c, e, _, h2, h3⟩ := h k hk
    cases e
    refine ⟨b, c, ?_, h3, h2⟩
    rw [hvs, List.getElem?_map, List.getElem?_range hk, Option.map_some, h2]
    rfl
  have HVL := hid hvl
  clear hvs h hvl
  have q22 : ∀ (w : World) (a : Option Addr) (n c n' c' : Nat), (binOp .eql 22 (.slice a n c) (.slice none n' c')).run Try.prog w = .ok (.bool a.isNone) w := fun w a n c n' c' => Lib.run_eql_slice_nil w _ _ a n c n' c' Try.underlying22
  go_enter Try.func81, Try.ntmps81
  go_wp2_with (at_builtin; refine wpList_append_own _ rfl _ _ 22 rfl w.heap.size 23 i0 (.slice none 0 0) 1 24 Try.underlying22 hi0 hz0 hz1 hz2 rfl (by decide) _ _ _ rfl (World.ownsRow_made w #[] 0 (Nat.le_refl _) (Nat.zero_le _) rfl) ⟨g, o, none⟩ L.length ca vs rfl ?qc1 ?qc2 ?qc3 ?qc4 ?qc5 ?qc6 ?_)
  case qc1 => have := HVL.out; simp; omega
  case qc2 =>
    intro j u hj
    have hjn : j < L.length := by
      have h1 := (List.getElem?_eq_some_iff.1 hj).1
      have h2 := HVL.out
      omega
    obtain ⟨b, c, h1, _, h3⟩ := HAT.out j hjn
    rw [Addr.add_lit]
    refine Lib.cell?_alloc_some _ ?_
    rw [h3, ← h1]
    exact hj
  case qc3 =>
    intro u hu
    obtain ⟨k, hk, rfl⟩ := List.getElem_of_mem hu
    have hkl : k < L.length := by have := HVL.out; omega
    obtain ⟨b, c, h1, _, _⟩ := HAT.out k hkl
    rw [List.getElem?_eq_getElem hk] at h1
    rw [Option.some.inj h1]
    rfl
  case qc4 => unfold maxLen; omega
  case qc5 => omega
  case qc6 => simp
  intro v' w1 hown hgrow hnil
  have hb1 : Below w.heap.size w w1 := ((Below.refl _ w).alloc (Nat.le_refl _) _).grown hgrow (by simp) (by intro k hk; simp [Value.ownBlock] at hk; omega)
  have HB := hid hb1
  have HO := hid hown
  clear hown hgrow hnil hb1
  go_wp2
  go_ret
  have hown := HO.out
  rcases hown.2 with ⟨h1, h2⟩ | ⟨R, cap, cur, h1, h2, h3, h4, h5, h6, h7⟩
  · omega
  · refine ⟨R, cap, vs, cur.toList.drop L.length, by rw [h1]; rfl, h4, h2, ?_, ?_, HB.out⟩
    · rw [RowV, h3]
      have e : vs ++ cur.toList.drop L.length = cur.toList := by
        rw [Nat.mul_one] at h7
        rw [← h7, List.take_append_drop]
      rw [e]
    · refine ⟨HVL.out, fun k hk => ?_⟩
      obtain ⟨b, c, a1, a2, _⟩ := HAT.out k hk
      refine ⟨b, c, a1, a2.below HB.out, fun g' o' e hne => ?_⟩
      obtain ⟨g2, o2, e2, hg2, _⟩ := a2 0 (by cases hl : L[k] with | nil => exact absurd hl hne | cons x l => simp)
      rw [e] at e2
      cases e2
      omega
theorem cutG_nil (L : List (List Int)) : cutG L [] [] = L := by
  apply List.ext_getElem (cutG_length L [] [])
  intro v h1 h2
  rw [cutG_get, cutR_in, if_neg (by simp), getD_at h2]
theorem cutG_into {L : List (List Int)} {nodes : List Int} {i v : Nat} (hi : i < nodes.length) (hv : nodes[i] = (v : Int)) : (cutG L (nodes.take i) []).set v [] = cutG L (nodes.take (i + 1)) [] := by
  apply List.ext_getElem (by rw [List.length_set, cutG_length, cutG_length])
  intro k h1 h2
  have hm : ((k : Int) ∈ nodes.take (i + 1)) ↔ ((k : Int) ∈ nodes.take i ∨ k = v) := by
    rw [List.take_succ_eq_append_getElem hi, List.mem_append, List.mem_singleton, hv]
    exact or_congr Iff.rfl ⟨fun e => by omega, fun e => by omega⟩
  rw [cutG_get, List.getElem_set, cutR_in]
  by_cases e : v = k
  · rw [if_pos e, if_pos (hm.2 (.inr e.symm))]
  · rw [if_neg e, cutG_get, cutR_in]
    by_cases e2 : (k : Int) ∈ nodes.take i
    · rw [if_pos e2, if_pos (hm.2 (.inl e2))]
    · rw [if_neg e2, if_neg fun h => (hm.1 h).elim e2 fun h => e h.symm]

set_option maxRecDepth 100000 in
set_option maxHeartbeats 400000 in
theorem withoutIn_any (a b : Option Addr) (ca cb : Nat) (L : List (List Int)) (nodes : List Int) (w : World) (h : LsS w a L) (hb : IntS w b nodes) (hp : 0 < L.length) (h8 : L.length ≤ 8) (hn : ∀ x ∈ nodes, 0 ≤ x ∧ x < (L.length : Int)) (hnl : nodes.length ≤ 1000) :
    Calls Try.prog 59 #[.slice a L.length ca, .slice b nodes.length cb] w fun e w' => ∃ R cap, e = .returned (.slice (some ⟨R, 0, none⟩) L.length cap) ∧ LsS w' (some ⟨R, 0, none⟩) (cutG L nodes []) ∧ Below w.heap.size w w' := by
  have HCL := hid (slCloneL_any a ca L w h hp (by omega))
  have HN := hid hn
  have HBI := hid hb
  have HCN := hid (cutG_nil L)
  have HCI : Hid (∀ (i v : Nat) (hi : i < nodes.length), nodes[i] = (v : Int) → (cutG L (nodes.take i) []).set v [] = cutG L (nodes.take (i + 1)) []) := fun i v hi hv => cutG_into hi hv
  have HLN : Hid (∀ S, (cutG L S []).length = L.length) := fun S => cutG_length L S []
  clear h hb hn
  go_enter Try.func59, Try.ntmps59
  go_wp2_with fail
  refine HCL.out.mono ?_
  rintro e w1 ⟨R, cap, vs0, rest, rfl, hcap, hR, hrow, hvs, hb1⟩
  have HR1 : Hid (RowV w1 R (vs0 ++ rest)) := hrow
  have HV1 : Hid (VsL w1 R vs0 (cutG L (nodes.take 0) [])) := by rw [List.take_zero, HCN.out]; exact hvs
  have HB1 := hid hb1
  clear hrow hvs hb1 HCL HCN
  go_wp2_with fail
  go_loopw [12] (fun iv wr => ∃ (i : Nat) (vs : List Value), i ≤ nodes.length ∧ iv = .int .i64 i ∧ Hid (RowV wr R (vs ++ rest)) ∧ Hid (VsL wr R vs (cutG L (nodes.take i) [])) ∧ Hid (Below w.heap.size w wr)) (fun iv _ => nodes.length - (intOf iv).toNat)
  case atStart => exact ⟨0, vs0, Nat.zero_le _, rfl, HR1, HV1, HB1⟩
  case round =>
    obtain ⟨i, vs, hi, rfl, HR, HV, HB⟩ := hrel
    clear HR1 HV1 HB1
    by_cases hlt : i < nodes.length
    · obtain ⟨g, o, rfl, hg, hc⟩ := HBI.out i hlt
      obtain ⟨hx0, hx1⟩ := HN.out _ (List.getElem_mem hlt)
      obtain ⟨v, hv⟩ : ∃ v : Nat, nodes[i] = (v : Int) := ⟨nodes[i].toNat, by omega⟩
      have hvl : v < L.length := by omega
      have kc : wr.cell? ⟨g, o + i, none⟩ = some (.int .i64 (v : Nat)) := by rw [← hv]; exact (HB.out.cell (p := ⟨g, _, none⟩) hg).trans hc
      have HE := hid (HCI.out i v hlt hv)
      have hfz := HR.out.fz v
      have HP : Hid (VsL (wr.setCell ⟨R, v, none⟩ (.slice none 0 0)) R (vs.set v (.slice none 0 0)) ((cutG L (nodes.take i) []).set v []) ∧ RowV (wr.setCell ⟨R, v, none⟩ (.slice none 0 0)) R (vs.set v (.slice none 0 0) ++ rest)) := HV.out.put HR.out (by rw [HLN.out]; exact hvl) (b := none) (c := 0) (l := []) (fun k hk => absurd hk (by simp)) (fun g o e => by cases e)
      have HBS : Hid (Below w.heap.size w (wr.setCell ⟨R, v, none⟩ (.slice none 0 0))) := HB.out.setCell (p := ⟨R, v, none⟩) hR _
      obtain ⟨y, ky⟩ : ∃ y, wr.cell? ⟨R, v, none⟩ = some y := by
        have hl := HV.out.1
        rw [HLN.out] at hl
        exact ⟨_, HR.out.cell v (by rw [List.length_append]; omega)⟩
      clear hc hx0 hx1 hv
      go_wp2
      go_roundw
      case rel => exact ⟨i + 1, _, by omega, by go_num, HP.out.2, by rw [← HE.out]; exact HP.out.1, HBS⟩
      case measure => simp [intOf]; omega
    · obtain rfl : i = nodes.length := by omega
      have HF : Hid (LsS wr (some ⟨R, 0, none⟩) (cutG L nodes [])) := by
        have := HV.out.lists HR.out
        rwa [List.take_length] at this
      go_wp2
      go_ret
      exact ⟨R, cap, rfl, HF.out, HB.out⟩

theorem cutG_outof {L : List (List Int)} {nodes : List Int} {v : Nat} (hv : v < L.length) : ((List.range L.length).map fun k => if k < v then cutR L [] nodes k else []).set v (othN L[v] nodes) = (List.range L.length).map fun k => if k < v + 1 then cutR L [] nodes k else [] := by
  apply List.ext_getElem (by simp)
  intro k h1 h2
  rw [List.getElem_set]
  simp only [List.getElem_map, List.getElem_range]
  by_cases e : v = k
  · subst e
    rw [if_pos rfl, if_pos (by omega), cutR_out, getD_at hv, othN]
  · rw [if_neg e]
    by_cases e2 : k < v
    · rw [if_pos e2, if_pos (by omega)]
    · rw [if_neg e2, if_neg (by omega)]

set_option maxRecDepth 100000 in
set_option maxHeartbeats 400000 in
theorem withoutOut_any (a b : Option Addr) (ca cb : Nat) (L : List (List Int)) (nodes : List Int) (w : World) (h : LsS w a L) (hb : IntS w b nodes) (hp : 0 < L.length) (h8 : L.length ≤ 8) (hl : ∀ l ∈ L, l.length ≤ 1000) (hnl : nodes.length ≤ 1000) :
    Calls Try.prog 60 #[.slice a L.length ca, .slice b nodes.length cb] w fun e w' => ∃ R cap, e = .returned (.slice (some ⟨R, 0, none⟩) L.length cap) ∧ LsS w' (some ⟨R, 0, none⟩) (cutG L [] nodes) ∧ Below w.heap.size w w' := by
  have hmk := fun V => run_make_row' (P := Try.prog) 22 23 (.slice none 0 0) 24 Try.underlying22 Try.infoInts1 rfl .i64 .i64 L.length (by omega) (by omega) V
  have HF := hid h
  have HBI := hid hb
  have HOT : Hid (∀ (v : Nat) (hv : v < L.length) (d : Option Addr) (c : Nat) (U : World), Below w.heap.size w U → IntS U d L[v] → Calls Try.prog 61 #[.slice d L[v].length c, .slice b nodes.length cb] U fun e w' => ∃ (d : Option Addr) (cd : Nat), e = .returned (.slice d (othN L[v] nodes).length cd) ∧ IntS w' d (othN L[v] nodes) ∧ ((d = none → cd = 0) ∧ ∀ g o, d = some ⟨g, o, none⟩ → U.heap.size ≤ g) ∧ Below U.heap.size U w') := fun v hv d c U hU hd => others_any d b c cb L[v] nodes U hd (hb.below hU) (by have := hl _ (List.getElem_mem hv); omega) (by omega)
  have HCO : Hid (∀ (v : Nat) (hv : v < L.length), ((List.range L.length).map fun k => if k < v then cutR L [] nodes k else []).set v (othN L[v] nodes) = (List.range L.length).map fun k => if k < v + 1 then cutR L [] nodes k else []) := fun v hv => cutG_outof hv
  clear h hb hl
  have HMK : Hid (RowV (w.alloc (.cells (madeCells #[.slice none 0 0] L.length) 23)) w.heap.size (List.replicate L.length (.slice none 0 0))) := by
    have e2 : madeCells #[Value.slice none 0 0] L.length = (List.replicate L.length (Value.slice none 0 0)).toArray := by
      have := made_slices L.length
      rw [Nat.mul_one] at this
      rw [← this]
      rfl
    show _ = _
    rw [heap_alloc_new, e2]
  have HVS : Hid (VsL (w.alloc (.cells (madeCells #[.slice none 0 0] L.length) 23)) w.heap.size (List.replicate L.length (.slice none 0 0)) ((List.range L.length).map fun k => if k < 0 then cutR L [] nodes k else [])) := ⟨by simp, fun k hk => ⟨none, 0, by
    have hk' : k < L.length := by simpa using hk
    simp [hk'], (fun j hj => absurd hj (by simp)), fun g o e => by cases e⟩⟩
  have HB0 := hid ((Below.refl w.heap.size w).alloc (Nat.le_refl _) (.cells (madeCells #[.slice none 0 0] L.length) 23))
  go_enter Try.func60, Try.ntmps60
  go_wp2_with fail
  generalize w.alloc (.cells (madeCells #[.slice none 0 0] L.length) 23) = W0 at *
  clear hmk
  go_loopw [13] (fun iv wr => ∃ (v : Nat) (vs : List Value), v ≤ L.length ∧ iv = .int .i64 v ∧ Hid (RowV wr w.heap.size vs) ∧ Hid (VsL wr w.heap.size vs ((List.range L.length).map fun k => if k < v then cutR L [] nodes k else [])) ∧ Hid (Below w.heap.size w wr)) (fun iv _ => L.length - (intOf iv).toNat)
  case atStart => exact ⟨0, _, Nat.zero_le _, rfl, HMK, HVS, HB0⟩
  case round =>
    obtain ⟨v, vs, hv, rfl, HR, HV, HB⟩ := hrel
    clear HMK HVS HB0
    by_cases hlt : v < L.length
    · obtain ⟨g, o, d, c, rfl, hg, hc, hd⟩ := HF.out v hlt
      have kc : wr.cell? ⟨g, o + v, none⟩ = some (.slice d L[v].length c) := (HB.out.cell (p := ⟨g, _, none⟩) hg).trans hc
      have HOV := hid (HOT.out v hlt d c wr HB.out (hd.below HB.out))
      have HE := hid (HCO.out v hlt)
      have hRl := HR.out.lt
      generalize othN L[v] nodes = ot at *
      generalize L[v].length = lv at *
      clear hc hd
      go_wp2_with fail
      refine HOV.out.mono ?_
      rintro e w2 ⟨d2, c2, rfl, hd2, ⟨_, hnew⟩, hb2⟩
      have hfz := (HR.out.below hb2 hRl).fz v
      have HR2 : Hid (RowV w2 w.heap.size (vs ++ [])) := by rw [List.append_nil]; exact HR.out.below hb2 hRl
      have HP : Hid (VsL (w2.setCell ⟨w.heap.size, v, none⟩ (.slice d2 ot.length c2)) w.heap.size (vs.set v (.slice d2 ot.length c2)) (((List.range L.length).map fun k => if k < v then cutR L [] nodes k else []).set v ot) ∧ RowV (w2.setCell ⟨w.heap.size, v, none⟩ (.slice d2 ot.length c2)) w.heap.size (vs.set v (.slice d2 ot.length c2) ++ [])) := (HV.out.below hb2).put HR2.out (by simpa using hlt) hd2 (fun g' o' e' hne => by have := hnew g' o' e'; omega)
      have HB2 := hid (HB.out.trans (hb2.mono HB.out.size))
      have HBS : Hid (Below w.heap.size w (w2.setCell ⟨w.heap.size, v, none⟩ (.slice d2 ot.length c2))) := HB2.out.setCell (p := ⟨w.heap.size, v, none⟩) (Nat.le_refl _) _
      obtain ⟨y, ky⟩ : ∃ y, w2.cell? ⟨w.heap.size, v, none⟩ = some y := by
        have hl := HV.out.1
        rw [List.length_map, List.length_range] at hl
        exact ⟨_, (HR.out.below hb2 hRl).cell v (by omega)⟩
      rw [List.append_nil] at HP
      generalize ot.length = otl at *
      clear hd2 hb2 kc hnew
      go_wp2
      go_roundw
      case rel => exact ⟨v + 1, _, by omega, by go_num, HP.out.2, by rw [← HE.out]; exact HP.out.1, HBS⟩
      case measure => simp [intOf]; omega
    · obtain rfl : v = L.length := by omega
      have HL : Hid (LsS wr (some ⟨w.heap.size, 0, none⟩) (cutG L [] nodes)) := by
        have h1 : RowV wr w.heap.size (vs ++ []) := by rw [List.append_nil]; exact HR.out
        have := HV.out.lists h1
        have e : ((List.range L.length).map fun k => if k < L.length then cutR L [] nodes k else []) = cutG L [] nodes := by
          rw [cutG]
          exact List.map_congr_left fun k hk => if_pos (List.mem_range.1 hk)
        rwa [e] at this
      go_wp2
      go_ret
      exact ⟨_, _, rfl, HL.out, HB.out⟩
end Go.Proofs.Ytockhhleapbpiaa


/- Package graph: isOpen. -/
namespace Go.Proofs.Ytockhhleapbpiaa
open Go.RowKit Go.Shelf

theorem zeroU (w : World) : (zeroValue 94).run Try.prog w = .ok (.agg #[]) w := by
  obtain ⟨i0, hi0, hz0, hz1, hz2⟩ := info_parts (show (Try.prog.info? 94).map (fun i => (i.zero, i.size, i.bytes)) = some (some (.agg #[]), 0, 0) by kernel_rfl)
  simp [zeroValue, typeInfo, hi0, hz0]
/-- What isOpen's memory holds. -/
structure OpM (kl : Nat × Bool → Lit) (W3 : World) (b : Nat) (S W : List (Nat × Bool)) (D : DataW Unit) (wv : Value) (V : World) : Prop where
  map : BnM kl V b S D
  row : OwC V W3.heap.size wv W
  fr : W3.grownBy V (some b)
theorem OpM.size {kl : Nat × Bool → Lit} {W3 : World} {b : Nat} {S W : List (Nat × Bool)} {D : DataW Unit} {wv : Value} {V : World} (h : OpM kl W3 b S W D wv V) : W3.heap.size ≤ V.heap.size := h.fr.size
theorem OpM.alloc {kl : Nat × Bool → Lit} {W3 : World} {b : Nat} {S W : List (Nat × Bool)} {D : DataW Unit} {wv : Value} {V : World} (h : OpM kl W3 b S W D wv V) (o : Obj) : OpM kl W3 b S W D wv (V.alloc o) :=
  ⟨h.map.kept (World.grownBy_alloc V o none) (by simp), World.ownsRow.alloc h.row o, by
    have hA := (Below.refl V.heap.size V).alloc (Nat.le_refl _) o
    exact ⟨hA.os.trans h.fr.os, hA.tape.trans h.fr.tape, hA.output.trans h.fr.output, Nat.le_trans h.fr.size hA.size, fun k hk hne => (hA.block k (Nat.lt_of_lt_of_le hk h.fr.size)).trans (h.fr.block k hk hne)⟩⟩
theorem OpM.put {kl : Nat × Bool → Lit} (hk : ∀ p : Nat × Bool, p.1 < 8 → keyOf Try.prog 93 (keyV p) = some (kl p)) {W3 : World} {b : Nat} {S W : List (Nat × Bool)} {D : DataW Unit} {wv : Value} {V V' : World} (h : OpM kl W3 b S W D wv V) (hb : b < W3.heap.size) {p : Nat × Bool} (hp : p.1 < 8) {d : DataW Unit} (ho : V'.ownsMap Try.prog 93 (unitElem (H := Unit)) b (S.length + 1) (D.put (kl p) d)) (hg : V.grownBy V' (some b)) : OpM kl W3 b (p :: S) W (D.put (kl p) d) wv V' := by
  refine ⟨h.map.put hk hp ho, World.ownsRow.kept h.row hg ?_, ⟨hg.os.trans h.fr.os, hg.tape.trans h.fr.tape, hg.output.trans h.fr.output, Nat.le_trans h.fr.size hg.size, fun k hk' hne => (hg.block k (Nat.lt_of_lt_of_le hk' h.fr.size) hne).trans (h.fr.block k hk' hne)⟩⟩
  cases e : wv.ownBlock with
  | none => exact .inl rfl
  | some g =>
    refine .inr fun e' => ?_
    cases e'
    have := own_from h.row b e
    omega
theorem OpM.more {kl : Nat × Bool → Lit} {W3 : World} {b : Nat} {S W W' : List (Nat × Bool)} {D : DataW Unit} {wv v : Value} {V V' : World} (h : OpM kl W3 b S W D wv V) (hb : b < W3.heap.size) (hr : OwC V' W3.heap.size v W') (hg : GrS V V' wv v) : OpM kl W3 b S W' D v V' := by
  have hne : ∀ k, k < W3.heap.size → some k ≠ wv.ownBlock := fun k hk e => by
    have := own_from h.row k e.symm
    omega
  exact ⟨h.map.kept hg.1 (hne b hb), hr, ⟨hg.1.os.trans h.fr.os, hg.1.tape.trans h.fr.tape, hg.1.output.trans h.fr.output, Nat.le_trans h.fr.size hg.1.size, fun k hk hn => (hg.1.block k (Nat.lt_of_lt_of_le hk h.fr.size) (hne k hk)).trans (h.fr.block k hk hn)⟩⟩
/-- The last one is left out. -/
theorem OwC.init {w : World} {B : Nat} {d : Option Addr} {n c : Nat} {T : List (Nat × Bool)} {p : Nat × Bool} (h : OwC w B (.slice d n c) (T ++ [p])) : ∃ g, d = some ⟨g, 0, none⟩ ∧ n = T.length + 1 ∧ T.length ≤ c ∧ T.length + 1 ≤ c ∧ B ≤ g ∧ g < w.heap.size ∧ w.cell? ⟨g, T.length * 2, none⟩ = some (.int .i64 (p.1 : Nat)) ∧ w.cell? ⟨g, T.length * 2 + 1, none⟩ = some (.bool p.2) ∧ OwC w B (.slice (some ⟨g, 0, none⟩) T.length c) T := by
  have hl : (T ++ [p]).length = T.length + 1 := by simp
  have hcl := cmC_length T
  rcases h.2 with ⟨h1, h2⟩ | ⟨g, cap, cur, h1, h2, h3, h4, h5, h6, h7⟩
  · rw [hl] at h2
    omega
  · injection h1 with e1 e2 e3
    subst e1
    subst e3
    rw [hl] at h4 h7 e2
    rw [cmC_append] at h7
    have hcells : ∀ j u, (cmC T ++ cmC [p])[j]? = some u → w.cell? ⟨g, j, none⟩ = some u := fun j u hj => by
      rw [cell_of_row w g j _ _ (0, 0) h3]
      have : j < (T.length + 1) * 2 := by
        have := (List.getElem?_eq_some_iff.1 hj).1
        rw [List.length_append, hcl] at this
        simp [cmC] at this
        omega
      rw [← h7, List.getElem?_take, if_pos this, Array.getElem?_toList] at hj
      exact hj
    refine ⟨g, rfl, e2, by omega, h4, h2, (Array.getElem?_eq_some_iff.1 h3).1, hcells _ _ ?_, hcells _ _ ?_, cmC_length T, .inr ⟨g, c, cur, rfl, h2, h3, by omega, h5, h6, ?_⟩⟩
    · rw [List.getElem?_append_right (by omega), hcl, Nat.sub_self]; rfl
    · rw [List.getElem?_append_right (by omega), hcl, show T.length * 2 + 1 - T.length * 2 = 1 by omega]; rfl
    · have := congrArg (List.take (T.length * 2)) h7
      rw [List.take_take, show min (T.length * 2) ((T.length + 1) * 2) = T.length * 2 by omega] at this
      rw [this, ← hcl, List.take_left]
end Go.Proofs.Ytockhhleapbpiaa

