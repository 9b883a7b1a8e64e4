/- The document's answer: Fill. (Made by mkfle.py of fle.base.) -/
import Derived.Test.YtockhhleapbpiaaFilFOwn
import Derived.BigQuiet
import Derived.Deep.RegionHeld3
import Derived.Laws.EntriesVeiled
namespace Go.Proofs.Ytockhhleapbpiaa
open Go.RowKit Go.Shelf

theorem Mat.none {W : World} {B G n c : Nat} {R : Nat → Nat} {e : Nat → Nat → Bool} (h : Mat W B G n c R e) {v : Nat} (hv : v < n) (hc : c ≤ v) : W.cell? ⟨G, v, none⟩ = some (.slice none 0 0) := by
  rw [cell_of_row W G v _ _ (0, 0) h.top, List.getElem?_toArray, List.getElem?_eq_getElem (by rw [topV_length]; exact hv)]
  have : ¬ v < c := by omega
  simp [topV, this]
theorem topV_none (n : Nat) (R : Nat → Nat) : topV n 0 R = List.replicate n (.slice none 0 0) := by
  rw [topV]
  refine List.ext_getElem (by simp) fun i h1 h2 => ?_
  simp

set_option maxRecDepth 100000 in
set_option maxHeartbeats 20000000 in
theorem rFill_any (a : Option Addr) (ca : Nat) (L : List (List Int)) (w : World) (h : LsS w a L) (hl : ∀ l ∈ L, l.length ≤ 1000) (hL : L.length ≤ 1000) :
    Calls Try.prog 21 #[.slice a L.length ca] w fun e w' => Below w.heap.size w w' ∧
      ((nearB L = true ∧ ∃ x y Bs, e = .returned (.tuple #[x, y, .int .i64 0]) ∧ RwI w' w.heap.size x (iL (flS (parN L) L.length L.length).ord) ∧ OwI w' w.heap.size y Bs ∧ Bs.map (·.2) = (flS (parN L) L.length L.length).bag.map memL) ∨ (nearB L = false ∧ e = .returned (.tuple #[.slice none 0 0, .slice none 0 0, .int .i64 11]))) := by
  obtain ⟨i0, hi0, hz0, hz1, hz2⟩ := info_parts Try.infoBools1
  obtain ⟨i1, hi1, hy0, hy1, hy2⟩ := info_parts Try.infoBool1
  have HF := hid h
  have HK := hid (rListsOK_any a ca L w h (fun l hl' => by have := hl l hl'; omega) (by omega))
  have HL := hid hl
  have HG1 : Hid (gB L = false → nearB L = false) := fun h => by rw [nearB, h]; rfl
  cases hgb : gB L with
  | false =>
    have HE := hid (HG1.out hgb)
    rw [hgb] at HK
    clear hgb HG1 h hl
    go_enter Try.func21, Try.ntmps21
    go_wp2_with fail
    refine HK.out.mono ?_
    rintro e w1 ⟨rfl, hb1⟩
    go_wp2
    go_ret3
    exact ⟨hb1, .inr ⟨HE.out, rfl⟩⟩
  | true =>
    obtain ⟨hn1, h8, hris, -⟩ := gB_parts hgb
    have HNN : Hid (∀ i (h : i < L.length), ∀ y ∈ L[i], 0 ≤ y) := fun i hi => ris_nonneg (allRis_at hris hi)
    have HPG : Hid (∀ i (h : i < L.length), (parN L).getD i [] = toN L[i]) := fun i h => parN_get h
    have HNB := hid (nbr_of hgb)
    have HNI := hid (near_iff hgb)
    have HSQ := hid (flS_seq (parN L) L.length L.length)
    have HSB := hid (flS_bags (parN L) L.length L.length)
    rw [hgb] at HK
    have HINL : Hid (∀ (x v : Nat) (_ : v < L.length) (U : World), Below w.heap.size w U → ∃ g o b c, a = some ⟨g, o, none⟩ ∧ g < w.heap.size ∧ w.cell? ⟨g, o + v, none⟩ = some (.slice b (L.getD v []).length c) ∧ Calls Try.prog 26 #[.int .i64 (x : Nat), .slice b (L.getD v []).length c] U fun r w' => r = .returned (.bool (decide (x ∈ (parN L).getD v []))) ∧ w' = U) := fun x v hv U hb => by
      obtain ⟨g, o, b, c, h1, h2, h3, h4⟩ := h v hv
      have hgd : L.getD v [] = L[v] := by rw [List.getD_eq_getElem?_getD, List.getElem?_eq_getElem hv]; rfl
      rw [hgd]
      refine ⟨g, o, b, c, h1, h2, h3, ?_⟩
      have := rIn_any (x : Int) b c L[v] U (h4.below hb) (by have := hl _ (List.getElem_mem hv); omega)
      rw [inB_nat (by omega) (HNN.out v hv), Int.toNat_natCast, ← HPG.out v hv] at this
      exact this
    clear hgb HG1 HNN HPG hris
    generalize parN L = P at *
    generalize hn : L.length = n at *
    clear h hl
    go_enter Try.func21, Try.ntmps21
    go_wp2_with fail
    refine HK.out.mono ?_
    rintro e w1 ⟨rfl, hb1⟩
    have HB1 := hid hb1
    clear hb1 HK
    go_wp2_with (first
      | (at_make; refine wpList_make_full _ rfl _ _ 74 rfl w1.heap.size 75 i0 (.slice none 0 0) 1 Try.underlying74 hi0 hz0 hz1 .i64 .i64 _ _ n rfl rfl (by go_num) (by go_num) (by rw [hz2]; omega) (by unfold maxLen; omega) (Nat.le_refl _) ?_; intro w2 hown2 hgrow2))
    have hb2 := block_of_own hown2
    rw [made_slices] at hb2
    have HB2 := hid (HB1.out.trans (((Below.refl w1.heap.size w1).grown hgrow2 (Nat.le_refl _) (fun k e => by cases e)).mono HB1.out.size))
    have hsz := HB1.out.size
    have HM0 : Hid (Mat w2 w.heap.size w1.heap.size n 0 (fun _ => 0) (e0B P 0 0)) := ⟨by rw [topV_none]; exact hb2, fun v hv => absurd hv (Nat.not_lt_zero _), fun v _ hv => absurd hv (Nat.not_lt_zero _), fun v hv => absurd hv (Nat.not_lt_zero _), hsz⟩
    clear hown2 hgrow2 hb2
    obtain ⟨G, hG⟩ : ∃ G, G = w1.heap.size := ⟨_, rfl⟩
    rw [← hG] at HM0 ⊢
    clear hG hsz HB1
    go_wp2_with fail
    go_loopw [8] (fun vv wr => ∃ (v : Nat) (R : Nat → Nat), v ≤ n ∧ vv = .int .i64 v ∧ Hid (Mat wr w.heap.size G n v R (e0B P v 0)) ∧ Hid (Below w.heap.size w wr) ∧ Hid (∀ v' u', v' < v → u' < n → decide (u' ∈ P.getD v' []) = decide (v' ∈ P.getD u' []))) (fun vv _ => n - (intOf vv).toNat)
    case atStart => exact ⟨0, _, Nat.zero_le _, rfl, HM0, HB2, fun v' _ hv => absurd hv (Nat.not_lt_zero _)⟩
    case round =>
      obtain ⟨v, R, hv, rfl, HM, HB, HY⟩ := hrel
      clear HM0 HB2
      by_cases hvn : v < n
      · have hsz := HB.out.size
        have hGl : G < wr.heap.size := (Array.getElem?_eq_some_iff.1 HM.out.top).1
        go_wp2_with (first
          | (at_make; refine wpList_make_full _ rfl _ _ 75 rfl wr.heap.size 4 i1 (.bool false) 1 Try.underlying75 hi1 hy0 hy1 .i64 .i64 _ _ n rfl rfl (by go_num) (by go_num) (by rw [hy2]; omega) (by unfold maxLen; omega) (Nat.le_refl _) ?_; intro w3 hown3 hgrow3; have hbr3 := block_of_own hown3; rw [made_bools] at hbr3; have hbw3 := (Below.refl wr.heap.size wr).grown hgrow3 (Nat.le_refl _) (fun k e => by cases e); have HM3 := HM.out.below hbw3; have kc3 := HM3.none hvn (Nat.le_refl _); have kf3 := frozen_of_row w3 G v _ _ HM3.top))
        have HM4 := hid ((HM.out.more hbw3 (Nat.le_refl _) hsz (show RowB w3 wr.heap.size (List.replicate n false) by rw [RowB, List.map_replicate]; exact hbr3) hvn).congr (e' := e0B P v 0) fun v' u' h1 _ => e0B_new P h1 u')
        have HB4 : Hid (Below w.heap.size w (w3.setCell ⟨G, v, none⟩ (.slice (some ⟨wr.heap.size, 0, none⟩) n n))) := (HB.out.trans (hbw3.mono hsz)).setCell (p := ⟨G, v, none⟩) HM.out.gl _
        clear hown3 hgrow3 hbr3 hbw3 HM3 kc3 kf3 HM HB hGl
        generalize w3.setCell ⟨G, v, none⟩ (.slice (some ⟨wr.heap.size, 0, none⟩) n n) = W4 at *
        generalize (fun x => if x = v then wr.heap.size else R x) = R4 at *
        clear hsz
        go_wp2_with fail
        go_loopw [9] (fun uv wq => ∃ u : Nat, u ≤ n ∧ uv = .int .i64 u ∧ Hid (Mat wq w.heap.size G n (v + 1) R4 (e0B P v u)) ∧ Hid (Below w.heap.size w wq) ∧ Hid (∀ u', u' < u → decide (u' ∈ P.getD v []) = decide (v ∈ P.getD u' []))) (fun uv _ => n - (intOf uv).toNat)
        case atStart => exact ⟨0, Nat.zero_le _, rfl, HM4, HB4, fun u' hu => absurd hu (Nat.not_lt_zero _)⟩
        case round =>
          obtain ⟨u, hu, rfl, HM, HB, HX⟩ := hrel
          clear HM4 HB4
          by_cases hun : u < n
          · obtain ⟨g, o, b, c, rfl, hg, c0, -⟩ := HINL.out u v (by omega) wr HB.out
            obtain ⟨g', o', b', c', he', -, c1, -⟩ := HINL.out v u (by omega) wr HB.out
            cases he'
            have HI0 : Hid (∀ U : World, Below w.heap.size w U → Calls Try.prog 26 #[.int .i64 (u : Nat), .slice b (L.getD v []).length c] U fun r w' => r = .returned (.bool (decide (u ∈ P.getD v []))) ∧ w' = U) := fun U hb => by
              obtain ⟨g2, o2, b2, c2, e2, -, c3, h3⟩ := HINL.out u v (by omega) U hb
              cases e2
              rw [c0] at c3
              cases c3
              exact h3
            have HI1 : Hid (∀ U : World, Below w.heap.size w U → Calls Try.prog 26 #[.int .i64 (v : Nat), .slice b' (L.getD u []).length c'] U fun r w' => r = .returned (.bool (decide (v ∈ P.getD u []))) ∧ w' = U) := fun U hb => by
              obtain ⟨g2, o2, b2, c2, e2, -, c3, h3⟩ := HINL.out v u (by omega) U hb
              cases e2
              rw [c1] at c3
              cases c3
              exact h3
            have HC0 : Hid (∀ U : World, Below w.heap.size w U → U.cell? ⟨g, o + v, none⟩ = some (.slice b (L.getD v []).length c)) := fun U hb => (hb.cell (p := ⟨g, _, none⟩) hg).trans c0
            have HC1 : Hid (∀ U : World, Below w.heap.size w U → U.cell? ⟨g, o + u, none⟩ = some (.slice b' (L.getD u []).length c')) := fun U hb => (hb.cell (p := ⟨g, _, none⟩) hg).trans c1
            clear c0 c1
            generalize (L.getD v []).length = lv at *
            generalize (L.getD u []).length = lu at *
            have HPUT : Hid (Mat (wr.setCell ⟨R4 v, u, none⟩ (.bool (decide (u ∈ P.getD v [])))) w.heap.size G n (v + 1) R4 (e0B P v (u + 1))) := HM.out.set (by omega) (by omega) (e0B_put P v u)
            have HBP : Hid (Below w.heap.size w (wr.setCell ⟨R4 v, u, none⟩ (.bool (decide (u ∈ P.getD v []))))) := HB.out.setCell (p := ⟨R4 v, u, none⟩) (HM.out.low v (by omega)) _
            have HZ1 : Hid (wr.cell? ⟨R4 v, u, none⟩ = some (.bool (e0B P v u v u))) := HM.out.cell (by omega) (by omega) hun
            have HZ2 : Hid (wr.frozen? ⟨R4 v, u, none⟩ = false) := (HM.out.row v (by omega) (by omega)).fz u
            have HSL : Hid (∀ e U, Mat U w.heap.size G n (v + 1) R4 e → U.cell? ⟨G, v, none⟩ = some (.slice (some ⟨R4 v, 0, none⟩) n n)) := fun e U h => h.slice (by omega) (by omega)
            have HCE : Hid (∀ e U, Mat U w.heap.size G n (v + 1) R4 e → U.cell? ⟨R4 v, u, none⟩ = some (.bool (e v u))) := fun e U h => h.cell (by omega) (by omega) hun
            have HEV : Hid (e0B P v (u + 1) v u = decide (u ∈ P.getD v [])) := by show _ = _; rw [e0B_put, if_pos ⟨rfl, rfl⟩]
            have HXX : Hid (decide (u ∈ P.getD v []) = decide (v ∈ P.getD u []) → ∀ u', u' < u + 1 → decide (u' ∈ P.getD v []) = decide (v ∈ P.getD u' [])) := fun h u' hu' => by
              rcases Nat.lt_or_ge u' u with h3 | h3
              · exact HX.out u' h3
              · rw [show u' = u by omega]; exact h
            have HXY : Hid (decide (u ∈ P.getD v []) ≠ decide (v ∈ P.getD u []) → nearB L = false) := fun h => by
              cases hq : nearB L
              · rfl
              · exact absurd (HNI.out.1 hq v u hvn hun) h
            clear HX
            generalize decide (u ∈ P.getD v []) = q1 at *
            generalize decide (v ∈ P.getD u []) = q2 at *
            generalize e0B P v u v u = q0 at *
            obtain ⟨rv, hrv⟩ : ∃ rv, rv = R4 v := ⟨_, rfl⟩
            rw [← hrv] at HPUT HBP HZ1 HZ2 HSL HCE
            clear hrv
            have hslD := HSL.out _ _ (HM.out.below (Below.refl _ wr).drew)
            have hslW := HSL.out _ _ HM.out
            go_upto_region 13 with fail
            refine wp_region_held_drew (S := fun U => U.cell? ⟨G, v, none⟩ = some (.slice (some ⟨rv, 0, none⟩) n n) ∧ U.cell? ⟨g, o + v, none⟩ = some (.slice b lv c)) (by kernel_rfl) ⟨hslD, HC0.out _ HB.out.drew⟩ (fun hSd => ?_)
            clear hslW hslD
            refine wpAnyH_take (i := 0) (oi := _) (v := .slice (some ⟨G, 0, none⟩) n n) rfl (by kernel_rfl) (by kernel_rfl) (by kernel_rfl) (fun _ _ _ h => h) (Or.inl ⟨by rfl, ?_⟩) (by assumption) ?_
            · intro u' hSu
              (try simp only [List.getElem_toArray, List.getElem_cons_zero])
              go_simp
            (try simp only [List.getElem_toArray, List.getElem_cons_zero])
            (try simp only [Act.put, List.setIfInBounds_toArray, List.set_cons_zero, List.set_cons_succ])
            refine wpAnyH_take (i := 1) (oi := _) (v := .int .i64 (v : Nat)) rfl (by kernel_rfl) (by kernel_rfl) (by kernel_rfl) (fun _ _ _ h => h) (Or.inl ⟨by rfl, ?_⟩) (by assumption) ?_
            · intro u' hSu
              (try simp only [List.getElem_toArray, List.getElem_cons_zero, List.getElem_cons_succ])
              go_simp
            (try simp only [List.getElem_toArray, List.getElem_cons_zero, List.getElem_cons_succ])
            (try simp only [Act.put, List.setIfInBounds_toArray, List.set_cons_zero, List.set_cons_succ])
            refine wpAnyH_take (i := 2) (oi := _) (v := .pointer (some ⟨G, v, none⟩)) rfl (by kernel_rfl) (by kernel_rfl) (by kernel_rfl) (fun _ _ _ h => h) (Or.inl ⟨by rfl, ?_⟩) (by assumption) ?_
            · intro u' hSu
              (try simp only [List.getElem_toArray, List.getElem_cons_zero, List.getElem_cons_succ])
              go_simp
            (try simp only [List.getElem_toArray, List.getElem_cons_zero, List.getElem_cons_succ])
            (try simp only [Act.put, List.setIfInBounds_toArray, List.set_cons_zero, List.set_cons_succ])
            refine wpAnyH_take (i := 3) (oi := _) (v := .slice (some ⟨rv, 0, none⟩) n n) rfl (by kernel_rfl) (by kernel_rfl) (by kernel_rfl) (fun _ _ _ h => h) (Or.inl ⟨by rfl, ?_⟩) (by assumption) ?_
            · intro u' hSu
              (try simp only [List.getElem_toArray, List.getElem_cons_zero, List.getElem_cons_succ])
              obtain ⟨s1, s2⟩ := hSu
              go_simp
            (try simp only [List.getElem_toArray, List.getElem_cons_zero, List.getElem_cons_succ])
            (try simp only [Act.put, List.setIfInBounds_toArray, List.set_cons_zero, List.set_cons_succ])
            refine wpAnyH_take (i := 4) (oi := _) (v := .int .i64 (u : Nat)) rfl (by kernel_rfl) (by kernel_rfl) (by kernel_rfl) (fun _ _ _ h => h) (Or.inl ⟨by rfl, ?_⟩) (by assumption) ?_
            · intro u' hSu
              (try simp only [List.getElem_toArray, List.getElem_cons_zero, List.getElem_cons_succ])
              go_simp
            (try simp only [List.getElem_toArray, List.getElem_cons_zero, List.getElem_cons_succ])
            (try simp only [Act.put, List.setIfInBounds_toArray, List.set_cons_zero, List.set_cons_succ])
            refine wpAnyH_take (i := 5) (oi := _) (v := .int .i64 (u : Nat)) rfl (by kernel_rfl) (by kernel_rfl) (by kernel_rfl) (fun _ _ _ h => h) (Or.inl ⟨by rfl, ?_⟩) (by assumption) ?_
            · intro u' hSu
              (try simp only [List.getElem_toArray, List.getElem_cons_zero, List.getElem_cons_succ])
              go_simp
            (try simp only [List.getElem_toArray, List.getElem_cons_zero, List.getElem_cons_succ])
            (try simp only [Act.put, List.setIfInBounds_toArray, List.set_cons_zero, List.set_cons_succ])
            refine wpAnyH_take (i := 6) (oi := _) (v := .slice (some ⟨g, o, none⟩) n ca) rfl (by kernel_rfl) (by kernel_rfl) (by kernel_rfl) (fun _ _ _ h => h) (Or.inl ⟨by rfl, ?_⟩) (by assumption) ?_
            · intro u' hSu
              (try simp only [List.getElem_toArray, List.getElem_cons_zero, List.getElem_cons_succ])
              go_simp
            (try simp only [List.getElem_toArray, List.getElem_cons_zero, List.getElem_cons_succ])
            (try simp only [Act.put, List.setIfInBounds_toArray, List.set_cons_zero, List.set_cons_succ])
            refine wpAnyH_take (i := 7) (oi := _) (v := .int .i64 (v : Nat)) rfl (by kernel_rfl) (by kernel_rfl) (by kernel_rfl) (fun _ _ _ h => h) (Or.inl ⟨by rfl, ?_⟩) (by assumption) ?_
            · intro u' hSu
              (try simp only [List.getElem_toArray, List.getElem_cons_zero, List.getElem_cons_succ])
              go_simp
            (try simp only [List.getElem_toArray, List.getElem_cons_zero, List.getElem_cons_succ])
            (try simp only [Act.put, List.setIfInBounds_toArray, List.set_cons_zero, List.set_cons_succ])
            refine wpAnyH_take (i := 8) (oi := _) (v := .pointer (some ⟨g, o + v, none⟩)) rfl (by kernel_rfl) (by kernel_rfl) (by kernel_rfl) (fun _ _ _ h => h) (Or.inl ⟨by rfl, ?_⟩) (by assumption) ?_
            · intro u' hSu
              (try simp only [List.getElem_toArray, List.getElem_cons_zero, List.getElem_cons_succ])
              go_simp
            (try simp only [List.getElem_toArray, List.getElem_cons_zero, List.getElem_cons_succ])
            (try simp only [Act.put, List.setIfInBounds_toArray, List.set_cons_zero, List.set_cons_succ])
            refine wpAnyH_take (i := 9) (oi := _) (v := .slice b lv c) rfl (by kernel_rfl) (by kernel_rfl) (by kernel_rfl) (fun _ _ _ h => h) (Or.inl ⟨by rfl, ?_⟩) (by assumption) ?_
            · intro u' hSu
              (try simp only [List.getElem_toArray, List.getElem_cons_zero, List.getElem_cons_succ])
              obtain ⟨s1, s2⟩ := hSu
              go_simp
            (try simp only [List.getElem_toArray, List.getElem_cons_zero, List.getElem_cons_succ])
            (try simp only [Act.put, List.setIfInBounds_toArray, List.set_cons_zero, List.set_cons_succ])
            refine wpAnyH_ready (rs := [10]) (by kernel_rfl) (by simp) (AllReadyH.cons rfl ?_ (AllReadyH.nil))
            · intro K' hK'
              (try simp only [List.getElem_toArray, List.getElem_cons_zero, List.getElem_cons_succ])
              go_simp
              refine (HI0.out _ HB.out.drew).mono ?_
              rintro r U1 ⟨rfl, hU1⟩
              subst hU1
              refine hK'.out _ _ hSd (fun hSe => ?_)
              clear hK' K' hSe
              (try simp only [List.getElem_toArray, List.getElem_cons_zero, List.getElem_cons_succ])
              (try simp only [Act.put, List.setIfInBounds_toArray, List.set_cons_zero, List.set_cons_succ])
              refine wpAnyH_take (i := 11) (oi := _) (v := .pointer (some ⟨rv, u, none⟩)) rfl (by kernel_rfl) (by kernel_rfl) (by kernel_rfl) (fun _ _ _ h => h) (Or.inl ⟨by rfl, ?_⟩) (by assumption) ?_
              · intro u' hSu
                (try simp only [List.getElem_toArray, List.getElem_cons_zero, List.getElem_cons_succ])
                go_simp
              (try simp only [List.getElem_toArray, List.getElem_cons_zero, List.getElem_cons_succ])
              (try simp only [Act.put, List.setIfInBounds_toArray, List.set_cons_zero, List.set_cons_succ])
              have hz1 := HZ1.out
              have hz2 := HZ2.out
              have hz1' : wr.drew.cell? ⟨rv, u, none⟩ = some (.bool q0) := hz1
              have hz2' : wr.drew.frozen? ⟨rv, u, none⟩ = false := hz2
              refine wpAnyH_ready (rs := [12]) (by kernel_rfl) (by simp) (AllReadyH.cons rfl ?_ (AllReadyH.nil))
              · intro K' hK'
                (try simp only [List.getElem_toArray, List.getElem_cons_zero, List.getElem_cons_succ])
                go_simp
                refine hK'.out _ _ ⟨HSL.out _ _ (HPUT.out.below (Below.refl _ _).drew), HC0.out _ HBP.out.drew⟩ (fun _ => wpAnyH_done (by kernel_rfl) ?_ _)
                clear hK' K' hSd hz1 hz2 hz1' hz2' HZ1 HZ2
                have HP5 := hid (HPUT.out.below (Below.refl _ _).drew)
                have HB5 := hid HBP.out.drew
                clear HPUT HBP HM HB
                generalize (wr.setCell ⟨rv, u, none⟩ (.bool q1)).drew = W5 at *
                have c1 := HC1.out W5 HB5.out
                have s5 := HSL.out _ _ HP5.out
                have e5 := HCE.out _ _ HP5.out
                rw [HEV.out] at e5
                have HI5 := hid (HI1.out W5 HB5.out)
                clear HI0 HI1 HC0 HC1 HSL HCE HEV
                go_wp2_with fail
                refine HI5.out.mono ?_
                rintro r w6 ⟨rfl, rfl⟩
                by_cases hq : q1 = q2
                · subst hq
                  have HXN : Hid (∀ u', u' < u + 1 → decide (u' ∈ P.getD v []) = decide (v ∈ P.getD u' [])) := HXX.out rfl
                  cases q1
                  all_goals
                    go_wp2
                    go_roundw
                    case rel => exact ⟨u + 1, by omega, by go_num, HP5, HB5, HXN⟩
                    case measure => simp [intOf]; omega
                · have HNE := hid (HXY.out hq)
                  cases q1 <;> cases q2
                  all_goals first
                    | exact absurd rfl hq
                    | (go_wp2
                       go_ret3
                       exact ⟨HB5.out, .inr ⟨HNE.out, rfl⟩⟩)
          · obtain rfl : u = n := by omega
            have HMN := hid (HM.out.congr (e' := e0B P (v + 1) 0) fun v' u' h1 h2 => e0B_next h1 h2)
            have HYN : Hid (∀ v' u', v' < v + 1 → u' < u → decide (u' ∈ P.getD v' []) = decide (v' ∈ P.getD u' [])) := fun v' u' h1 h2 => by
              rcases Nat.lt_or_ge v' v with h3 | h3
              · exact HY.out v' u' h3 h2
              · rw [show v' = v by omega]; exact HX.out u' h2
            clear HM HX HY
            go_wp2
            go_roundw
            case rel => exact ⟨v + 1, R4, by omega, by go_num, HMN, HB, HYN⟩
            case measure => simp [intOf]; omega
      · obtain rfl : n = v := by omega
        have HNE := hid (HNI.out.2 fun v' u' h1 h2 => HY.out v' u' h1 h2)
        have hsym : ∀ u, u < n → ∀ x, x ∈ P.getD u [] → u ∈ P.getD x [] := fun u hu x hx => by
          have hxn := HNB.out.at u x hx
          exact of_decide_eq_true ((HY.out u x hu hxn).symm.trans (decide_eq_true hx))
        have HFI := hid (FI.all HNB.out hsym h8)
        have HLA : Hid (∀ k, k ≤ n → ∀ x, x ∈ (flS P n k).lft → prsB (lkF (emB P n k) ((List.range k).map (outV P n)) x) n = lackN (flS P n k).nei x) := fun k hk x hx => FI.lacks HNB.out HFI.out h8 hk hx
        have HBG : Hid (∀ k, k < n → bgL P n k n = bagN P n k) := fun k hk => FI.bgL HNB.out HFI.out h8 hk
        have HFS0 : Hid (FW w P n 0 R G (.slice none 0 0) (.slice none 0 0) [] wr) := ⟨HM.out.congr fun v' u' h1 _ => by simp [e0B, emB, h1], ⟨rfl, .inl ⟨rfl, rfl⟩⟩, OwI.nil _ _, rfl, (fun p hp => by cases hp), HB.out⟩
        clear HM HB HY HNI hsym HINL
        go_wp2_with fail
        go_loopw [11, 12] (fun ov bv wr => ∃ (k : Nat) (Bs : List PI2), k ≤ n ∧ Hid (FW w P n k R G ov bv Bs wr) ∧ ∃ d cd, ov = .slice d k cd) (fun ov _ _ => n - (match ov with | .slice _ m _ => m | _ => 0))
        case atStart => exact ⟨0, [], Nat.zero_le _, HFS0, none, 0, rfl⟩
        case round =>
          obtain ⟨k, Bs, hk, HS, d, cd, rfl⟩ := hrel
          clear HFS0
          by_cases hkn : k < n
          · have HF := hid (HFI.out k hk)
            have hIo : IntS wr d (iL ((List.range k).map (outV P n))) := by
              obtain ⟨d', cd', e, hi⟩ := HS.out.ord.ints
              injection e with e1 e2 e3
              subst e1
              exact hi
            have hol : ((List.range k).map (outV P n)).length = k := by simp
            have HIN : Hid (∀ (x : Nat) (U : World), Below wr.heap.size wr U → Calls Try.prog 26 #[.int .i64 (x : Nat), .slice d k cd] U fun r w' => r = .returned (.bool (decide (x ∈ (List.range k).map (outV P n)))) ∧ w' = U) := fun x U hb => by
              have := rIn_any (x : Int) d cd (iL ((List.range k).map (outV P n))) U (hIo.below hb) (by rw [iL_length, hol]; omega)
              rw [iL_length, hol, inB_iL _ (by omega : (0 : Int) ≤ (x : Int)), Int.toNat_natCast] at this
              exact this
            have HLC : Hid (∀ x : Nat, x < n → x ∈ (flS P n k).lft → Calls Try.prog 52 #[.slice (some ⟨G, 0, none⟩) n n, .int .i64 (x : Nat), .slice d k cd] wr fun r w' => r = .returned (.int .i64 (lackN (flS P n k).nei x : Nat)) ∧ w' = wr) := fun x hx hxl => by
              have := lacks_any w.heap.size G n x R (emB P n k) d cd ((List.range k).map (outV P n)) wr HS.out.mat hx h8 hIo (by omega)
              rw [hol, HLA.out k hk x hxl] at this
              exact this
            have HGO : Hid (∀ x, x < n → (x ∈ (flS P n k).lft ↔ ¬ x ∈ (List.range k).map (outV P n))) := fun x hx => HF.out.gone hx
            have HDO := hid (dn_out HF.out hkn h8)
            have HDS : Hid (∀ j, dnN (lackN (flS P n k).nei) (flS P n k).lft n (j + 1) = if n - 1 - j ∈ (flS P n k).lft then (match dnN (lackN (flS P n k).nei) (flS P n k).lft n j with | none => some (n - 1 - j, lackN (flS P n k).nei (n - 1 - j)) | some (b, m) => if lackN (flS P n k).nei (n - 1 - j) ≤ m then some (n - 1 - j, lackN (flS P n k).nei (n - 1 - j)) else some (b, m)) else dnN (lackN (flS P n k).nei) (flS P n k).lft n j) := fun j => rfl
            have HD0 : Hid (dnN (lackN (flS P n k).nei) (flS P n k).lft n 0 = none) := rfl
            have HBY : Hid (∀ u, ¬ u ∈ (List.range k).map (outV P n) → (u = outV P n k ∨ emB P n k (outV P n k) u = true) → bgL P n k (u + 1) = bgL P n k u ++ [u]) := fun u h1 h2 => bgL_yes h1 h2
            have HBN : Hid (∀ u, (!decide (u ∈ (List.range k).map (outV P n)) && (decide (u = outV P n k) || emB P n k (outV P n k) u)) = false → bgL P n k (u + 1) = bgL P n k u) := fun u h => bgL_no h
            have HBL := hid (bgL_len P n k)
            have HBGk := hid (HBG.out k hkn)
            have hov : outV P n k < n := ((HF.out.left _).1 (HF.out.here hkn h8)).1
            have HLT := hid (bagN_lt HF.out hkn h8)
            have hlen := bagN_len P n k
            have HEM : Hid (∀ v u, emB P n (k + 1) v u = (emB P n k v u || (decide (v ≠ u) && (decide (v ∈ bagN P n k) && decide (u ∈ bagN P n k))))) := fun v u => rfl
            have HB0 : Hid (bgL P n k 0 = []) := rfl
            clear hIo hol HF HFI HLA HBG
            generalize lackN (flS P n k).nei = f at *
            generalize (flS P n k).lft = s at *
            generalize dnN f s n = D at *
            generalize wr = U at *
            go_wp2_with fail
            go_loopw [13, 14, 15] (fun bv lv vv wq => ∃ j : Nat, j ≤ n ∧ vv = .int .i64 ((n : Int) - 1 - (j : Int)) ∧ bv = .int .i64 (bsI (D j)) ∧ lv = .int .i64 (lsI (D j) : Nat) ∧ wq = U) (fun _ _ vv _ => (intOf vv + 1).toNat)
            case atStart => exact ⟨0, Nat.zero_le _, by go_num, by rw [HD0.out]; rfl, by rw [HD0.out]; rfl, rfl⟩
            case round =>
              obtain ⟨j, hj, rfl, rfl, rfl, rfl⟩ := hrel
              by_cases hjn : j < n
              · obtain ⟨x, hx⟩ : ∃ x, x = n - 1 - j := ⟨_, rfl⟩
                have hxn : x < n := by omega
                have hxi : (n : Int) - 1 - (j : Int) = (x : Int) := by omega
                have hx1 : (n : Int) - 1 - ((j + 1 : Nat) : Int) = (x : Int) - 1 := by omega
                have HDj := hid (HDS.out j)
                rw [← hx] at HDj
                rw [hxi]
                have HGx := hid (HGO.out x hxn)
                have HLx := hid (HLC.out x hxn)
                have HIx := hid (HIN.out x wr (Below.refl _ _))
                clear HDS HGO HLC hxi hx
                go_wp2_with fail
                refine HIx.out.mono ?_
                rintro r w6 ⟨rfl, rfl⟩
                by_cases hgone : x ∈ (List.range k).map (outV P n)
                · rw [decide_eq_true hgone]
                  have HE : Hid (D (j + 1) = D j) := by show _ = _; rw [HDj.out, if_neg fun h => HGx.out.1 h hgone]
                  clear HDj HGx HLx hgone
                  go_wp2
                  go_roundw
                  case rel => exact ⟨j + 1, by omega, by first | (rw [hx1]; done) | (rw [hx1]; go_num), by rw [HE.out], by rw [HE.out], by first | rfl | trivial⟩
                  case measure => simp [intOf] <;> omega
                · rw [decide_eq_false hgone]
                  have hxs := HGx.out.2 hgone
                  have HC := hid (HLx.out hxs)
                  rw [if_pos hxs] at HDj
                  clear HGx HLx hgone hxs
                  generalize f x = fx at *
                  go_wp2_with fail
                  refine HC.out.mono ?_
                  rintro r w7 ⟨rfl, rfl⟩
                  clear HC
                  generalize D j = dj at *
                  generalize hdj1 : D (j + 1) = dj1 at *
                  have HD1 := hid hdj1
                  clear hdj1
                  cases dj with
                  | none =>
                    have HE : Hid (dj1 = some (x, fx)) := HDj.out
                    clear HDj
                    simp only [bsI, lsI]
                    go_wp2
                    go_roundw
                    case rel => exact ⟨j + 1, by omega, by first | (rw [hx1]; done) | (rw [hx1]; go_num), by rw [HD1.out, HE.out]; rfl, by rw [HD1.out, HE.out]; rfl, by first | rfl | trivial⟩
                    case measure => simp [intOf] <;> omega
                  | some p =>
                    obtain ⟨b, m⟩ := p
                    simp only [bsI, lsI]
                    by_cases hle : fx ≤ m
                    · have HE : Hid (dj1 = some (x, fx)) := HDj.out.trans (if_pos hle)
                      clear HDj
                      go_wp2
                      go_roundw
                      case rel => exact ⟨j + 1, by omega, by first | (rw [hx1]; done) | (rw [hx1]; go_num), by rw [HD1.out, HE.out]; rfl, by rw [HD1.out, HE.out]; rfl, by first | rfl | trivial⟩
                      case measure => simp [intOf] <;> omega
                    · have HE : Hid (dj1 = some (b, m)) := HDj.out.trans (if_neg hle)
                      clear HDj
                      go_wp2
                      go_roundw
                      case rel => exact ⟨j + 1, by omega, by first | (rw [hx1]; done) | (rw [hx1]; go_num), by rw [HD1.out, HE.out]; rfl, by rw [HD1.out, HE.out]; rfl, by first | rfl | trivial⟩
                      case measure => simp [intOf] <;> omega
              · obtain rfl : n = j := by omega
                rw [HDO.out]
                clear HDO HDS HD0 HGO HLC
                have hm1 : (n : Int) - 1 - (n : Int) = -1 := by omega
                rw [hm1]
                generalize lsI (D n) = lz at *
                clear hm1
                generalize wr = U at *
                have HOE : Hid (∀ W, Below U.heap.size U W → ∀ u, u < n → W.cell? ⟨G, outV P n k, none⟩ = some (.slice (some ⟨R (outV P n k), 0, none⟩) n n) ∧ W.cell? ⟨R (outV P n k), u, none⟩ = some (.bool (emB P n k (outV P n k) u))) := fun W hb u hu => ⟨(HS.out.mat.below hb).slice hov hov, (HS.out.mat.below hb).cell hov hov hu⟩
                obtain ⟨best, hbest⟩ : ∃ best, best = outV P n k := ⟨_, rfl⟩
                rw [← hbest] at HBY HBN HOE hov ⊢
                have HBEST := hid hbest
                clear hbest
                go_wp2_with fail
                go_loopw [18, 19] (fun xv uv wq => ∃ u : Nat, u ≤ n ∧ uv = .int .i64 u ∧ Hid (RwI wq U.heap.size xv (iL (bgL P n k u))) ∧ Hid (Below U.heap.size U wq)) (fun _ uv _ => n - (intOf uv).toNat)
                case atStart => exact ⟨0, Nat.zero_le _, rfl, by rw [HB0.out]; exact ⟨rfl, .inl ⟨rfl, rfl⟩⟩, Below.refl _ _⟩
                case round =>
                  obtain ⟨u, hu, rfl, HX, HB⟩ := hrel
                  obtain ⟨dx, cx, rfl, -⟩ := HX.out.ints
                  by_cases hun : u < n
                  · have HIx := hid (HIN.out u wr HB.out)
                    obtain ⟨ce0, ce1⟩ := HOE.out wr HB.out u hun
                    have HYu := hid (HBY.out u)
                    have HNu := hid (HBN.out u)
                    have hln := HBL.out u
                    generalize emB P n k best u = q at *
                    go_wp2_with fail
                    refine HIx.out.mono ?_
                    rintro r w6 ⟨rfl, rfl⟩
                    clear HIx
                    by_cases hgone : u ∈ (List.range k).map (outV P n)
                    · rw [decide_eq_true hgone]
                      have HE := hid (HNu.out (by rw [decide_eq_true hgone]; rfl))
                      clear HYu HNu hgone
                      go_wp2
                      go_roundw
                      case rel => exact ⟨u + 1, by omega, by go_num, by rw [HE.out]; exact HX, HB⟩
                      case measure => simp [intOf]; omega
                    · rw [decide_eq_false hgone]
                      by_cases hub : u = best
                      · have HE := hid (HYu.out hgone (.inl hub))
                        clear HYu HNu hgone ce0 ce1
                        have hubi : (((u : Nat) : Int) == ((best : Nat) : Int)) = true := by rw [hub]; exact beq_self_eq_true _
                        clear hub
                        have HOWN := hid HX.out.own
                        have HRA := hid (World.ownsRow.alloc HX.out (.cells #[.int .i64 (u : Nat)] 3))
                        have HBA := hid (HB.out.alloc HB.out.size (.cells #[.int .i64 (u : Nat)] 3))
                        have HIA := hid (one_int w6 (u : Nat))
                        go_wp2_with (at_builtin; refine wpList_append_ints rfl _ _ rfl U.heap.size _ (iL (bgL P n k u)) [((u : Nat) : Int)] rfl HRA.out (some ⟨w6.heap.size, 0, none⟩) 1 rfl HIA.out (fun e => by cases e) (by rw [iL_length]; simp; omega) HBA.out.size ?_; intro v' w7 hr7 hg7)
                        have HR7 : Hid (RwI w7 U.heap.size v' (iL (bgL P n k (u + 1)))) := by show RwI w7 U.heap.size v' (iL (bgL P n k (u + 1))); rw [HE.out, iL_append]; exact hr7
                        have HB7 := hid (HBA.out.grown hg7 HBA.out.size HOWN.out)
                        clear hr7 hg7
                        go_wp2
                        go_roundw
                        case rel => exact ⟨u + 1, by omega, by go_num, HR7, HB7⟩
                        case measure => simp [intOf]; omega
                      · have hubi : (((u : Nat) : Int) == ((best : Nat) : Int)) = false := beq_eq_false_iff_ne.2 (by omega)
                        cases q with
                        | true =>
                          have HE := hid (HYu.out hgone (.inr rfl))
                          clear HYu HNu hgone
                          have HOWN := hid HX.out.own
                          have HRA := hid (World.ownsRow.alloc HX.out (.cells #[.int .i64 (u : Nat)] 3))
                          have HBA := hid (HB.out.alloc HB.out.size (.cells #[.int .i64 (u : Nat)] 3))
                          have HIA := hid (one_int w6 (u : Nat))
                          go_wp2_with (at_builtin; refine wpList_append_ints rfl _ _ rfl U.heap.size _ (iL (bgL P n k u)) [((u : Nat) : Int)] rfl HRA.out (some ⟨w6.heap.size, 0, none⟩) 1 rfl HIA.out (fun e => by cases e) (by rw [iL_length]; simp; omega) HBA.out.size ?_; intro v' w7 hr7 hg7)
                          have HR7 : Hid (RwI w7 U.heap.size v' (iL (bgL P n k (u + 1)))) := by show RwI w7 U.heap.size v' (iL (bgL P n k (u + 1))); rw [HE.out, iL_append]; exact hr7
                          have HB7 := hid (HBA.out.grown hg7 HBA.out.size HOWN.out)
                          clear hr7 hg7
                          go_wp2
                          go_roundw
                          case rel => exact ⟨u + 1, by omega, by go_num, HR7, HB7⟩
                          case measure => simp [intOf]; omega
                        | false =>
                          have HE := hid (HNu.out (by rw [decide_eq_false hub]; simp))
                          clear HYu HNu hgone
                          go_wp2
                          go_roundw
                          case rel => exact ⟨u + 1, by omega, by go_num, by rw [HE.out]; exact HX, HB⟩
                          case measure => simp [intOf]; omega
                  · obtain rfl : n = u := by omega
                    rw [HBGk.out] at HX
                    have HM0 := hid ((HS.out.mid HB.out HX.out).congr (e' := exB (emB P n k) (bagN P n k) 0 0) fun v' u' => (exB_start _ _ v' u').symm)
                    have HIB : Hid (∀ e W, FM w U P n k R G (.slice d k cd) u12 Bs (.slice dx (iL (bagN P n k)).length cx) e W → ∀ i (hi : i < (bagN P n k).length), ∃ g, dx = some ⟨g, 0, none⟩ ∧ W.cell? ⟨g, i, none⟩ = some (.int .i64 (((bagN P n k)[i] : Nat) : Int))) := fun e W h i hi => by
                      have hx := h.new
                      obtain ⟨g, c, h1, h2, h3, h4⟩ := own_at hx (by rw [iL_length]; omega)
                      injection h1 with h5 h6 h7
                      subst h5
                      have := h4 i (by rw [List.length_map, iL_length]; exact hi)
                      refine ⟨g, rfl, ?_⟩
                      rw [this]
                      simp [iL]
                    have HXS : Hid (∀ i j v' u', i < (bagN P n k).length → (hi : i < (bagN P n k).length) → (hj : j < (bagN P n k).length) → (bagN P n k)[i] = (bagN P n k)[j] → exB (emB P n k) (bagN P n k) i (j + 1) v' u' = exB (emB P n k) (bagN P n k) i j v' u') := fun i j v' u' _ hi hj he => exB_same _ hi hj he v' u'
                    have HXP : Hid (∀ i j v' u', (hi : i < (bagN P n k).length) → (hj : j < (bagN P n k).length) → (bagN P n k)[i] ≠ (bagN P n k)[j] → exB (emB P n k) (bagN P n k) i (j + 1) v' u' = if v' = (bagN P n k)[i] ∧ u' = (bagN P n k)[j] then true else exB (emB P n k) (bagN P n k) i j v' u') := fun i j v' u' hi hj he => exB_put _ hi hj he v' u'
                    have HXN : Hid (∀ i v' u', i < (bagN P n k).length → exB (emB P n k) (bagN P n k) i (bagN P n k).length v' u' = exB (emB P n k) (bagN P n k) (i + 1) 0 v' u') := fun i v' u' hi => exB_next _ hi v' u'
                    have HXE : Hid (∀ v' u', exB (emB P n k) (bagN P n k) (bagN P n k).length 0 v' u' = emB P n (k + 1) v' u') := fun v' u' => by rw [exB_end, HEM.out]
                    have hbl : (iL (bagN P n k)).length = (bagN P n k).length := iL_length _
                    rw [HBGk.out, hbl]
                    rw [hbl] at HM0 HIB
                    clear HX HB HEM HB0 HBL HBY HBN HOE HIN hbl
                    generalize exB (emB P n k) (bagN P n k) = ex at *
                    go_wp2_with fail
                    go_loopw [21] (fun iv wq => ∃ i : Nat, i ≤ (bagN P n k).length ∧ iv = .int .i64 i ∧ Hid (FM w U P n k R G (.slice d k cd) u12 Bs (.slice dx (bagN P n k).length cx) (ex i 0) wq)) (fun iv _ => (bagN P n k).length - (intOf iv).toNat)
                    case atStart => exact ⟨0, Nat.zero_le _, rfl, HM0⟩
                    case round =>
                      obtain ⟨i, hi, rfl, HM⟩ := hrel
                      clear HM0
                      by_cases hil : i < (bagN P n k).length
                      · have HBi := hid (fun e W h => HIB.out e W h i hil)
                        have hbi : (bagN P n k)[i] < n := HLT.out _ (List.getElem_mem hil)
                        have HXSi := hid (fun j v' u' => HXS.out i j v' u' hil hil)
                        have HXPi := hid (fun j v' u' => HXP.out i j v' u' hil)
                        have HXNi := hid (fun v' u' => HXN.out i v' u' hil)
                        clear HXN
                        generalize (bagN P n k)[i] = bi at *
                        go_wp2_with fail
                        go_loopw [22] (fun jv wq => ∃ j : Nat, j ≤ (bagN P n k).length ∧ jv = .int .i64 j ∧ Hid (FM w U P n k R G (.slice d k cd) u12 Bs (.slice dx (bagN P n k).length cx) (ex i j) wq)) (fun jv _ => (bagN P n k).length - (intOf jv).toNat)
                        case atStart => exact ⟨0, Nat.zero_le _, rfl, HM⟩
                        case round =>
                          obtain ⟨j, hj, rfl, HM⟩ := hrel
                          by_cases hjl : j < (bagN P n k).length
                          · obtain ⟨g, rfl, ci⟩ := HBi.out _ _ HM.out
                            obtain ⟨g', he, cj⟩ := HIB.out _ _ HM.out j hjl
                            cases he
                            have hbj : (bagN P n k)[j] < n := HLT.out _ (List.getElem_mem hjl)
                            have HXSj := hid (fun v' u' => HXSi.out j v' u' hjl)
                            have HXPj := hid (fun v' u' => HXPi.out j v' u' hjl)
                            have HBj := hid (fun e W h => HIB.out e W h j hjl)
                            clear HXSi HXPi
                            generalize (bagN P n k)[j] = bj at *
                            by_cases hsame : bi = bj
                            · have HE := hid (fun v' u' => (HXSj.out v' u' hsame).symm)
                              have hne : (((bi : Nat) : Int) != ((bj : Nat) : Int)) = false := by rw [hsame]; exact bne_self_eq_false _
                              have HN := hid (fun m => (HM.out.drewN m).congr HE.out)
                              clear HXSj HXPj HE
                              go_wp2_with fail
                              go_quiet (fail)
                              go_wp2
                              go_roundw
                              case rel => exact ⟨j + 1, by omega, by go_num, HN.out _⟩
                              case measure => simp [intOf]; omega
                            · have hne : (((bi : Nat) : Int) != ((bj : Nat) : Int)) = true := by
                                have : ¬ ((bi : Nat) : Int) = ((bj : Nat) : Int) := by omega
                                simpa using this
                              have HE := hid (fun v' u' => HXPj.out v' u' hsame)
                              clear HXSj HXPj
                              go_wp2_with fail
                              go_quiet (fail)
                              have HMq := hid (HM.out.drewN nq)
                              have HSS : Hid (∀ e U', FM w U P n k R G (.slice d k cd) u12 Bs (.slice (some ⟨g, 0, none⟩) (bagN P n k).length cx) e U' → U'.cell? ⟨g, i, none⟩ = some (.int .i64 (bi : Nat)) ∧ U'.cell? ⟨g, j, none⟩ = some (.int .i64 (bj : Nat)) ∧ U'.cell? ⟨G, bi, none⟩ = some (.slice (some ⟨R bi, 0, none⟩) n n)) := fun e U' h => by
                                obtain ⟨g1, e1, c1⟩ := HBi.out e U' h
                                obtain ⟨g2, e2, c2⟩ := HBj.out e U' h
                                cases e1
                                cases e2
                                exact ⟨c1, c2, h.mat.slice hbi hbi⟩
                              generalize wr.drewN nq = V at *
                              have HPT := hid (HMq.out.set (u := bj) hbi HE.out)
                              have hzc := HMq.out.mat.cell hbi hbi hbj
                              have hzf := (HMq.out.mat.row bi hbi hbi).fz bj
                              generalize ex i j bi bj = qz at *
                              obtain ⟨rb, hrb⟩ : ∃ rb, rb = R bi := ⟨_, rfl⟩
                              rw [← hrb] at hzc hzf HSS HPT
                              clear hrb hne HM
                              have HZC := hid hzc
                              have HZF := hid hzf
                              clear hzc hzf ci cj
                              have hslD := HSS.out _ _ (HMq.out.below (Below.refl _ V).drew)
                              go_upto_region 45 with fail
                              refine wp_region_held_drew (S := fun U' => U'.cell? ⟨g, i, none⟩ = some (.int .i64 (bi : Nat)) ∧ U'.cell? ⟨g, j, none⟩ = some (.int .i64 (bj : Nat)) ∧ U'.cell? ⟨G, bi, none⟩ = some (.slice (some ⟨rb, 0, none⟩) n n)) (by kernel_rfl) hslD (fun hSd => ?_)
                              clear hslD
                              refine wpAnyH_take (i := 0) (oi := _) (v := .slice (some ⟨G, 0, none⟩) n n) rfl (by kernel_rfl) (by kernel_rfl) (by kernel_rfl) (fun _ _ _ h => h) (Or.inl ⟨by rfl, ?_⟩) (by assumption) ?_
                              · intro u' hSu
                                (try simp only [List.getElem_toArray, List.getElem_cons_zero])
                                go_simp
                              (try simp only [List.getElem_toArray, List.getElem_cons_zero])
                              (try simp only [Act.put, List.setIfInBounds_toArray, List.set_cons_zero, List.set_cons_succ])
                              refine wpAnyH_take (i := 1) (oi := _) (v := .slice (some ⟨g, 0, none⟩) (bagN P n k).length cx) rfl (by kernel_rfl) (by kernel_rfl) (by kernel_rfl) (fun _ _ _ h => h) (Or.inl ⟨by rfl, ?_⟩) (by assumption) ?_
                              · intro u' hSu
                                (try simp only [List.getElem_toArray, List.getElem_cons_zero, List.getElem_cons_succ])
                                go_simp
                              (try simp only [List.getElem_toArray, List.getElem_cons_zero, List.getElem_cons_succ])
                              (try simp only [Act.put, List.setIfInBounds_toArray, List.set_cons_zero, List.set_cons_succ])
                              refine wpAnyH_take (i := 2) (oi := _) (v := .int .i64 (i : Nat)) rfl (by kernel_rfl) (by kernel_rfl) (by kernel_rfl) (fun _ _ _ h => h) (Or.inl ⟨by rfl, ?_⟩) (by assumption) ?_
                              · intro u' hSu
                                (try simp only [List.getElem_toArray, List.getElem_cons_zero, List.getElem_cons_succ])
                                go_simp
                              (try simp only [List.getElem_toArray, List.getElem_cons_zero, List.getElem_cons_succ])
                              (try simp only [Act.put, List.setIfInBounds_toArray, List.set_cons_zero, List.set_cons_succ])
                              refine wpAnyH_take (i := 3) (oi := _) (v := .pointer (some ⟨g, i, none⟩)) rfl (by kernel_rfl) (by kernel_rfl) (by kernel_rfl) (fun _ _ _ h => h) (Or.inl ⟨by rfl, ?_⟩) (by assumption) ?_
                              · intro u' hSu
                                (try simp only [List.getElem_toArray, List.getElem_cons_zero, List.getElem_cons_succ])
                                go_simp
                              (try simp only [List.getElem_toArray, List.getElem_cons_zero, List.getElem_cons_succ])
                              (try simp only [Act.put, List.setIfInBounds_toArray, List.set_cons_zero, List.set_cons_succ])
                              refine wpAnyH_take (i := 4) (oi := _) (v := .int .i64 (bi : Nat)) rfl (by kernel_rfl) (by kernel_rfl) (by kernel_rfl) (fun _ _ _ h => h) (Or.inl ⟨by rfl, ?_⟩) (by assumption) ?_
                              · intro u' hSu
                                (try simp only [List.getElem_toArray, List.getElem_cons_zero, List.getElem_cons_succ])
                                obtain ⟨s1, s2, s3⟩ := hSu
                                go_simp
                              (try simp only [List.getElem_toArray, List.getElem_cons_zero, List.getElem_cons_succ])
                              (try simp only [Act.put, List.setIfInBounds_toArray, List.set_cons_zero, List.set_cons_succ])
                              refine wpAnyH_take (i := 5) (oi := _) (v := .pointer (some ⟨G, bi, none⟩)) rfl (by kernel_rfl) (by kernel_rfl) (by kernel_rfl) (fun _ _ _ h => h) (Or.inl ⟨by rfl, ?_⟩) (by assumption) ?_
                              · intro u' hSu
                                (try simp only [List.getElem_toArray, List.getElem_cons_zero, List.getElem_cons_succ])
                                go_simp
                              (try simp only [List.getElem_toArray, List.getElem_cons_zero, List.getElem_cons_succ])
                              (try simp only [Act.put, List.setIfInBounds_toArray, List.set_cons_zero, List.set_cons_succ])
                              refine wpAnyH_take (i := 6) (oi := _) (v := .slice (some ⟨rb, 0, none⟩) n n) rfl (by kernel_rfl) (by kernel_rfl) (by kernel_rfl) (fun _ _ _ h => h) (Or.inl ⟨by rfl, ?_⟩) (by assumption) ?_
                              · intro u' hSu
                                (try simp only [List.getElem_toArray, List.getElem_cons_zero, List.getElem_cons_succ])
                                obtain ⟨s1, s2, s3⟩ := hSu
                                go_simp
                              (try simp only [List.getElem_toArray, List.getElem_cons_zero, List.getElem_cons_succ])
                              (try simp only [Act.put, List.setIfInBounds_toArray, List.set_cons_zero, List.set_cons_succ])
                              refine wpAnyH_take (i := 7) (oi := _) (v := .slice (some ⟨g, 0, none⟩) (bagN P n k).length cx) rfl (by kernel_rfl) (by kernel_rfl) (by kernel_rfl) (fun _ _ _ h => h) (Or.inl ⟨by rfl, ?_⟩) (by assumption) ?_
                              · intro u' hSu
                                (try simp only [List.getElem_toArray, List.getElem_cons_zero, List.getElem_cons_succ])
                                go_simp
                              (try simp only [List.getElem_toArray, List.getElem_cons_zero, List.getElem_cons_succ])
                              (try simp only [Act.put, List.setIfInBounds_toArray, List.set_cons_zero, List.set_cons_succ])
                              refine wpAnyH_take (i := 8) (oi := _) (v := .int .i64 (j : Nat)) rfl (by kernel_rfl) (by kernel_rfl) (by kernel_rfl) (fun _ _ _ h => h) (Or.inl ⟨by rfl, ?_⟩) (by assumption) ?_
                              · intro u' hSu
                                (try simp only [List.getElem_toArray, List.getElem_cons_zero, List.getElem_cons_succ])
                                go_simp
                              (try simp only [List.getElem_toArray, List.getElem_cons_zero, List.getElem_cons_succ])
                              (try simp only [Act.put, List.setIfInBounds_toArray, List.set_cons_zero, List.set_cons_succ])
                              refine wpAnyH_take (i := 9) (oi := _) (v := .pointer (some ⟨g, j, none⟩)) rfl (by kernel_rfl) (by kernel_rfl) (by kernel_rfl) (fun _ _ _ h => h) (Or.inl ⟨by rfl, ?_⟩) (by assumption) ?_
                              · intro u' hSu
                                (try simp only [List.getElem_toArray, List.getElem_cons_zero, List.getElem_cons_succ])
                                go_simp
                              (try simp only [List.getElem_toArray, List.getElem_cons_zero, List.getElem_cons_succ])
                              (try simp only [Act.put, List.setIfInBounds_toArray, List.set_cons_zero, List.set_cons_succ])
                              refine wpAnyH_take (i := 10) (oi := _) (v := .int .i64 (bj : Nat)) rfl (by kernel_rfl) (by kernel_rfl) (by kernel_rfl) (fun _ _ _ h => h) (Or.inl ⟨by rfl, ?_⟩) (by assumption) ?_
                              · intro u' hSu
                                (try simp only [List.getElem_toArray, List.getElem_cons_zero, List.getElem_cons_succ])
                                obtain ⟨s1, s2, s3⟩ := hSu
                                go_simp
                              (try simp only [List.getElem_toArray, List.getElem_cons_zero, List.getElem_cons_succ])
                              (try simp only [Act.put, List.setIfInBounds_toArray, List.set_cons_zero, List.set_cons_succ])
                              refine wpAnyH_take (i := 11) (oi := _) (v := .pointer (some ⟨rb, bj, none⟩)) rfl (by kernel_rfl) (by kernel_rfl) (by kernel_rfl) (fun _ _ _ h => h) (Or.inl ⟨by rfl, ?_⟩) (by assumption) ?_
                              · intro u' hSu
                                (try simp only [List.getElem_toArray, List.getElem_cons_zero, List.getElem_cons_succ])
                                go_simp
                              (try simp only [List.getElem_toArray, List.getElem_cons_zero, List.getElem_cons_succ])
                              (try simp only [Act.put, List.setIfInBounds_toArray, List.set_cons_zero, List.set_cons_succ])
                              have hzc := HZC.out
                              have hzf := HZF.out
                              have hzc' : V.drew.cell? ⟨rb, bj, none⟩ = some (.bool qz) := hzc
                              have hzf' : V.drew.frozen? ⟨rb, bj, none⟩ = false := hzf
                              refine wpAnyH_ready (rs := [12]) (by kernel_rfl) (by simp) (AllReadyH.cons rfl ?_ (AllReadyH.nil))
                              · intro K' hK'
                                (try simp only [List.getElem_toArray, List.getElem_cons_zero, List.getElem_cons_succ])
                                go_simp
                                refine hK'.out _ _ (HSS.out _ _ (HPT.out.below (Below.refl _ _).drew)) (fun _ => wpAnyH_done (by kernel_rfl) ?_ _)
                                clear hK' K' hSd hzc hzf hzc' hzf' HZC HZF
                                have HN := hid (HPT.out.below (Below.refl _ _).drew)
                                clear HPT HMq HSS
                                generalize (V.setCell ⟨rb, bj, none⟩ (.bool true)).drew = V9 at *
                                go_wp2
                                go_roundw
                                case rel => exact ⟨j + 1, by omega, by go_num, HN⟩
                                case measure => simp [intOf]; omega
                          · obtain rfl : j = (bagN P n k).length := by omega
                            have HN := hid (HM.out.congr HXNi.out)
                            go_wp2
                            go_roundw
                            case rel => exact ⟨i + 1, by omega, by go_num, HN⟩
                            case measure => simp [intOf]; omega
                      · obtain rfl : i = (bagN P n k).length := by omega
                        have HN := hid (HM.out.congr HXE.out)
                        clear HM HXS HXP HXN HXE HIB
                        have hBl : Bs.length = k := by
                          have := congrArg List.length HN.out.bgs
                          simpa using this
                        have HFA := hid (HN.out.below ((Below.refl _ wr).alloc (Nat.le_refl _) (.cells #[.int .i64 (best : Nat)] 3)))
                        have HOC := hid (one_cell wr (.int .i64 (best : Nat)) 3)
                        have HHS : Hid (wr.heap.size ≤ (wr.alloc (.cells #[.int .i64 (best : Nat)] 3)).heap.size) := ((Below.refl wr.heap.size wr).alloc (Nat.le_refl _) (.cells #[.int .i64 (best : Nat)] 3)).size
                        clear HN
                        go_wp2_with (first
                          | (at_builtin; refine wpList_append_int1 rfl _ _ rfl w.heap.size _ (iL ((List.range k).map (outV P n))) ((best : Nat) : Int) rfl HFA.out.ord wr.heap.size rfl HOC.out (by rw [iL_length, List.length_map, List.length_range]; omega) HFA.out.low.size ?_; intro v6 w6 hr6 hg6 hn6; rw [HBEST.out] at hr6; obtain ⟨m6, o6, b6, x6, a6, l6⟩ := HFA.out.push hg6 hn6 hr6; obtain ⟨d6, cd6, rfl, -⟩ := o6.ints; rw [show (iL ((List.range (k + 1)).map (outV P n))).length = k + 1 by rw [iL_length]; simp] at o6 a6 ⊢; have hbA := (Below.refl w6.heap.size w6).alloc (Nat.le_refl _) (.cells #[.slice dx (bagN P n k).length cx] 23); have HM7 := hid (m6.below hbA); have HO7 := hid (o6.under hbA); have HB7 := hid (b6.below hbA); have HX7 := hid (x6.under hbA); have HA7 := hid a6; have HL7 := hid (l6.trans (hbA.mono l6.size)); have HOC7 := hid (one_cell w6 (.slice dx (bagN P n k).length cx) 23); clear m6 o6 b6 x6 a6 l6 hr6 hg6 hn6 hbA)
                          | (at_builtin; refine wpList_append_list rfl _ _ rfl w.heap.size _ Bs dx (bagN P n k).length cx rfl HB7.out.1 w6.heap.size rfl HOC7.out (by omega) HL7.out.size ?_; intro v8 w8 hr8 hg8))
                        have HS8 := hid (FW.next HM7.out HO7.out HB7.out HX7.out HA7.out HL7.out HFA.out.bgs hr8 hg8)
                        clear HFA HM7 HO7 HB7 HX7 HA7 HL7 HOC7 hr8 hg8 HS
                        go_wp2
                        go_roundw
                        case rel => exact ⟨k + 1, _, by omega, HS8, d6, cd6, rfl⟩
                        case measure => show n - (k + 1) < n - k; omega
          · obtain rfl : n = k := by omega
            have HS1 := HS.out
            go_wp2
            go_ret3
            exact ⟨HS1.low, .inl ⟨HNE.out, _, _, Bs, rfl, by rw [HSQ.out]; exact HS1.ord, HS1.bag, by rw [HSB.out]; exact HS1.bgs⟩⟩
end Go.Proofs.Ytockhhleapbpiaa

