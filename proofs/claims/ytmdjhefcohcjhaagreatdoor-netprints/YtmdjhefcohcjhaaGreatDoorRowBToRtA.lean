/- Rows of chances: Chances of the document's answer. -/
import Derived.Test.YtmdjhefcohcjhaaGreatDoorOrdBToRowA
import Derived.Test.YtmdjhefcohcjhaaGreatDoorRefSToTabR5
import Derived.Test.YtmdjhefcohcjhaaGreatDoorNameCToRoundA
import Derived.Test.YtmdjhefcohcjhaaGreatDoorStandCToSliB
namespace Go.Proofs.YtmdjhefcohcjhaaGreatDoor
open Go.RowKit Go.Shelf

theorem one_eq {α : Type} {s : Rat} {T F : α} : (if sgn s = sgn 1 then if (nu s).toList = (nu 1).toList then if (de s).toList = (de 1).toList then T else F else F else F) = if s = 1 then T else F := by
  by_cases h : s = 1
  · subst h; simp
  · rw [if_neg h]
    by_cases h1 : sgn s = sgn 1
    · by_cases h2 : (nu s).toList = (nu 1).toList
      · by_cases h3 : (de s).toList = (de 1).toList
        · exfalso
          apply h
          have e2 : nu s = nu 1 := of_decide_eq_true (bytes_eq.symm.trans (beq_iff_eq.2 h2))
          have e3 : de s = de 1 := of_decide_eq_true (bytes_eq.symm.trans (beq_iff_eq.2 h3))
          rw [← val_own s, h1, e2, e3, val_own]
        · rw [if_pos h1, if_pos h2, if_neg h3]
      · rw [if_pos h1, if_neg h2]
    · rw [if_neg h1]
theorem rOf_zero (w : World) : Calls Tryz.prog 43 #[.int .i64 0] w fun e w' => e = .returned (.agg #[.bool (sgn 0), .string (nu 0), .string (de 0)]) ∧ Below w.heap.size w w' := by
  have := rOfF_any 0 w (by omega) (by omega)
  exact this
theorem rOf_one (w : World) : Calls Tryz.prog 43 #[.int .i64 1] w fun e w' => e = .returned (.agg #[.bool (sgn 1), .string (nu 1), .string (de 1)]) ∧ Below w.heap.size w w' := by
  have := rOfF_any 1 w (by omega) (by omega)
  exact this
set_option maxRecDepth 100000 in
set_option maxHeartbeats 1000000 in
theorem chances_any (a : Option Addr) (ca : Nat) (l : List Fr) (w : World) (h : FrS w a l) (hw : fw l ≤ 10000) (hn : l.length ≤ 10000) :
    Calls Tryz.prog 23 #[.slice a l.length ca] w fun e w' => e = .returned (.bool (rowB l)) ∧ Below w.heap.size w w' := by
  have HF := hid h
  have HW := hid hw
  have HO := hid rOf_zero
  have HO1 := hid rOf_one
  have HS : Hid (∀ V : World, FrS V a l → Calls Tryz.prog 44 #[.slice a l.length ca] V fun e w' => e = .returned (.agg #[.bool (sgn (fsum l)), .string (nu (fsum l)), .string (de (fsum l))]) ∧ Below V.heap.size V w') := fun V hV => rSum_any a ca l V hV hw hn
  have HN := hid (fun i h e => rowB_neg (l := l) (i := i) h e)
  have HA := hid (fun h => rowB_all (l := l) h)
  have HZ : Hid (val (sgn 0) (nu 0) (de 0) = 0 ∧ (nu 0).size + (de 0).size ≤ 50000) := ⟨val_own _, by have := qw_zero; rw [own_size]; omega⟩
  generalize rowB l = rb at *
  clear h hw
  go_enter Tryz.func23, Tryz.ntmps23
  go_wp2_with fail
  go_loopw [3] (fun iv wr => ∃ i : Nat, i ≤ l.length ∧ iv = .int .i64 i ∧ Hid (∀ j (hj : j < l.length), j < i → ¬ frQ l[j] < 0) ∧ Hid (Below w.heap.size w wr)) (fun iv _ => l.length - (intOf iv).toNat)
  case atStart => exact ⟨0, Nat.zero_le _, rfl, fun j _ h => absurd h (by omega), Below.refl _ _⟩
  case round =>
    obtain ⟨i, hi, rfl, HP, HB⟩ := hrel
    by_cases hlt : i < l.length
    · obtain ⟨g, o, rfl, hg, c0, c1, c2⟩ := (HF.out.below HB.out) i hlt
      have hfe := fw_each hlt HW.out
      have HNi := hid (HN.out i hlt)
      have HPi : Hid (¬ frQ l[i] < 0 → ∀ j (hj : j < l.length), j < i + 1 → ¬ frQ l[j] < 0) := fun h j hj hji => by
        rcases Nat.lt_or_ge j i with h2 | h2
        · exact HP.out j hj h2
        · obtain rfl : j = i := by omega
          exact h
      generalize l[i] = f at *
      obtain ⟨fn, fx, fy⟩ := f
      simp only at c0 c1 c2 hfe
      go_upto_region 4 with fail
      refine wp_region_held_drew (S := fun u => u.cell? ⟨g, o + i * 3, none⟩ = some (.bool fn) ∧ u.cell? ⟨g, o + i * 3 + 1, none⟩ = some (.string fx) ∧ u.cell? ⟨g, o + i * 3 + 2, none⟩ = some (.string fy)) (by kernel_rfl) ⟨c0, c1, c2⟩ (fun hSd => ?_)
      have hSg : g < wr.drew.heap.size := hg
      have HBd := hid HB.out.drew
      clear c0 c1 c2
      generalize wr.drew = u0 at *
      (try simp only [List.getElem_toArray, List.getElem_cons_zero, List.getElem_cons_succ])
      (try simp only [Act.put, List.setIfInBounds_toArray, List.set_cons_zero, List.set_cons_succ])
      refine wpAnyH_take (i := 0) (oi := _) (v := .slice (some ⟨g, o, none⟩) l.length ca) rfl (by kernel_rfl) (by kernel_rfl) (by kernel_rfl) (fun _ _ _ h => h) (Or.inl ⟨by rfl, ?_⟩) (by assumption) ?_
      · intro u' hSu
        (try simp only [List.getElem_toArray, List.getElem_cons_zero])
        go_simp
      (try simp only [List.getElem_toArray, List.getElem_cons_zero])
      (try simp only [Act.put, List.setIfInBounds_toArray, List.set_cons_zero, List.set_cons_succ])
      refine wpAnyH_take (i := 1) (oi := _) (v := .int .i64 (i : Nat)) rfl (by kernel_rfl) (by kernel_rfl) (by kernel_rfl) (fun _ _ _ h => h) (Or.inl ⟨by rfl, ?_⟩) (by assumption) ?_
      · intro u' hSu
        (try simp only [List.getElem_toArray, List.getElem_cons_zero, List.getElem_cons_succ])
        go_simp
      (try simp only [List.getElem_toArray, List.getElem_cons_zero, List.getElem_cons_succ])
      (try simp only [Act.put, List.setIfInBounds_toArray, List.set_cons_zero, List.set_cons_succ])
      refine wpAnyH_take (i := 2) (oi := _) (v := .pointer (some ⟨g, o + i * 3, none⟩)) rfl (by kernel_rfl) (by kernel_rfl) (by kernel_rfl) (fun _ _ _ h => h) (Or.inl ⟨by rfl, ?_⟩) (by assumption) ?_
      · intro u' hSu
        (try simp only [List.getElem_toArray, List.getElem_cons_zero, List.getElem_cons_succ])
        go_simp
      (try simp only [List.getElem_toArray, List.getElem_cons_zero, List.getElem_cons_succ])
      (try simp only [Act.put, List.setIfInBounds_toArray, List.set_cons_zero, List.set_cons_succ])
      refine wpAnyH_take (i := 3) (oi := _) (v := .agg #[.bool fn, .string fx, .string fy]) rfl (by kernel_rfl) (by kernel_rfl) (by kernel_rfl) (fun _ _ _ h => h) (Or.inl ⟨by rfl, ?_⟩) (by assumption) ?_
      · intro u' hSu
        (try simp only [List.getElem_toArray, List.getElem_cons_zero, List.getElem_cons_succ])
        obtain ⟨s0, s1, s2⟩ := hSu
        go_simp
      (try simp only [List.getElem_toArray, List.getElem_cons_zero, List.getElem_cons_succ])
      (try simp only [Act.put, List.setIfInBounds_toArray, List.set_cons_zero, List.set_cons_succ])
      refine wpAnyH_ready (rs := [4]) (by kernel_rfl) (by simp) (AllReadyH.cons rfl ?_ (AllReadyH.nil))
      · intro K' hK'
        (try simp only [List.getElem_toArray, List.getElem_cons_zero, List.getElem_cons_succ])
        go_simp
        refine (HO.out _).mono ?_
        rintro e u1 ⟨rfl, hb⟩
        refine hK'.out _ _ ⟨(hb.cell (p := ⟨g, o + i * 3, none⟩) hSg).trans hSd.1, (hb.cell (p := ⟨g, o + i * 3 + 1, none⟩) hSg).trans hSd.2.1, (hb.cell (p := ⟨g, o + i * 3 + 2, none⟩) hSg).trans hSd.2.2⟩ (fun hSe => ?_)
        clear hK' K' hSd
        have hSd := hSe
        clear hSe
        have hSg := Nat.lt_of_lt_of_le hSg hb.size
        replace HBd := hid (HBd.out.trans (hb.mono HBd.out.size))
        clear hb
        (try simp only [List.getElem_toArray, List.getElem_cons_zero, List.getElem_cons_succ])
        (try simp only [Act.put, List.setIfInBounds_toArray, List.set_cons_zero, List.set_cons_succ])
        refine wpAnyH_ready (rs := [5]) (by kernel_rfl) (by simp) (AllReadyH.cons rfl ?_ (AllReadyH.nil))
        · intro K' hK'
          (try simp only [List.getElem_toArray, List.getElem_cons_zero, List.getElem_cons_succ])
          go_simp
          refine (rCmpF_any fn (sgn 0) fx fy (nu 0) (de 0) _ (by omega) HZ.out.2).mono ?_
          rintro e u2 ⟨rfl, hb⟩
          rw [HZ.out.1]
          refine hK'.out _ _ ⟨(hb.cell (p := ⟨g, o + i * 3, none⟩) hSg).trans hSd.1, (hb.cell (p := ⟨g, o + i * 3 + 1, none⟩) hSg).trans hSd.2.1, (hb.cell (p := ⟨g, o + i * 3 + 2, none⟩) hSg).trans hSd.2.2⟩ (fun hSe => ?_)
          clear hK' K' hSd
          have hSd := hSe
          clear hSe
          have hSg := Nat.lt_of_lt_of_le hSg hb.size
          replace HBd := hid (HBd.out.trans (hb.mono HBd.out.size))
          clear hb
          (try simp only [List.getElem_toArray, List.getElem_cons_zero, List.getElem_cons_succ])
          (try simp only [Act.put, List.setIfInBounds_toArray, List.set_cons_zero, List.set_cons_succ])
          refine wpAnyH_take (i := 6) (oi := _) (v := .int .i64 (cmpQ (val fn fx fy) 0)) rfl (by kernel_rfl) (by kernel_rfl) (by kernel_rfl) (fun _ _ _ h => h) (Or.inl ⟨by rfl, ?_⟩) (by assumption) ?_
          · intro u' hSu
            (try simp only [List.getElem_toArray, List.getElem_cons_zero, List.getElem_cons_succ])
            go_simp
          (try simp only [List.getElem_toArray, List.getElem_cons_zero, List.getElem_cons_succ])
          (try simp only [Act.put, List.setIfInBounds_toArray, List.set_cons_zero, List.set_cons_succ])
          refine wpAnyH_done (by kernel_rfl) ?_ _
          clear hSd hSg
          by_cases hneg : val fn fx fy < 0
          · have HE := hid (HNi.out hneg)
            have hc : cmpQ (val fn fx fy) 0 < 0 := cmp_below.2 hneg
            clear hneg
            generalize cmpQ (val fn fx fy) 0 = q at *
            go_wp2
            go_ret
            exact ⟨by rw [HE.out]; rfl, HBd.out⟩
          · have HE := hid (HPi.out hneg)
            have hc : 0 ≤ cmpQ (val fn fx fy) 0 := by
              have : ¬ cmpQ (val fn fx fy) 0 < 0 := fun h => hneg (cmp_below.1 h)
              omega
            clear hneg
            generalize cmpQ (val fn fx fy) 0 = q at *
            go_wp2
            go_roundw
            case rel => exact ⟨i + 1, by omega, by go_num, HE, HBd⟩
            case measure => simp [intOf]; omega
    · obtain rfl : i = l.length := by omega
      have HE := hid (HA.out fun j hj => HP.out j hj hj)
      generalize fsum l = s at *
      go_wp2_with fail
      refine (HS.out _ (HF.out.below HB.out)).mono ?_
      rintro e w5 ⟨rfl, hb5⟩
      have HB5 := hid (HB.out.trans (hb5.mono HB.out.size))
      have HBX := hid (Box.new w5 (sgn s) (nu s) (de s))
      have HBA := hid (HB5.out.alloc HB5.out.size (FC (sgn s) (nu s) (de s)))
      clear hb5
      go_upto_region 8 with fail
      have hBd : Box (w5.alloc (FC (sgn s) (nu s) (de s))).drew w5.heap.size (sgn s) (nu s) (de s) := HBX.out
      have HBd := hid HBA.out.drew
      generalize w5.heap.size = B5 at *
      refine wp_region_held_drew (S := fun u => u.cell? ⟨B5, 0, none⟩ = some (.bool (sgn s)) ∧ u.cell? ⟨B5, 1, none⟩ = some (.string (nu s)) ∧ u.cell? ⟨B5, 2, none⟩ = some (.string (de s))) (by kernel_rfl) ⟨hBd.c0, hBd.c1, hBd.c2⟩ (fun hSd => ?_)
      generalize (w5.alloc (FC (sgn s) (nu s) (de s))).drew = u0 at *
      (try simp only [List.getElem_toArray, List.getElem_cons_zero, List.getElem_cons_succ])
      (try simp only [Act.put, List.setIfInBounds_toArray, List.set_cons_zero, List.set_cons_succ])
      refine wpAnyH_take (i := 0) (oi := _) (v := .agg #[.bool (sgn s), .string (nu s), .string (de s)]) rfl (by kernel_rfl) (by kernel_rfl) (by kernel_rfl) (fun _ _ _ h => h) (Or.inl ⟨by rfl, ?_⟩) (by assumption) ?_
      · intro u' hSu
        (try simp only [List.getElem_toArray, List.getElem_cons_zero])
        obtain ⟨s0, s1, s2⟩ := hSu
        go_simp
      (try simp only [List.getElem_toArray, List.getElem_cons_zero])
      (try simp only [Act.put, List.setIfInBounds_toArray, List.set_cons_zero, List.set_cons_succ])
      refine wpAnyH_ready (rs := [1]) (by kernel_rfl) (by simp) (AllReadyH.cons rfl ?_ (AllReadyH.nil))
      · intro K' hK'
        (try simp only [List.getElem_toArray, List.getElem_cons_zero, List.getElem_cons_succ])
        go_simp
        refine (HO1.out _).mono ?_
        rintro e u1 ⟨rfl, hb⟩
        replace hBd := hBd.below hb hBd.lt
        refine hK'.out _ _ ⟨hBd.c0, hBd.c1, hBd.c2⟩ (fun hSe => ?_)
        clear hK' K' hSd
        have hSd := hSe
        clear hSe
        replace HBd := hid (HBd.out.trans (hb.mono HBd.out.size))
        clear hb
        (try simp only [List.getElem_toArray, List.getElem_cons_zero, List.getElem_cons_succ])
        (try simp only [Act.put, List.setIfInBounds_toArray, List.set_cons_zero, List.set_cons_succ])
        refine wpAnyH_ready (rs := [2]) (by kernel_rfl) (by simp) (AllReadyH.cons rfl ?_ (AllReadyH.nil))
        · intro K' hK'
          (try simp only [List.getElem_toArray, List.getElem_cons_zero, List.getElem_cons_succ])
          go_simp
          rw [one_eq]
          by_cases h1 : s = 1
          · rw [if_pos h1]
            go_simp
            refine hK'.out _ _ ⟨hBd.c0, hBd.c1, hBd.c2⟩ (fun hSe => ?_)
            clear hK' K' hSe
            have HT : Hid (decide (s = 1) = true) := decide_eq_true h1
            clear h1
            (try simp only [List.getElem_toArray, List.getElem_cons_zero, List.getElem_cons_succ])
            (try simp only [Act.put, List.setIfInBounds_toArray, List.set_cons_zero, List.set_cons_succ])
            refine wpAnyH_take (i := 3) (oi := _) (v := .bool true) rfl (by kernel_rfl) (by kernel_rfl) (by kernel_rfl) (fun _ _ _ h => h) (Or.inl ⟨by rfl, ?_⟩) (by assumption) ?_
            · intro u' hSu
              (try simp only [List.getElem_toArray, List.getElem_cons_zero, List.getElem_cons_succ])
              go_simp
            (try simp only [List.getElem_toArray, List.getElem_cons_zero, List.getElem_cons_succ])
            (try simp only [Act.put, List.setIfInBounds_toArray, List.set_cons_zero, List.set_cons_succ])
            refine wpAnyH_done (by kernel_rfl) ?_ _
            go_wp2
            go_ret
            exact ⟨by rw [HE.out, HT.out]; rfl, HBd.out⟩
          · rw [if_neg h1]
            go_simp
            refine hK'.out _ _ ⟨hBd.c0, hBd.c1, hBd.c2⟩ (fun hSe => ?_)
            clear hK' K' hSe
            have HT : Hid (decide (s = 1) = false) := decide_eq_false h1
            clear h1
            (try simp only [List.getElem_toArray, List.getElem_cons_zero, List.getElem_cons_succ])
            (try simp only [Act.put, List.setIfInBounds_toArray, List.set_cons_zero, List.set_cons_succ])
            refine wpAnyH_take (i := 3) (oi := _) (v := .bool false) rfl (by kernel_rfl) (by kernel_rfl) (by kernel_rfl) (fun _ _ _ h => h) (Or.inl ⟨by rfl, ?_⟩) (by assumption) ?_
            · intro u' hSu
              (try simp only [List.getElem_toArray, List.getElem_cons_zero, List.getElem_cons_succ])
              go_simp
            (try simp only [List.getElem_toArray, List.getElem_cons_zero, List.getElem_cons_succ])
            (try simp only [Act.put, List.setIfInBounds_toArray, List.set_cons_zero, List.set_cons_succ])
            refine wpAnyH_done (by kernel_rfl) ?_ _
            go_wp2
            go_ret
            exact ⟨by rw [HE.out, HT.out]; rfl, HBd.out⟩
end Go.Proofs.YtmdjhefcohcjhaaGreatDoor


/- Package graph: read, Check. -/
namespace Go.Proofs.YtmdjhefcohcjhaaGreatDoor
open Go.RowKit Go.Shelf

theorem gB_parts {L : List (List Int)} (h : gB L = true) : 1 ≤ L.length ∧ L.length ≤ 8 ∧ allRis L L.length = true ∧ noSelf L = true := by
  rw [gB, Bool.and_eq_true, Bool.and_eq_true, decide_eq_true_iff] at h
  exact ⟨h.1.1.1, h.1.1.2, h.1.2, h.2⟩
theorem gB_par {L : List (List Int)} (h : gB L = true) : ∀ p ∈ parN L, ∀ u ∈ p, u < 8 := by
  obtain ⟨h1, h2, h3, h4⟩ := gB_parts h
  intro p hp
  obtain ⟨l, hl, rfl⟩ := List.mem_map.1 hp
  exact ris_all h2 (List.all_eq_true.1 h3 l hl)

set_option maxRecDepth 100000 in
set_option maxHeartbeats 1000000 in
theorem gRead_any (a : Option Addr) (ca : Nat) (L : List (List Int)) (w : World) (h : LsS w a L) (hl : ∀ l ∈ L, l.length ≤ 140737488355328) :
    Calls Tryz.prog 27 #[.slice a L.length ca] w fun e w' => Below w.heap.size w w' ∧
      ((gcE L = 0 ∧ ∃ G, e = .returned (.tuple #[.slice (some ⟨G, 0, none⟩) L.length L.length, .int .i64 0]) ∧ w.heap.size ≤ G ∧ RowU w' G (masks L)) ∨ (gcE L ≠ 0 ∧ e = .returned (.tuple #[.slice none 0 0, .int .i64 (gcE L)]))) := by
  have HF := hid h
  have HR := hid (fun (V : World) (hV : LsS V a L) => readOthers_any a ca L V hV hl)
  have HG1 : Hid (gB L = false → gcE L = 11) := fun h => if_neg (by rw [h]; decide)
  have HG2 : Hid (gB L = true → (ordN (parN L) L.length).length < L.length → gcE L = 10) := fun h1 h2 => by rw [gcE, if_pos h1, if_pos h2]
  have HG3 : Hid (gB L = true → ¬ (ordN (parN L) L.length).length < L.length → gcE L = 0) := fun h1 h2 => by rw [gcE, if_pos h1, if_neg h2]
  have HO : Hid (gB L = true → ∀ (G c : Nat) (V : World), RowU V G (masks L) → Calls Tryz.prog 48 #[.slice (some ⟨G, 0, none⟩) L.length c] V fun e w' => ∃ x, e = .returned x ∧ RwI w' V.heap.size x (iL (ordN (parN L) L.length)) ∧ Below V.heap.size V w') := fun hg G c V hV => by
    have h8 := (gB_parts hg).2.1
    have := order_any G c (parN L) V (by rw [← masks_par]; exact hV) (by rw [parN_length]; exact h8) (gB_par hg)
    rwa [parN_length] at this
  generalize gcE L = ge at *
  generalize masks L = ms at *
  clear h hl
  go_enter Tryz.func27, Tryz.ntmps27
  go_wp2_with fail
  refine (HR.out _ HF.out).mono ?_
  rintro e w1 ⟨hb, ⟨hg, G, rfl, hG, hU⟩ | ⟨hg, v, rfl⟩⟩
  · have HUU := hid hU
    have HOG := hid (HO.out hg G L.length)
    have HB := hid hb
    have HGG := hid hg
    clear hU hb hg HO HR
    go_wp2_with fail
    refine (HOG.out _ HUU.out).mono ?_
    rintro e w2 ⟨x, rfl, hx, hb2⟩
    obtain ⟨d, cd, rfl, _⟩ := hx.ints
    have HB2 := hid (HB.out.trans (hb2.mono HB.out.size))
    have HU2 := hid (HUU.out.below hb2 HUU.out.lt)
    have HLL : Hid ((iL (ordN (parN L) L.length)).length = (ordN (parN L) L.length).length) := iL_length _
    clear hx hb2
    by_cases hlt : (ordN (parN L) L.length).length < L.length
    · have HE := hid (HG2.out HGG.out hlt)
      have hlt' : (iL (ordN (parN L) L.length)).length < L.length := by rw [HLL.out]; exact hlt
      clear hlt
      generalize (iL (ordN (parN L) L.length)).length = m at *
      go_wp2
      go_ret2
      exact ⟨HB2.out, .inr ⟨by rw [HE.out]; decide, by rw [HE.out]; rfl⟩⟩
    · have HE := hid (HG3.out HGG.out hlt)
      have hlt' : ¬ (iL (ordN (parN L) L.length)).length < L.length := by rw [HLL.out]; exact hlt
      clear hlt
      generalize (iL (ordN (parN L) L.length)).length = m at *
      go_wp2
      go_ret2
      exact ⟨HB2.out, .inl ⟨HE.out, G, rfl, hG, HU2.out⟩⟩
  · have HE := hid (HG1.out hg)
    have HB := hid hb
    clear hg hb
    go_wp2
    go_ret2
    exact ⟨HB.out, .inr ⟨by rw [HE.out]; decide, by rw [HE.out]; rfl⟩⟩
set_option maxRecDepth 100000 in
set_option maxHeartbeats 1000000 in
theorem gCheck_any (a : Option Addr) (ca : Nat) (L : List (List Int)) (w : World) (h : LsS w a L) (hl : ∀ l ∈ L, l.length ≤ 140737488355328) :
    Calls Tryz.prog 15 #[.slice a L.length ca] w fun e w' => e = .returned (.int .i64 (gcE L)) ∧ Below w.heap.size w w' := by
  have HF := hid h
  have HR := hid (fun (V : World) (hV : LsS V a L) => gRead_any a ca L V hV hl)
  generalize gcE L = ge at *
  clear h hl
  go_enter Tryz.func15, Tryz.ntmps15
  go_wp2_with fail
  refine (HR.out _ HF.out).mono ?_
  rintro e w1 ⟨hb, ⟨rfl, G, rfl, hG, hU⟩ | ⟨hg, rfl⟩⟩
  · clear hU
    go_wp2
    go_ret
    exact ⟨rfl, hb⟩
  · clear hg
    go_wp2
    go_ret
    exact ⟨rfl, hb⟩
end Go.Proofs.YtmdjhefcohcjhaaGreatDoor


/- The document's answer: listsOK, Order, GraphCheck. -/
namespace Go.Proofs.YtmdjhefcohcjhaaGreatDoor
open Go.RowKit Go.Shelf

theorem inB_mem {k : Int} {l : List Int} : inB k l = true ↔ k ∈ l := by simp [inB]
theorem inB_nat {l : List Int} {x : Int} (hx : 0 ≤ x) (hl : ∀ y ∈ l, 0 ≤ y) : inB x l = decide (x.toNat ∈ toN l) := by
  rw [Bool.eq_iff_iff, decide_eq_true_iff, inB_mem]
  constructor
  · intro h; exact List.mem_map.2 ⟨x, h, rfl⟩
  · intro h
    obtain ⟨y, hy, e⟩ := List.mem_map.1 h
    have := hl y hy
    obtain rfl : y = x := by omega
    exact hy
theorem inB_iL (l : List Nat) {x : Int} (hx : 0 ≤ x) : inB x (iL l) = decide (x.toNat ∈ l) := by
  rw [inB_nat hx fun y hy => by obtain ⟨z, _, rfl⟩ := List.mem_map.1 hy; omega, toN_iL]
theorem ris_nonneg {l : List Int} {n : Nat} (h : risB l n = true) : ∀ y ∈ l, 0 ≤ y := fun y hy => by
  obtain ⟨i, hi, rfl⟩ := List.getElem_of_mem hy
  exact ((ris_up h).each i hi).1
theorem gB_ris {L : List (List Int)} {i : Nat} (h : i < L.length) (e : risB L[i] L.length = false) : gB L = false := by rw [gB, allRis_bad h e]; simp
theorem gB_self {L : List (List Int)} {i : Nat} (h : i < L.length) (e : i ∈ toN L[i]) : gB L = false := by rw [gB, noSelf_bad h e]; simp
theorem gB_yes {L : List (List Int)} (h1 : 1 ≤ L.length) (h2 : L.length ≤ 8) (h : ∀ i (hi : i < L.length), risB L[i] L.length = true ∧ ¬ i ∈ toN L[i]) : gB L = true := by
  rw [gB, decide_eq_true (p := 1 ≤ L.length ∧ L.length ≤ 8) ⟨h1, h2⟩, noSelf_good fun i hi => (h i hi).2]
  have : allRis L L.length = true := List.all_eq_true.2 fun l hl => by
    obtain ⟨i, hi, rfl⟩ := List.getElem_of_mem hl
    exact (h i hi).1
  rw [this]; rfl

set_option maxRecDepth 100000 in
set_option maxHeartbeats 1000000 in
theorem rListsOK_any (a : Option Addr) (ca : Nat) (L : List (List Int)) (w : World) (h : LsS w a L) (hl : ∀ l ∈ L, l.length ≤ 140737488355328) (hL : L.length ≤ 140737488355328) :
    Calls Tryz.prog 65 #[.slice a L.length ca] w fun e w' => e = .returned (.bool (gB L)) ∧ Below w.heap.size w w' := by
  have HF := hid h
  have HL := hid hl
  have HN : Hid (¬ (1 ≤ L.length ∧ L.length ≤ 8) → gB L = false) := fun h => by rw [gB, decide_eq_false h]; rfl
  have HR := hid (fun i h e => gB_ris (L := L) (i := i) h e)
  have HS := hid (fun i h e => gB_self (L := L) (i := i) h e)
  have HY := hid (fun h1 h2 h => gB_yes (L := L) h1 h2 h)
  generalize gB L = gb at *
  clear h hl
  by_cases h1 : 1 ≤ L.length
  · by_cases h8 : L.length ≤ 8
    · clear HN
      have e1 : (1 : Int) ≤ (L.length : Int) := by omega
      have e2 : (L.length : Int) ≤ 8 := by omega
      go_enter Tryz.func65, Tryz.ntmps65
      go_wp2_with fail
      go_loopw [3] (fun iv wr => ∃ i : Nat, i ≤ L.length ∧ iv = .int .i64 i ∧ Hid (∀ j (h : j < L.length), j < i → risB L[j] L.length = true ∧ ¬ j ∈ toN L[j]) ∧ Hid (Below w.heap.size w wr)) (fun iv _ => L.length - (intOf iv).toNat)
      case atStart => exact ⟨0, Nat.zero_le _, rfl, fun j _ h => absurd h (by omega), Below.refl _ _⟩
      case round =>
        obtain ⟨i, hi, rfl, HP, HB⟩ := hrel
        by_cases hlt : i < L.length
        · obtain ⟨g, o, b, c, rfl, hg, c0, hI⟩ := (HF.out.below HB.out) i hlt
          have hll := HL.out L[i] (List.getElem_mem hlt)
          have HI := hid hI
          have HRi := hid (HR.out i hlt)
          have HSi := hid (HS.out i hlt)
          have HPi : Hid (risB L[i] L.length = true → ¬ i ∈ toN L[i] → ∀ j (h : j < L.length), j < i + 1 → risB L[j] L.length = true ∧ ¬ j ∈ toN L[j]) := fun h h' j hj hji => by
            rcases Nat.lt_or_ge j i with h2 | h2
            · exact HP.out j hj h2
            · obtain rfl : j = i := by omega
              exact ⟨h, h'⟩
          clear hI
          generalize L[i] = l at *
          go_wp2_with fail
          refine (rRising_any b c l (L.length : Int) _ HI.out hll).mono ?_
          rintro e w1 ⟨rfl, hb1⟩
          have c1 := (hb1.cell (p := ⟨g, o + i, none⟩) hg).trans c0
          have HI1 := hid (HI.out.below hb1)
          have HB1 := hid (HB.out.trans (hb1.mono HB.out.size))
          clear hb1 c0 HI HB
          go_wp2_with fail
          refine (rIn_any (i : Nat) b c l _ HI1.out hll).mono ?_
          rintro e w2 ⟨rfl, rfl⟩
          cases hr : risB l L.length with
          | false =>
            have HE := hid (HRi.out hr)
            clear hr
            generalize inB (i : Nat) l = q at *
            go_wp2
            go_ret
            exact ⟨by rw [HE.out]; rfl, HB1.out⟩
          | true =>
            rw [inB_nat (by omega) (ris_nonneg hr), Int.toNat_natCast]
            by_cases hin : i ∈ toN l
            · rw [decide_eq_true hin]
              have HE := hid (HSi.out hin)
              clear hin hr
              go_wp2
              go_ret
              exact ⟨by rw [HE.out]; rfl, HB1.out⟩
            · rw [decide_eq_false hin]
              have HE := hid (HPi.out hr hin)
              clear hin hr
              go_wp2
              go_roundw
              case rel => exact ⟨i + 1, by omega, by go_num, HE, HB1⟩
              case measure => simp [intOf]; omega
        · obtain rfl : i = L.length := by omega
          have HE := hid (HY.out h1 h8 fun j hj => HP.out j hj hj)
          go_wp2
          go_ret
          exact ⟨by rw [HE.out]; rfl, HB.out⟩
    · have HE := hid (HN.out fun h => h8 h.2)
      have e1 : (1 : Int) ≤ (L.length : Int) := by omega
      have e2 : (8 : Int) < (L.length : Int) := by omega
      clear h8
      go_enter Tryz.func65, Tryz.ntmps65
      go_wp2
      go_ret
      exact ⟨by rw [HE.out]; rfl, Below.refl _ _⟩
  · have HE := hid (HN.out fun h => h1 h.1)
    have e1 : (L.length : Int) < 1 := by omega
    clear h1
    go_enter Tryz.func65, Tryz.ntmps65
    go_wp2
    go_ret
    exact ⟨by rw [HE.out]; rfl, Below.refl _ _⟩
end Go.Proofs.YtmdjhefcohcjhaaGreatDoor


/- The document's answer: Order, GraphCheck. -/
namespace Go.Proofs.YtmdjhefcohcjhaaGreatDoor
open Go.RowKit Go.Shelf

/-- The least from j on that may come next. -/
def fromN (P : List (List Nat)) (out : List Nat) (j : Nat) : Option Nat := (List.range' j (P.length - j)).find? (freeB P out)
def encO : Option Nat → Int
  | some v => (v : Int)
  | none => -1
theorem fromN_zero (P : List (List Nat)) (out : List Nat) : fromN P out 0 = nextV P out := by rw [fromN, nextV, List.range_eq_range']; rfl
theorem fromN_end (P : List (List Nat)) (out : List Nat) : fromN P out P.length = none := by rw [fromN, Nat.sub_self]; rfl
theorem fromN_step {P : List (List Nat)} {out : List Nat} {j : Nat} (h : j < P.length) : fromN P out j = if freeB P out j = true then some j else fromN P out (j + 1) := by
  rw [fromN, fromN, show P.length - j = (P.length - (j + 1)) + 1 by omega, List.range'_succ, List.find?_cons]
  cases freeB P out j <;> rfl
/-- Is a node free as far as i of its parents say? -/
def freeI (P : List (List Nat)) (out : List Nat) (v i : Nat) : Bool := !decide (v ∈ out) && decide (∀ u ∈ (P.getD v []).take i, u ∈ out)
theorem freeI_zero (P : List (List Nat)) (out : List Nat) (v : Nat) : freeI P out v 0 = !decide (v ∈ out) := by simp [freeI]
theorem freeI_succ {P : List (List Nat)} {out p : List Nat} {v i : Nat} (hp : P.getD v [] = p) (h : i < p.length) : freeI P out v (i + 1) = (freeI P out v i && decide (p[i] ∈ out)) := by
  rw [freeI, freeI, hp, List.take_succ_eq_append_getElem h, Bool.and_assoc]
  congr 1
  rw [Bool.eq_iff_iff, Bool.and_eq_true, decide_eq_true_iff, decide_eq_true_iff, decide_eq_true_iff]
  constructor
  · intro H
    exact ⟨fun u hu => H u (List.mem_append_left _ hu), H _ (List.mem_append_right _ List.mem_cons_self)⟩
  · rintro ⟨H1, H2⟩ u hu
    rcases List.mem_append.1 hu with hu | hu
    · exact H1 u hu
    · rw [List.mem_singleton.1 hu]; exact H2
theorem freeI_all {P : List (List Nat)} {out p : List Nat} {v : Nat} (hp : P.getD v [] = p) : freeI P out v p.length = freeB P out v := by
  rw [freeI, freeB, hp, List.take_length]

set_option maxRecDepth 100000 in
set_option maxHeartbeats 2000000 in
theorem rOrder_any (a : Option Addr) (ca : Nat) (L : List (List Int)) (w : World) (h : LsS w a L) (hl : ∀ l ∈ L, l.length ≤ 140737488355328) (hL : L.length ≤ 140737488355328) :
    Calls Tryz.prog 39 #[.slice a L.length ca] w fun e w' => Below w.heap.size w w' ∧
      ((gcE L = 0 ∧ ∃ x, e = .returned (.tuple #[x, .int .i64 0]) ∧ RwI w' w.heap.size x (iL (ordN (parN L) L.length))) ∨ (gcE L ≠ 0 ∧ e = .returned (.tuple #[.slice none 0 0, .int .i64 (gcE L)]))) := by
  obtain ⟨i0, hi0, hz0, hz1, hz2⟩ := info_parts Tryz.infoInt
  have HF := hid h
  have HK := hid (fun (V : World) (hV : LsS V a L) => rListsOK_any a ca L V hV hl hL)
  have HL := hid hl
  have HG1 : Hid (gB L = false → gcE L = 11) := fun h => if_neg (by rw [h]; decide)
  have HG2 : Hid (gB L = true → (ordN (parN L) L.length).length < L.length → gcE L = 10) := fun h1 h2 => by rw [gcE, if_pos h1, if_pos h2]
  have HG3 : Hid (gB L = true → ¬ (ordN (parN L) L.length).length < L.length → gcE L = 0) := fun h1 h2 => by rw [gcE, if_pos h1, if_neg h2]
  have hPl := parN_length L
  have HPG : Hid (∀ i (h : i < L.length), (parN L).getD i [] = toN L[i]) := fun i h => parN_get h
  have HGR : Hid (gB L = true → L.length ≤ 8 ∧ ∀ i (h : i < L.length), ∀ y ∈ L[i], 0 ≤ y) := fun h => ⟨(gB_parts h).2.1, fun i hi => ris_nonneg (allRis_at (gB_parts h).2.2.1 hi)⟩
  generalize gcE L = ge at *
  generalize parN L = P at *
  clear h hl
  cases hgb : gB L with
  | false =>
    have HE := hid (HG1.out hgb)
    rw [hgb] at HK
    clear hgb HG1 HG2 HG3 HGR
    go_enter Tryz.func39, Tryz.ntmps39
    go_wp2_with fail
    refine (HK.out _ HF.out).mono ?_
    rintro e w1 ⟨rfl, hb1⟩
    go_wp2
    go_ret2
    exact ⟨hb1, .inr ⟨by rw [HE.out]; decide, by rw [HE.out]; rfl⟩⟩
  | true =>
    have HE2 := hid (HG2.out hgb)
    have HE3 := hid (HG3.out hgb)
    obtain ⟨h8, hnn⟩ := HGR.out hgb
    have HNN := hid hnn
    rw [hgb] at HK
    clear hgb HG1 HG2 HG3 HGR hnn
    have HO0 : Hid (ordN P 0 = []) := rfl
    have HLN := hid (ord_len P)
    have HSO : Hid (∀ k v, nextV P (ordN P k) = some v → ordN P (k + 1) = ordN P k ++ [v]) := fun k v h => ord_some h
    have HST : Hid (∀ k, k < L.length → nextV P (ordN P k) = none → (ordN P L.length).length < L.length) := fun k h1 h2 => by
      have := ord_full P h2 (by omega)
      rwa [hPl] at this
    generalize hFF : ordN P = F at *
    clear hFF
    go_enter Tryz.func39, Tryz.ntmps39
    go_wp2_with fail
    refine (HK.out _ HF.out).mono ?_
    rintro e w1 ⟨rfl, hb1⟩
    have HB1 := hid hb1
    clear hb1 HK
    go_wp2_with fail
    go_loopw [5] (fun ov wr => ∃ k : Nat, k ≤ L.length ∧ Hid ((F k).length = k) ∧ Hid (RwI wr w.heap.size ov (iL (F k))) ∧ Hid (Below w.heap.size w wr) ∧ ∃ d cd, ov = .slice d k cd) (fun ov _ => L.length - (match ov with | .slice _ n _ => n | _ => 0))
    case atStart => exact ⟨0, Nat.zero_le _, by rw [HO0.out]; rfl, by rw [HO0.out]; exact ⟨rfl, .inl ⟨rfl, rfl⟩⟩, HB1, none, 0, rfl⟩
    case round =>
      obtain ⟨k, hk, HLK, HR, HB, d, cd, rfl⟩ := hrel
      clear HB1
      by_cases hlt : k < L.length
      · have hIo : IntS wr d (iL (F k)) := by
          obtain ⟨d', cd', e, hi⟩ := HR.out.ints
          injection e with e1 e2 e3
          subst e1
          exact hi
        have HIO := hid hIo
        have hil : (iL (F k)).length = k := by rw [iL_length, HLK.out]
        have HIN : Hid (∀ (x : Int) (V : World), IntS V d (iL (F k)) → Calls Tryz.prog 66 #[.int .i64 x, .slice d k cd] V fun e w' => e = .returned (.bool (inB x (iL (F k)))) ∧ w' = V) := fun x V hV => by
          have := rIn_any x d cd (iL (F k)) V hV (by omega)
          rwa [hil] at this
        have HINB : Hid (∀ x : Int, 0 ≤ x → inB x (iL (F k)) = decide (x.toNat ∈ F k)) := fun x hx => inB_iL (F k) hx
        have HSOk := hid (HSO.out k)
        have HSTk := hid (HST.out k hlt)
        have HFZ := hid (fromN_zero P (F k))
        have HFE : Hid (fromN P (F k) L.length = none) := by rw [← hPl]; exact fromN_end P (F k)
        have HFS : Hid (∀ j, j < L.length → fromN P (F k) j = if freeB P (F k) j = true then some j else fromN P (F k) (j + 1)) := fun j hj => fromN_step (by omega)
        clear hIo hil
        go_wp2_with fail
        go_loopw [6, 7] (fun nv vv wq => ∃ j : Nat, j ≤ L.length ∧ vv = .int .i64 ((j : Int) - 1) ∧ nv = .int .i64 (encO (fromN P (F k) j)) ∧ wq = wr) (fun _ vv _ => (intOf vv + 1).toNat)
        case atStart => exact ⟨L.length, Nat.le_refl _, by first | rfl | go_num, by rw [HFE.out]; rfl, rfl⟩
        case round =>
          obtain ⟨j, hj, rfl, rfl, rfl⟩ := hrel
          cases j with
          | zero =>
            rw [HFZ.out]
            cases hnx : nextV P (F k) with
            | none =>
              have HE := hid (HE2.out (HSTk.out hnx))
              clear hnx
              go_wp2
              go_ret2
              exact ⟨HB.out, .inr ⟨by rw [HE.out]; decide, by rw [HE.out]; rfl⟩⟩
            | some v =>
              have hS := HSOk.out v hnx
              have HIL : Hid (iL (F (k + 1)) = iL (F k) ++ [(v : Int)]) := by show _ = _; rw [hS, iL_append]; rfl
              have HLS : Hid ((F (k + 1)).length = k + 1) := by show _ = _; rw [hS, List.length_append, HLK.out]; rfl
              have HLKK : Hid ((iL (F k)).length ≤ 8) := by
                show (iL (F k)).length ≤ 8
                rw [iL_length, HLK.out]
                omega
              have hv0 : (0 : Int) ≤ (v : Int) := by omega
              clear hS hnx
              have HOWN := hid HR.out.own
              have HRA : Hid (RwI (wr.alloc (.cells #[.int .i64 (v : Nat)] 3)) w.heap.size _ (iL (F k))) := World.ownsRow.alloc HR.out _
              have HBA := hid (HB.out.alloc HB.out.size (.cells #[.int .i64 (v : Nat)] 3))
              have HIA := hid (one_int wr (v : Nat))
              go_wp2_with (at_builtin; refine wpList_append_ints rfl _ _ rfl w.heap.size _ (iL (F k)) [((v : Nat) : Int)] rfl HRA.out (some ⟨wr.heap.size, 0, none⟩) 1 rfl HIA.out (fun e => by cases e) (by have := HLKK.out; simp; omega) HBA.out.size ?_; intro v' w5 hr5 hg5)
              have hr6 := hr5
              rw [← HIL.out] at hr6
              obtain ⟨d5, cd5, rfl, _⟩ := hr6.ints
              have e5 : (iL (F (k + 1))).length = k + 1 := by rw [iL_length, HLS.out]
              rw [e5]
              rw [e5] at hr6
              have HR5 := hid hr6
              have HB5 := hid (HBA.out.grown hg5 HBA.out.size HOWN.out)
              clear hr5 hr6 hg5 e5
              go_roundw
              case rel => exact ⟨k + 1, by omega, HLS, HR5, HB5, d5, cd5, rfl⟩
              case measure => show L.length - (k + 1) < L.length - k; omega
          | succ j =>
            have hjj : (((j + 1 : Nat) : Int) - 1) = (j : Int) := by omega
            rw [hjj]
            obtain ⟨g, o, b, c, rfl, hg, c0, hI⟩ := (HF.out.below HB.out) j (by omega)
            have hll := HL.out L[j] (List.getElem_mem (by omega))
            have HNJ := hid (HNN.out j (by omega))
            have HPJ := hid (HPG.out j (by omega))
            have HIB := hid (HINB.out (j : Int) (by omega))
            have HST0 := hid (freeI_zero P (F k) j)
            have HII := hid hI
            have HFJ := hid (HFS.out j (by omega))
            have HFA : Hid (∀ p, P.getD j [] = p → freeI P (F k) j p.length = freeB P (F k) j) := fun p hp => freeI_all hp
            have HFU : Hid (∀ p i (h : i < p.length), P.getD j [] = p → freeI P (F k) j (i + 1) = (freeI P (F k) j i && decide (p[i] ∈ F k))) := fun p i h hp => freeI_succ hp h
            generalize L[j]'(by omega) = l at *
            clear hI hjj
            go_wp2_with fail
            refine (HIN.out (j : Int) _ HIO.out).mono ?_
            rintro e w2 ⟨rfl, rfl⟩
            rw [HIB.out, Int.toNat_natCast]
            have HD0 : Hid ((!decide (j ∈ F k)) = freeI P (F k) j 0) := HST0.out.symm
            clear HIB HST0
            generalize decide (j ∈ F k) = q at *
            go_wp2_with fail
            go_loopw [8, 9] (fun bv iv wz => ∃ i : Nat, i ≤ l.length ∧ iv = .int .i64 i ∧ bv = .bool (freeI P (F k) j i) ∧ wz = w2) (fun _ iv _ => l.length - (intOf iv).toNat)
            case atStart => exact ⟨0, Nat.zero_le _, rfl, by rw [HD0.out], rfl⟩
            case round =>
              obtain ⟨i, hi, rfl, rfl, rfl⟩ := hrel
              by_cases hil : i < l.length
              · obtain ⟨g', o', rfl, hg', c1⟩ := HII.out i hil
                have hnn := HNJ.out l[i] (List.getElem_mem hil)
                have HUU := HFU.out (toN l) i (by rw [toN_length]; exact hil) HPJ.out
                rw [toN_get hil] at HUU
                have HUX := hid HUU
                have HBB := hid (HINB.out l[i] hnn)
                clear HUU
                generalize l[i] = x at *
                go_wp2_with fail
                refine (HIN.out x _ HIO.out).mono ?_
                rintro e w3 ⟨rfl, rfl⟩
                rw [HBB.out]
                generalize hq1 : freeI P (F k) j (i + 1) = q1 at *
                generalize decide (x.toNat ∈ F k) = q2 at *
                generalize freeI P (F k) j i = q3 at *
                have HQ1 := hid hq1
                clear hq1
                cases q3 with
                | false =>
                  have hq : q1 = false := HUX.out
                  subst hq
                  go_wp2
                  go_roundw
                  case rel => exact ⟨i + 1, by omega, by go_num, by rw [HQ1.out], trivial⟩
                  case measure => simp [intOf]; omega
                | true =>
                  have hq : q1 = q2 := HUX.out
                  subst hq
                  go_wp2
                  go_roundw
                  case rel => exact ⟨i + 1, by omega, by go_num, by rw [HQ1.out], trivial⟩
                  case measure => simp [intOf]; omega
              · obtain rfl : i = l.length := by omega
                have hfa := HFA.out (toN l) HPJ.out
                rw [toN_length] at hfa
                rw [hfa]
                have HJ := HFJ.out
                cases hfb : freeB P (F k) j with
                | false =>
                  rw [hfb, if_neg (by decide)] at HJ
                  have HJJ := hid HJ
                  clear HJ hfa hfb
                  go_wp2
                  go_roundw
                  case rel => exact ⟨j, by omega, by first | rfl | go_num, by rw [HJJ.out], trivial⟩
                  case measure => simp [intOf]
                | true =>
                  rw [hfb, if_pos rfl] at HJ
                  have HJJ := hid HJ
                  clear HJ hfa hfb
                  go_wp2
                  go_roundw
                  case rel => exact ⟨j, by omega, by first | rfl | go_num, by rw [HJJ.out]; rfl, trivial⟩
                  case measure => simp [intOf]
      · obtain rfl : k = L.length := by omega
        have HE := hid (HE3.out (by rw [HLK.out]; omega))
        have HRR := HR
        go_wp2
        go_ret2
        exact ⟨HB.out, .inl ⟨HE.out, _, rfl, HR.out⟩⟩
set_option maxRecDepth 100000 in
set_option maxHeartbeats 1000000 in
theorem rGraphCheck_any (a : Option Addr) (ca : Nat) (L : List (List Int)) (w : World) (h : LsS w a L) (hl : ∀ l ∈ L, l.length ≤ 140737488355328) (hL : L.length ≤ 140737488355328) :
    Calls Tryz.prog 21 #[.slice a L.length ca] w fun e w' => e = .returned (.int .i64 (gcE L)) ∧ Below w.heap.size w w' := by
  have HF := hid h
  have HR := hid (fun (V : World) (hV : LsS V a L) => rOrder_any a ca L V hV hl hL)
  generalize gcE L = ge at *
  clear h hl
  go_enter Tryz.func21, Tryz.ntmps21
  go_wp2_with fail
  refine (HR.out _ HF.out).mono ?_
  rintro e w1 ⟨hb, ⟨rfl, x, rfl, hU⟩ | ⟨hg, rfl⟩⟩
  · clear hU
    go_wp2
    go_ret
    exact ⟨rfl, hb⟩
  · clear hg
    go_wp2
    go_ret
    exact ⟨rfl, hb⟩
end Go.Proofs.YtmdjhefcohcjhaaGreatDoor


/- The document's answer: what a table has for an assignment of all variables. -/
namespace Go.Proofs.YtmdjhefcohcjhaaGreatDoor
open Go.RowKit Go.Shelf

theorem RowI_get {l : List Nat} {i : Nat} (h : i < (iL l).length) : (iL l)[i] = ((l[i]'(by rw [iL_length] at h; exact h) : Nat) : Int) := by simp [iL]

end Go.Proofs.YtmdjhefcohcjhaaGreatDoor

