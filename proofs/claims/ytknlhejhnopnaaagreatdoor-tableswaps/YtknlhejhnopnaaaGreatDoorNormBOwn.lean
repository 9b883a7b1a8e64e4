/- Package table: Norm. -/
import Derived.Test.YtknlhejhnopnaaaGreatDoorTabMToTabT
import Derived.Test.YtknlhejhnopnaaaGreatDoorRtFToNormA
namespace Go.Proofs.YtknlhejhnopnaaaGreatDoor
open Go.RowKit Go.Shelf

theorem normL_length (l : List Fr) : (normL l).length = l.length := by simp [normL]
theorem normL_get (l : List Fr) {k : Nat} (h : k < (normL l).length) : (normL l)[k] = qF (frQ (l[k]'(by rw [normL_length] at h; exact h)) * (1 / fsum l)) := by simp [normL]
theorem qw_inv {q : Rat} (h : q ≠ 0) : qw (1 / q) ≤ qw q + 1 := by
  have e : val (sgn q) (nu q) (de q) ≠ 0 := by rw [val_own]; exact h
  have h0 := fun h => e (val_zero_iff.2 h)
  have e1 : 1 / q = val (sgn q) (de q) (nu q) := by rw [val_inv _ _ _ (fun h => h0 (.inl h)) (fun h => h0 (.inr h)), val_own, Rat.div_def, Rat.one_mul]
  rw [e1]
  refine Nat.le_trans (qw_val _ _ _) ?_
  show (B q.den).size + (B q.num.natAbs).size + 1 ≤ qw q + 1
  rw [qw]
  omega
theorem qw_sum {l : List Fr} (h : fw l ≤ 10000) : qw (fsum l) ≤ 20002 := by have := fits_qw (fits_sum l); omega

set_option maxRecDepth 100000 in
set_option maxHeartbeats 400000 in
theorem tNorm_no (a b c : Option Addr) (ca cb cc m : Nat) (sizes vars : List Int) (w : World) (hs : IntS w a sizes) (hv : IntS w b vars) (hn : sizes.length ≤ 140737488355328) (hm : vars.length ≤ 140737488355328) (hk : checkA sizes vars m ≠ 0) :
    Calls Tryz.prog 24 #[.slice a sizes.length ca, .agg #[.slice b vars.length cb, .slice c m cc]] w fun e w' => TabA [] [] (checkA sizes vars m) e w' ∧ Below w.heap.size w w' := by
  have HS := hid hs
  have HV := hid hv
  have HC := hid (fun V h1 h2 => tCheck_any a b c ca cb cc m sizes vars V h1 h2 hn hm)
  generalize checkA sizes vars m = r at *
  clear hs hv hn hm
  have hH := NH.new w (.slice b vars.length cb) (.slice c m cc)
  have c0 := hH.1.c0
  have c1 := hH.1.c1
  go_enter Tryz.func24, Tryz.ntmps24
  go_wp2_with fail
  generalize ((w.alloc (TC (.slice b vars.length cb) (.slice c m cc))).alloc (TC (.slice none 0 0) (.slice none 0 0))) = W at *
  refine (HC.out _ (HS.out.below hH.2.2) (HV.out.below hH.2.2)).mono ?_
  rintro e w1 ⟨rfl, hb1⟩
  replace hH := hH.step hb1
  obtain ⟨k0, k1, f0, f1⟩ := hH.2.1.facts
  clear c0 c1 hb1
  have hrb : (r == 0) = false := by simp [hk]
  go_wp2
  refine bodyPost_ret ((hH.2.1.put _ _).result2 rfl _ rfl) rfl ?_
  exact ⟨TabA.empty r _, below_put2 hH.2.2 (by omega) _ _⟩

set_option maxRecDepth 100000 in
set_option maxHeartbeats 800000 in
theorem tNorm_z (a b c : Option Addr) (ca cb cc : Nat) (sizes vars : List Int) (l : List Fr) (w : World) (hs : IntS w a sizes) (hv : IntS w b vars) (hf : FrS w c l) (hn : sizes.length ≤ 140737488355328) (hm : vars.length ≤ 140737488355328) (hk : checkA sizes vars l.length = 0) (hw : fw l ≤ 10000) (hz : fsum l = 0) :
    Calls Tryz.prog 24 #[.slice a sizes.length ca, .agg #[.slice b vars.length cb, .slice c l.length cc]] w fun e w' => TabA [] [] 3 e w' ∧ Below w.heap.size w w' := by
  obtain ⟨hfi, hup, hlc⟩ := checkA_parts hk
  have hll : l.length ≤ 10000 := by have := fw_sw l; omega
  have hq := qw_sum hw
  have HCK := fun V h1 h2 => tCheck_any a b c ca cb cc l.length sizes vars V h1 h2 hn hm
  rw [hk] at HCK
  have HCK := hid HCK
  have HSU := hid (fun V h => fSum_any c cc l V h hw hll)
  have HO := hid (fun V : World => fOf_q (k := 1) (w := V) 1 1 rfl (by decide) (by rfl))
  have HS := hid hs
  have HV := hid hv
  have HF := hid hf
  have HD := hid (fun V : World => fDiv_z (n := sgn 1) (x := nu 1) (y := de 1) (w := V) ((val_own (fsum l)).trans hz))
  clear hs hv hf hn hm hk hw hlc hup hfi hz
  obtain ⟨dn, hdn⟩ : ∃ d, false = d := ⟨_, rfl⟩
  obtain ⟨dx, hdx⟩ : ∃ d : ByteArray, ⟨#[]⟩ = d := ⟨_, rfl⟩
  obtain ⟨dy, hdy⟩ : ∃ d : ByteArray, ⟨#[]⟩ = d := ⟨_, rfl⟩
  have HD2 : Hid (∀ V : World, Calls Tryz.prog 75 #[.agg #[.bool (sgn 1), .string (nu 1), .string (de 1)], .agg #[.bool (sgn (fsum l)), .string (nu (fsum l)), .string (de (fsum l))]] V fun e w' => e = .returned (.tuple #[.agg #[.bool dn, .string dx, .string dy], .int .i64 3]) ∧ Below V.heap.size V w') := by
    rw [← hdn, ← hdx, ← hdy]; exact HD
  clear HD hdn hdx hdy
  have HD := HD2
  clear HD2
  obtain ⟨dk, hdk⟩ : ∃ d : Int, 3 = d := ⟨_, rfl⟩
  rw [hdk] at HD
  have hdb : (dk == 0) = false := by rw [← hdk]; rfl
  have hd0 : ¬ dk = 0 := by omega
  have hH := NH.new w (.slice b vars.length cb) (.slice c l.length cc)
  have c0 := hH.1.c0
  have c1 := hH.1.c1
  go_enter Tryz.func24, Tryz.ntmps24
  go_wp2_with fail
  generalize ((w.alloc (TC (.slice b vars.length cb) (.slice c l.length cc))).alloc (TC (.slice none 0 0) (.slice none 0 0))) = W at *
  refine (HCK.out _ (HS.out.below hH.2.2) (HV.out.below hH.2.2)).mono ?_
  rintro e w1 ⟨rfl, hb1⟩
  replace hH := hH.step hb1
  clear c0 c1 hb1 HCK
  go_upto_region 4 with fail
  replace hH := hH.drew
  refine wp_region_held_drew (S := fun u => u.cell? ⟨w.heap.size, 1, none⟩ = some (.slice c l.length cc)) (by kernel_rfl) hH.1.c1 (fun hSd => ?_)
  generalize w1.drew = u0 at *
  refine wpAnyH_take (i := 1) (oi := _) (v := .pointer (some ⟨w.heap.size, 1, none⟩)) rfl (by kernel_rfl) (by kernel_rfl) (by kernel_rfl) (fun _ _ _ h => h) (Or.inl ⟨by rfl, ?_⟩) (by assumption) ?_
  · intro u' hSu
    (try simp only [List.getElem_toArray, List.getElem_cons_zero, List.getElem_cons_succ])
    go_simp
  (try simp only [List.getElem_toArray, List.getElem_cons_zero, List.getElem_cons_succ])
  (try simp only [Act.put, List.setIfInBounds_toArray, List.set_cons_zero, List.set_cons_succ])
  refine wpAnyH_take (i := 2) (oi := _) (v := .slice c l.length cc) rfl (by kernel_rfl) (by kernel_rfl) (by kernel_rfl) (fun _ _ _ h => h) (Or.inl ⟨by rfl, ?_⟩) (by assumption) ?_
  · intro u' hSu
    (try simp only [List.getElem_toArray, List.getElem_cons_zero, List.getElem_cons_succ])
    go_simp
  (try simp only [List.getElem_toArray, List.getElem_cons_zero, List.getElem_cons_succ])
  (try simp only [Act.put, List.setIfInBounds_toArray, List.set_cons_zero, List.set_cons_succ])
  refine wpAnyH_ready (rs := [0, 8]) (by kernel_rfl) (by simp) (AllReadyH.cons rfl ?_ (AllReadyH.cons rfl ?_ (AllReadyH.nil)))
  · intro K' hK'
    (try simp only [List.getElem_toArray, List.getElem_cons_zero])
    go_simp
    refine (HO.out _).mono ?_
    rintro e u1 ⟨rfl, hb⟩
    replace hH := hH.step hb
    refine hK'.out _ _ hH.1.c1 (fun hSe => ?_)
    clear hK' K' hSd
    have hSd := hSe
    clear hSe hb
    (try simp only [List.getElem_toArray, List.getElem_cons_zero, List.getElem_cons_succ])
    (try simp only [Act.put, List.setIfInBounds_toArray, List.set_cons_zero, List.set_cons_succ])
    refine wpAnyH_ready (rs := [3, 8]) (by kernel_rfl) (by simp) (AllReadyH.cons rfl ?_ (AllReadyH.cons rfl ?_ (AllReadyH.nil)))
    · intro K' hK'
      (try simp only [List.getElem_toArray, List.getElem_cons_zero, List.getElem_cons_succ])
      go_simp
      refine (HSU.out _ (HF.out.below hH.2.2)).mono ?_
      rintro e u2 ⟨rfl, hb⟩
      replace hH := hH.step hb
      refine hK'.out _ _ hH.1.c1 (fun hSe => ?_)
      clear hK' K' hSd
      have hSd := hSe
      clear hSe hb
      (try simp only [List.getElem_toArray, List.getElem_cons_zero, List.getElem_cons_succ])
      (try simp only [Act.put, List.setIfInBounds_toArray, List.set_cons_zero, List.set_cons_succ])
      refine wpAnyH_ready (rs := [4, 8]) (by kernel_rfl) (by simp) (AllReadyH.cons rfl ?_ (AllReadyH.cons rfl ?_ (AllReadyH.nil)))
      · intro K' hK'
        (try simp only [List.getElem_toArray, List.getElem_cons_zero, List.getElem_cons_succ])
        go_simp
        refine (HD.out _).mono ?_
        rintro e u3 ⟨rfl, hb⟩
        replace hH := hH.step hb
        refine hK'.out _ _ hH.1.c1 (fun hSe => ?_)
        clear hK' K' hSd
        have hSd := hSe
        clear hSe hb
        (try simp only [List.getElem_toArray, List.getElem_cons_zero, List.getElem_cons_succ])
        (try simp only [Act.put, List.setIfInBounds_toArray, List.set_cons_zero, List.set_cons_succ])
        refine wpAnyH_take (i := 5) (oi := _) (v := .tuple #[.agg #[.bool dn, .string dx, .string dy], .int .i64 dk]) rfl (by kernel_rfl) (by kernel_rfl) (by kernel_rfl) (fun _ _ _ h => h) (Or.inl ⟨by rfl, ?_⟩) (by assumption) ?_
        · intro u' hSu
          (try simp only [List.getElem_toArray, List.getElem_cons_zero, List.getElem_cons_succ])
          go_simp
        (try simp only [List.getElem_toArray, List.getElem_cons_zero, List.getElem_cons_succ])
        (try simp only [Act.put, List.setIfInBounds_toArray, List.set_cons_zero, List.set_cons_succ])
        refine wpAnyH_take (i := 6) (oi := _) (v := .agg #[.bool dn, .string dx, .string dy]) rfl (by kernel_rfl) (by kernel_rfl) (by kernel_rfl) (fun _ _ _ h => h) (Or.inl ⟨by rfl, ?_⟩) (by assumption) ?_
        · intro u' hSu
          (try simp only [List.getElem_toArray, List.getElem_cons_zero, List.getElem_cons_succ])
          go_simp
        (try simp only [List.getElem_toArray, List.getElem_cons_zero, List.getElem_cons_succ])
        (try simp only [Act.put, List.setIfInBounds_toArray, List.set_cons_zero, List.set_cons_succ])
        refine wpAnyH_take (i := 7) (oi := _) (v := .int .i64 dk) rfl (by kernel_rfl) (by kernel_rfl) (by kernel_rfl) (fun _ _ _ h => h) (Or.inl ⟨by rfl, ?_⟩) (by assumption) ?_
        · intro u' hSu
          (try simp only [List.getElem_toArray, List.getElem_cons_zero, List.getElem_cons_succ])
          go_simp
        (try simp only [List.getElem_toArray, List.getElem_cons_zero, List.getElem_cons_succ])
        (try simp only [Act.put, List.setIfInBounds_toArray, List.set_cons_zero, List.set_cons_succ])
        refine wpAnyH_ready (rs := [8]) (by kernel_rfl) (by simp) (AllReadyH.cons rfl ?_ (AllReadyH.nil))
        · intro K' hK'
          (try simp only [List.getElem_toArray, List.getElem_cons_zero, List.getElem_cons_succ])
          go_simp
          have hb : Below u3.heap.size u3 (u3.alloc (FC false ⟨#[]⟩ ⟨#[]⟩)) := (Below.refl _ u3).alloc (Nat.le_refl _) _
          have h7 : Box (u3.alloc (FC false ⟨#[]⟩ ⟨#[]⟩)) u3.heap.size false ⟨#[]⟩ ⟨#[]⟩ := Box.new u3 _ _ _
          have l7 := hH.lt
          replace hH := hH.step hb
          refine hK'.out _ _ hH.1.c1 (fun hSe => ?_)
          clear hK' K' hSd
          have hSd := hSe
          clear hSe hb
          generalize (u3.alloc (FC false ⟨#[]⟩ ⟨#[]⟩)) = u4 at *
          generalize u3.heap.size = B7 at *
          (try simp only [List.getElem_toArray, List.getElem_cons_zero, List.getElem_cons_succ])
          (try simp only [Act.put, List.setIfInBounds_toArray, List.set_cons_zero, List.set_cons_succ])
          obtain ⟨k0, k1, k2, f0, f1, f2⟩ := h7.facts
          refine wpAnyH_ready (rs := [9]) (by kernel_rfl) (by simp) (AllReadyH.cons rfl ?_ (AllReadyH.nil))
          · intro K' hK'
            (try simp only [List.getElem_toArray, List.getElem_cons_zero, List.getElem_cons_succ])
            go_simp
            have h8 := h7.put dn dx dy
            replace hH := ((hH.off B7 0 (.bool dn) l7).off B7 1 (.string dx) l7).off B7 2 (.string dy) l7
            clear k0 k1 k2 f0 f1 f2 h7
            generalize (((u4.setCell ⟨B7, 0, none⟩ (.bool dn)).setCell ⟨B7, 1, none⟩ (.string dx)).setCell ⟨B7, 2, none⟩ (.string dy)) = v9 at *
            refine hK'.out _ _ hH.1.c1 (fun hSe => ?_)
            clear hK' K' hSd
            have hSd := hSe
            clear hSe
            (try simp only [List.getElem_toArray, List.getElem_cons_zero, List.getElem_cons_succ])
            (try simp only [Act.put, List.setIfInBounds_toArray, List.set_cons_zero, List.set_cons_succ])
            refine wpAnyH_take (i := 10) (oi := _) (v := .int .i64 dk) rfl (by kernel_rfl) (by kernel_rfl) (by kernel_rfl) (fun _ _ _ h => h) (Or.inl ⟨by rfl, ?_⟩) (by assumption) ?_
            · intro u' hSu
              (try simp only [List.getElem_toArray, List.getElem_cons_zero, List.getElem_cons_succ])
              go_simp
            (try simp only [List.getElem_toArray, List.getElem_cons_zero, List.getElem_cons_succ])
            (try simp only [Act.put, List.setIfInBounds_toArray, List.set_cons_zero, List.set_cons_succ])
            refine wpAnyH_done (by kernel_rfl) ?_ _
            obtain ⟨k0, k1, f0, f1⟩ := hH.2.1.facts
            go_wp2
            refine bodyPost_ret ((hH.2.1.put _ _).result2 rfl _ rfl) rfl ?_
            exact ⟨by rw [← hdk]; exact TabA.empty 3 _, below_put2 hH.2.2 (by omega) _ _⟩
      · intro K' hK'
        (try simp only [List.getElem_toArray, List.getElem_cons_zero, List.getElem_cons_succ])
        go_simp
        have hb : Below u2.heap.size u2 (u2.alloc (FC false ⟨#[]⟩ ⟨#[]⟩)) := (Below.refl _ u2).alloc (Nat.le_refl _) _
        have h7 : Box (u2.alloc (FC false ⟨#[]⟩ ⟨#[]⟩)) u2.heap.size false ⟨#[]⟩ ⟨#[]⟩ := Box.new u2 _ _ _
        have l7 := hH.lt
        replace hH := hH.step hb
        refine hK'.out _ _ hH.1.c1 (fun hSe => ?_)
        clear hK' K' hSd
        have hSd := hSe
        clear hSe hb
        generalize (u2.alloc (FC false ⟨#[]⟩ ⟨#[]⟩)) = u3 at *
        generalize u2.heap.size = B7 at *
        (try simp only [List.getElem_toArray, List.getElem_cons_zero, List.getElem_cons_succ])
        (try simp only [Act.put, List.setIfInBounds_toArray, List.set_cons_zero, List.set_cons_succ])
        refine wpAnyH_ready (rs := [4]) (by kernel_rfl) (by simp) (AllReadyH.cons rfl ?_ (AllReadyH.nil))
        · intro K' hK'
          (try simp only [List.getElem_toArray, List.getElem_cons_zero, List.getElem_cons_succ])
          go_simp
          refine (HD.out _).mono ?_
          rintro e u4 ⟨rfl, hb⟩
          replace hH := hH.step hb
          replace h7 := h7.below hb h7.lt
          refine hK'.out _ _ hH.1.c1 (fun hSe => ?_)
          clear hK' K' hSd
          have hSd := hSe
          clear hSe hb
          (try simp only [List.getElem_toArray, List.getElem_cons_zero, List.getElem_cons_succ])
          (try simp only [Act.put, List.setIfInBounds_toArray, List.set_cons_zero, List.set_cons_succ])
          refine wpAnyH_take (i := 5) (oi := _) (v := .tuple #[.agg #[.bool dn, .string dx, .string dy], .int .i64 dk]) rfl (by kernel_rfl) (by kernel_rfl) (by kernel_rfl) (fun _ _ _ h => h) (Or.inl ⟨by rfl, ?_⟩) (by assumption) ?_
          · intro u' hSu
            (try simp only [List.getElem_toArray, List.getElem_cons_zero, List.getElem_cons_succ])
            go_simp
          (try simp only [List.getElem_toArray, List.getElem_cons_zero, List.getElem_cons_succ])
          (try simp only [Act.put, List.setIfInBounds_toArray, List.set_cons_zero, List.set_cons_succ])
          refine wpAnyH_take (i := 6) (oi := _) (v := .agg #[.bool dn, .string dx, .string dy]) rfl (by kernel_rfl) (by kernel_rfl) (by kernel_rfl) (fun _ _ _ h => h) (Or.inl ⟨by rfl, ?_⟩) (by assumption) ?_
          · intro u' hSu
            (try simp only [List.getElem_toArray, List.getElem_cons_zero, List.getElem_cons_succ])
            go_simp
          (try simp only [List.getElem_toArray, List.getElem_cons_zero, List.getElem_cons_succ])
          (try simp only [Act.put, List.setIfInBounds_toArray, List.set_cons_zero, List.set_cons_succ])
          refine wpAnyH_take (i := 7) (oi := _) (v := .int .i64 dk) rfl (by kernel_rfl) (by kernel_rfl) (by kernel_rfl) (fun _ _ _ h => h) (Or.inl ⟨by rfl, ?_⟩) (by assumption) ?_
          · intro u' hSu
            (try simp only [List.getElem_toArray, List.getElem_cons_zero, List.getElem_cons_succ])
            go_simp
          (try simp only [List.getElem_toArray, List.getElem_cons_zero, List.getElem_cons_succ])
          (try simp only [Act.put, List.setIfInBounds_toArray, List.set_cons_zero, List.set_cons_succ])
          obtain ⟨k0, k1, k2, f0, f1, f2⟩ := h7.facts
          refine wpAnyH_ready (rs := [9]) (by kernel_rfl) (by simp) (AllReadyH.cons rfl ?_ (AllReadyH.nil))
          · intro K' hK'
            (try simp only [List.getElem_toArray, List.getElem_cons_zero, List.getElem_cons_succ])
            go_simp
            have h8 := h7.put dn dx dy
            replace hH := ((hH.off B7 0 (.bool dn) l7).off B7 1 (.string dx) l7).off B7 2 (.string dy) l7
            clear k0 k1 k2 f0 f1 f2 h7
            generalize (((u4.setCell ⟨B7, 0, none⟩ (.bool dn)).setCell ⟨B7, 1, none⟩ (.string dx)).setCell ⟨B7, 2, none⟩ (.string dy)) = v9 at *
            refine hK'.out _ _ hH.1.c1 (fun hSe => ?_)
            clear hK' K' hSd
            have hSd := hSe
            clear hSe
            (try simp only [List.getElem_toArray, List.getElem_cons_zero, List.getElem_cons_succ])
            (try simp only [Act.put, List.setIfInBounds_toArray, List.set_cons_zero, List.set_cons_succ])
            refine wpAnyH_take (i := 10) (oi := _) (v := .int .i64 dk) rfl (by kernel_rfl) (by kernel_rfl) (by kernel_rfl) (fun _ _ _ h => h) (Or.inl ⟨by rfl, ?_⟩) (by assumption) ?_
            · intro u' hSu
              (try simp only [List.getElem_toArray, List.getElem_cons_zero, List.getElem_cons_succ])
              go_simp
            (try simp only [List.getElem_toArray, List.getElem_cons_zero, List.getElem_cons_succ])
            (try simp only [Act.put, List.setIfInBounds_toArray, List.set_cons_zero, List.set_cons_succ])
            refine wpAnyH_done (by kernel_rfl) ?_ _
            obtain ⟨k0, k1, f0, f1⟩ := hH.2.1.facts
            go_wp2
            refine bodyPost_ret ((hH.2.1.put _ _).result2 rfl _ rfl) rfl ?_
            exact ⟨by rw [← hdk]; exact TabA.empty 3 _, below_put2 hH.2.2 (by omega) _ _⟩
    · intro K' hK'
      (try simp only [List.getElem_toArray, List.getElem_cons_zero, List.getElem_cons_succ])
      go_simp
      have hb : Below u1.heap.size u1 (u1.alloc (FC false ⟨#[]⟩ ⟨#[]⟩)) := (Below.refl _ u1).alloc (Nat.le_refl _) _
      have h7 : Box (u1.alloc (FC false ⟨#[]⟩ ⟨#[]⟩)) u1.heap.size false ⟨#[]⟩ ⟨#[]⟩ := Box.new u1 _ _ _
      have l7 := hH.lt
      replace hH := hH.step hb
      refine hK'.out _ _ hH.1.c1 (fun hSe => ?_)
      clear hK' K' hSd
      have hSd := hSe
      clear hSe hb
      generalize (u1.alloc (FC false ⟨#[]⟩ ⟨#[]⟩)) = u2 at *
      generalize u1.heap.size = B7 at *
      (try simp only [List.getElem_toArray, List.getElem_cons_zero, List.getElem_cons_succ])
      (try simp only [Act.put, List.setIfInBounds_toArray, List.set_cons_zero, List.set_cons_succ])
      refine wpAnyH_ready (rs := [3]) (by kernel_rfl) (by simp) (AllReadyH.cons rfl ?_ (AllReadyH.nil))
      · intro K' hK'
        (try simp only [List.getElem_toArray, List.getElem_cons_zero, List.getElem_cons_succ])
        go_simp
        refine (HSU.out _ (HF.out.below hH.2.2)).mono ?_
        rintro e u3 ⟨rfl, hb⟩
        replace hH := hH.step hb
        replace h7 := h7.below hb h7.lt
        refine hK'.out _ _ hH.1.c1 (fun hSe => ?_)
        clear hK' K' hSd
        have hSd := hSe
        clear hSe hb
        (try simp only [List.getElem_toArray, List.getElem_cons_zero, List.getElem_cons_succ])
        (try simp only [Act.put, List.setIfInBounds_toArray, List.set_cons_zero, List.set_cons_succ])
        refine wpAnyH_ready (rs := [4]) (by kernel_rfl) (by simp) (AllReadyH.cons rfl ?_ (AllReadyH.nil))
        · intro K' hK'
          (try simp only [List.getElem_toArray, List.getElem_cons_zero, List.getElem_cons_succ])
          go_simp
          refine (HD.out _).mono ?_
          rintro e u4 ⟨rfl, hb⟩
          replace hH := hH.step hb
          replace h7 := h7.below hb h7.lt
          refine hK'.out _ _ hH.1.c1 (fun hSe => ?_)
          clear hK' K' hSd
          have hSd := hSe
          clear hSe hb
          (try simp only [List.getElem_toArray, List.getElem_cons_zero, List.getElem_cons_succ])
          (try simp only [Act.put, List.setIfInBounds_toArray, List.set_cons_zero, List.set_cons_succ])
          refine wpAnyH_take (i := 5) (oi := _) (v := .tuple #[.agg #[.bool dn, .string dx, .string dy], .int .i64 dk]) rfl (by kernel_rfl) (by kernel_rfl) (by kernel_rfl) (fun _ _ _ h => h) (Or.inl ⟨by rfl, ?_⟩) (by assumption) ?_
          · intro u' hSu
            (try simp only [List.getElem_toArray, List.getElem_cons_zero, List.getElem_cons_succ])
            go_simp
          (try simp only [List.getElem_toArray, List.getElem_cons_zero, List.getElem_cons_succ])
          (try simp only [Act.put, List.setIfInBounds_toArray, List.set_cons_zero, List.set_cons_succ])
          refine wpAnyH_take (i := 6) (oi := _) (v := .agg #[.bool dn, .string dx, .string dy]) rfl (by kernel_rfl) (by kernel_rfl) (by kernel_rfl) (fun _ _ _ h => h) (Or.inl ⟨by rfl, ?_⟩) (by assumption) ?_
          · intro u' hSu
            (try simp only [List.getElem_toArray, List.getElem_cons_zero, List.getElem_cons_succ])
            go_simp
          (try simp only [List.getElem_toArray, List.getElem_cons_zero, List.getElem_cons_succ])
          (try simp only [Act.put, List.setIfInBounds_toArray, List.set_cons_zero, List.set_cons_succ])
          refine wpAnyH_take (i := 7) (oi := _) (v := .int .i64 dk) rfl (by kernel_rfl) (by kernel_rfl) (by kernel_rfl) (fun _ _ _ h => h) (Or.inl ⟨by rfl, ?_⟩) (by assumption) ?_
          · intro u' hSu
            (try simp only [List.getElem_toArray, List.getElem_cons_zero, List.getElem_cons_succ])
            go_simp
          (try simp only [List.getElem_toArray, List.getElem_cons_zero, List.getElem_cons_succ])
          (try simp only [Act.put, List.setIfInBounds_toArray, List.set_cons_zero, List.set_cons_succ])
          obtain ⟨k0, k1, k2, f0, f1, f2⟩ := h7.facts
          refine wpAnyH_ready (rs := [9]) (by kernel_rfl) (by simp) (AllReadyH.cons rfl ?_ (AllReadyH.nil))
          · intro K' hK'
            (try simp only [List.getElem_toArray, List.getElem_cons_zero, List.getElem_cons_succ])
            go_simp
            have h8 := h7.put dn dx dy
            replace hH := ((hH.off B7 0 (.bool dn) l7).off B7 1 (.string dx) l7).off B7 2 (.string dy) l7
            clear k0 k1 k2 f0 f1 f2 h7
            generalize (((u4.setCell ⟨B7, 0, none⟩ (.bool dn)).setCell ⟨B7, 1, none⟩ (.string dx)).setCell ⟨B7, 2, none⟩ (.string dy)) = v9 at *
            refine hK'.out _ _ hH.1.c1 (fun hSe => ?_)
            clear hK' K' hSd
            have hSd := hSe
            clear hSe
            (try simp only [List.getElem_toArray, List.getElem_cons_zero, List.getElem_cons_succ])
            (try simp only [Act.put, List.setIfInBounds_toArray, List.set_cons_zero, List.set_cons_succ])
            refine wpAnyH_take (i := 10) (oi := _) (v := .int .i64 dk) rfl (by kernel_rfl) (by kernel_rfl) (by kernel_rfl) (fun _ _ _ h => h) (Or.inl ⟨by rfl, ?_⟩) (by assumption) ?_
            · intro u' hSu
              (try simp only [List.getElem_toArray, List.getElem_cons_zero, List.getElem_cons_succ])
              go_simp
            (try simp only [List.getElem_toArray, List.getElem_cons_zero, List.getElem_cons_succ])
            (try simp only [Act.put, List.setIfInBounds_toArray, List.set_cons_zero, List.set_cons_succ])
            refine wpAnyH_done (by kernel_rfl) ?_ _
            obtain ⟨k0, k1, f0, f1⟩ := hH.2.1.facts
            go_wp2
            refine bodyPost_ret ((hH.2.1.put _ _).result2 rfl _ rfl) rfl ?_
            exact ⟨by rw [← hdk]; exact TabA.empty 3 _, below_put2 hH.2.2 (by omega) _ _⟩
  · intro K' hK'
    (try simp only [List.getElem_toArray, List.getElem_cons_zero, List.getElem_cons_succ])
    go_simp
    have hb : Below u0.heap.size u0 (u0.alloc (FC false ⟨#[]⟩ ⟨#[]⟩)) := (Below.refl _ u0).alloc (Nat.le_refl _) _
    have h7 : Box (u0.alloc (FC false ⟨#[]⟩ ⟨#[]⟩)) u0.heap.size false ⟨#[]⟩ ⟨#[]⟩ := Box.new u0 _ _ _
    have l7 := hH.lt
    replace hH := hH.step hb
    refine hK'.out _ _ hH.1.c1 (fun hSe => ?_)
    clear hK' K' hSd
    have hSd := hSe
    clear hSe hb
    generalize (u0.alloc (FC false ⟨#[]⟩ ⟨#[]⟩)) = u1 at *
    generalize u0.heap.size = B7 at *
    (try simp only [List.getElem_toArray, List.getElem_cons_zero, List.getElem_cons_succ])
    (try simp only [Act.put, List.setIfInBounds_toArray, List.set_cons_zero, List.set_cons_succ])
    refine wpAnyH_ready (rs := [0]) (by kernel_rfl) (by simp) (AllReadyH.cons rfl ?_ (AllReadyH.nil))
    · intro K' hK'
      (try simp only [List.getElem_toArray, List.getElem_cons_zero])
      go_simp
      refine (HO.out _).mono ?_
      rintro e u2 ⟨rfl, hb⟩
      replace hH := hH.step hb
      replace h7 := h7.below hb h7.lt
      refine hK'.out _ _ hH.1.c1 (fun hSe => ?_)
      clear hK' K' hSd
      have hSd := hSe
      clear hSe hb
      (try simp only [List.getElem_toArray, List.getElem_cons_zero, List.getElem_cons_succ])
      (try simp only [Act.put, List.setIfInBounds_toArray, List.set_cons_zero, List.set_cons_succ])
      refine wpAnyH_ready (rs := [3]) (by kernel_rfl) (by simp) (AllReadyH.cons rfl ?_ (AllReadyH.nil))
      · intro K' hK'
        (try simp only [List.getElem_toArray, List.getElem_cons_zero, List.getElem_cons_succ])
        go_simp
        refine (HSU.out _ (HF.out.below hH.2.2)).mono ?_
        rintro e u3 ⟨rfl, hb⟩
        replace hH := hH.step hb
        replace h7 := h7.below hb h7.lt
        refine hK'.out _ _ hH.1.c1 (fun hSe => ?_)
        clear hK' K' hSd
        have hSd := hSe
        clear hSe hb
        (try simp only [List.getElem_toArray, List.getElem_cons_zero, List.getElem_cons_succ])
        (try simp only [Act.put, List.setIfInBounds_toArray, List.set_cons_zero, List.set_cons_succ])
        refine wpAnyH_ready (rs := [4]) (by kernel_rfl) (by simp) (AllReadyH.cons rfl ?_ (AllReadyH.nil))
        · intro K' hK'
          (try simp only [List.getElem_toArray, List.getElem_cons_zero, List.getElem_cons_succ])
          go_simp
          refine (HD.out _).mono ?_
          rintro e u4 ⟨rfl, hb⟩
          replace hH := hH.step hb
          replace h7 := h7.below hb h7.lt
          refine hK'.out _ _ hH.1.c1 (fun hSe => ?_)
          clear hK' K' hSd
          have hSd := hSe
          clear hSe hb
          (try simp only [List.getElem_toArray, List.getElem_cons_zero, List.getElem_cons_succ])
          (try simp only [Act.put, List.setIfInBounds_toArray, List.set_cons_zero, List.set_cons_succ])
          refine wpAnyH_take (i := 5) (oi := _) (v := .tuple #[.agg #[.bool dn, .string dx, .string dy], .int .i64 dk]) rfl (by kernel_rfl) (by kernel_rfl) (by kernel_rfl) (fun _ _ _ h => h) (Or.inl ⟨by rfl, ?_⟩) (by assumption) ?_
          · intro u' hSu
            (try simp only [List.getElem_toArray, List.getElem_cons_zero, List.getElem_cons_succ])
            go_simp
          (try simp only [List.getElem_toArray, List.getElem_cons_zero, List.getElem_cons_succ])
          (try simp only [Act.put, List.setIfInBounds_toArray, List.set_cons_zero, List.set_cons_succ])
          refine wpAnyH_take (i := 6) (oi := _) (v := .agg #[.bool dn, .string dx, .string dy]) rfl (by kernel_rfl) (by kernel_rfl) (by kernel_rfl) (fun _ _ _ h => h) (Or.inl ⟨by rfl, ?_⟩) (by assumption) ?_
          · intro u' hSu
            (try simp only [List.getElem_toArray, List.getElem_cons_zero, List.getElem_cons_succ])
            go_simp
          (try simp only [List.getElem_toArray, List.getElem_cons_zero, List.getElem_cons_succ])
          (try simp only [Act.put, List.setIfInBounds_toArray, List.set_cons_zero, List.set_cons_succ])
          refine wpAnyH_take (i := 7) (oi := _) (v := .int .i64 dk) rfl (by kernel_rfl) (by kernel_rfl) (by kernel_rfl) (fun _ _ _ h => h) (Or.inl ⟨by rfl, ?_⟩) (by assumption) ?_
          · intro u' hSu
            (try simp only [List.getElem_toArray, List.getElem_cons_zero, List.getElem_cons_succ])
            go_simp
          (try simp only [List.getElem_toArray, List.getElem_cons_zero, List.getElem_cons_succ])
          (try simp only [Act.put, List.setIfInBounds_toArray, List.set_cons_zero, List.set_cons_succ])
          obtain ⟨k0, k1, k2, f0, f1, f2⟩ := h7.facts
          refine wpAnyH_ready (rs := [9]) (by kernel_rfl) (by simp) (AllReadyH.cons rfl ?_ (AllReadyH.nil))
          · intro K' hK'
            (try simp only [List.getElem_toArray, List.getElem_cons_zero, List.getElem_cons_succ])
            go_simp
            have h8 := h7.put dn dx dy
            replace hH := ((hH.off B7 0 (.bool dn) l7).off B7 1 (.string dx) l7).off B7 2 (.string dy) l7
            clear k0 k1 k2 f0 f1 f2 h7
            generalize (((u4.setCell ⟨B7, 0, none⟩ (.bool dn)).setCell ⟨B7, 1, none⟩ (.string dx)).setCell ⟨B7, 2, none⟩ (.string dy)) = v9 at *
            refine hK'.out _ _ hH.1.c1 (fun hSe => ?_)
            clear hK' K' hSd
            have hSd := hSe
            clear hSe
            (try simp only [List.getElem_toArray, List.getElem_cons_zero, List.getElem_cons_succ])
            (try simp only [Act.put, List.setIfInBounds_toArray, List.set_cons_zero, List.set_cons_succ])
            refine wpAnyH_take (i := 10) (oi := _) (v := .int .i64 dk) rfl (by kernel_rfl) (by kernel_rfl) (by kernel_rfl) (fun _ _ _ h => h) (Or.inl ⟨by rfl, ?_⟩) (by assumption) ?_
            · intro u' hSu
              (try simp only [List.getElem_toArray, List.getElem_cons_zero, List.getElem_cons_succ])
              go_simp
            (try simp only [List.getElem_toArray, List.getElem_cons_zero, List.getElem_cons_succ])
            (try simp only [Act.put, List.setIfInBounds_toArray, List.set_cons_zero, List.set_cons_succ])
            refine wpAnyH_done (by kernel_rfl) ?_ _
            obtain ⟨k0, k1, f0, f1⟩ := hH.2.1.facts
            go_wp2
            refine bodyPost_ret ((hH.2.1.put _ _).result2 rfl _ rfl) rfl ?_
            exact ⟨by rw [← hdk]; exact TabA.empty 3 _, below_put2 hH.2.2 (by omega) _ _⟩

set_option maxRecDepth 100000 in
set_option maxHeartbeats 800000 in
theorem tNorm_q (a b c : Option Addr) (ca cb cc : Nat) (sizes vars : List Int) (l : List Fr) (w : World) (hs : IntS w a sizes) (hv : IntS w b vars) (hf : FrS w c l) (hn : sizes.length ≤ 140737488355328) (hm : vars.length ≤ 140737488355328) (hk : checkA sizes vars l.length = 0) (hw : fw l ≤ 10000) (hz : fsum l ≠ 0) :
    Calls Tryz.prog 24 #[.slice a sizes.length ca, .agg #[.slice b vars.length cb, .slice c l.length cc]] w fun e w' => TabA vars (normL l) 0 e w' ∧ Below w.heap.size w w' := by
  obtain ⟨hfi, hup, hlc⟩ := checkA_parts hk
  have hll : l.length ≤ 10000 := by have := fw_sw l; omega
  have hq := qw_sum hw
  have HCK := fun V h1 h2 => tCheck_any a b c ca cb cc l.length sizes vars V h1 h2 hn hm
  rw [hk] at HCK
  have HCK := hid HCK
  have HSU := hid (fun V h => fSum_any c cc l V h hw hll)
  have HO := hid (fun V : World => fOf_q (k := 1) (w := V) 1 1 rfl (by decide) (by rfl))
  have HS := hid hs
  have HV := hid hv
  have HF := hid hf
  have HN := hid (fun V Bs (k : Nat) (hk : k < l.length) (h1 : w.heap.size < V.heap.size) (h2 : V.cell? ⟨w.heap.size, 1, none⟩ = some (.slice c l.length cc)) (h3 : Box V Bs (sgn (1 / fsum l)) (nu (1 / fsum l)) (de (1 / fsum l))) (h4 : FrS V c l) => norm1_any w.heap.size Bs c cc l (1 / fsum l) k hk V h1 h2 h3 h4 (by have := fw_mem (List.getElem_mem hk); omega) (by have := qw_inv hz; show qw (1 / fsum l) ≤ 100000; omega))
  have HD := hid (fun V : World => fDiv_q (n := sgn 1) (x := nu 1) (y := de 1) (w := V) (1 / fsum l) (val_own 1) (val_own (fsum l)) hz rfl (show qw 1 ≤ 100000 by have := qw_val false (B 1) (B 1); exact Nat.le_trans (by decide +kernel) (Nat.le_refl 100000)) (show qw (fsum l) ≤ 100000 by omega))
  have HNL : Hid (∀ (k : Nat) (h : k < (normL l).length) (h' : k < l.length), (normL l)[k] = qF (frQ l[k] * (1 / fsum l))) := fun k h _ => normL_get l h
  have hnl := normL_length l
  clear hs hv hf hn hm hk hw hz hq
  have HFI := hid hfi
  have HUP := hid hup
  have HLC := hid hlc
  have hv8 := hup.length
  have hl8 := hfi.eight
  clear hlc hup hfi
  generalize normL l = NL at *
  generalize 1 / fsum l = r at *
  obtain ⟨dn, hdn⟩ : ∃ d, sgn r = d := ⟨_, rfl⟩
  obtain ⟨dx, hdx⟩ : ∃ d : ByteArray, nu r = d := ⟨_, rfl⟩
  obtain ⟨dy, hdy⟩ : ∃ d : ByteArray, de r = d := ⟨_, rfl⟩
  rw [hdn, hdx, hdy] at HD HN
  clear hdn hdx hdy
  obtain ⟨dk, hdk⟩ : ∃ d : Int, 0 = d := ⟨_, rfl⟩
  rw [hdk] at HD
  have hdb : (dk == 0) = true := by rw [← hdk]; rfl
  clear hdk
  have hH := NH.new w (.slice b vars.length cb) (.slice c l.length cc)
  have c0 := hH.1.c0
  have c1 := hH.1.c1
  go_enter Tryz.func24, Tryz.ntmps24
  go_wp2_with fail
  generalize ((w.alloc (TC (.slice b vars.length cb) (.slice c l.length cc))).alloc (TC (.slice none 0 0) (.slice none 0 0))) = W at *
  refine (HCK.out _ (HS.out.below hH.2.2) (HV.out.below hH.2.2)).mono ?_
  rintro e w1 ⟨rfl, hb1⟩
  replace hH := hH.step hb1
  clear c0 c1 hb1 HCK
  go_upto_region 4 with fail
  replace hH := hH.drew
  refine wp_region_held_drew (S := fun u => u.cell? ⟨w.heap.size, 1, none⟩ = some (.slice c l.length cc)) (by kernel_rfl) hH.1.c1 (fun hSd => ?_)
  generalize w1.drew = u0 at *
  refine wpAnyH_take (i := 1) (oi := _) (v := .pointer (some ⟨w.heap.size, 1, none⟩)) rfl (by kernel_rfl) (by kernel_rfl) (by kernel_rfl) (fun _ _ _ h => h) (Or.inl ⟨by rfl, ?_⟩) (by assumption) ?_
  · intro u' hSu
    (try simp only [List.getElem_toArray, List.getElem_cons_zero, List.getElem_cons_succ])
    go_simp
  (try simp only [List.getElem_toArray, List.getElem_cons_zero, List.getElem_cons_succ])
  (try simp only [Act.put, List.setIfInBounds_toArray, List.set_cons_zero, List.set_cons_succ])
  refine wpAnyH_take (i := 2) (oi := _) (v := .slice c l.length cc) rfl (by kernel_rfl) (by kernel_rfl) (by kernel_rfl) (fun _ _ _ h => h) (Or.inl ⟨by rfl, ?_⟩) (by assumption) ?_
  · intro u' hSu
    (try simp only [List.getElem_toArray, List.getElem_cons_zero, List.getElem_cons_succ])
    go_simp
  (try simp only [List.getElem_toArray, List.getElem_cons_zero, List.getElem_cons_succ])
  (try simp only [Act.put, List.setIfInBounds_toArray, List.set_cons_zero, List.set_cons_succ])
  refine wpAnyH_ready (rs := [0, 8]) (by kernel_rfl) (by simp) (AllReadyH.cons rfl ?_ (AllReadyH.cons rfl ?_ (AllReadyH.nil)))
  · intro K' hK'
    (try simp only [List.getElem_toArray, List.getElem_cons_zero])
    go_simp
    refine (HO.out _).mono ?_
    rintro e u1 ⟨rfl, hb⟩
    replace hH := hH.step hb
    refine hK'.out _ _ hH.1.c1 (fun hSe => ?_)
    clear hK' K' hSd
    have hSd := hSe
    clear hSe hb
    (try simp only [List.getElem_toArray, List.getElem_cons_zero, List.getElem_cons_succ])
    (try simp only [Act.put, List.setIfInBounds_toArray, List.set_cons_zero, List.set_cons_succ])
    refine wpAnyH_ready (rs := [3, 8]) (by kernel_rfl) (by simp) (AllReadyH.cons rfl ?_ (AllReadyH.cons rfl ?_ (AllReadyH.nil)))
    · intro K' hK'
      (try simp only [List.getElem_toArray, List.getElem_cons_zero, List.getElem_cons_succ])
      go_simp
      refine (HSU.out _ (HF.out.below hH.2.2)).mono ?_
      rintro e u2 ⟨rfl, hb⟩
      replace hH := hH.step hb
      refine hK'.out _ _ hH.1.c1 (fun hSe => ?_)
      clear hK' K' hSd
      have hSd := hSe
      clear hSe hb
      (try simp only [List.getElem_toArray, List.getElem_cons_zero, List.getElem_cons_succ])
      (try simp only [Act.put, List.setIfInBounds_toArray, List.set_cons_zero, List.set_cons_succ])
      refine wpAnyH_ready (rs := [4, 8]) (by kernel_rfl) (by simp) (AllReadyH.cons rfl ?_ (AllReadyH.cons rfl ?_ (AllReadyH.nil)))
      · intro K' hK'
        (try simp only [List.getElem_toArray, List.getElem_cons_zero, List.getElem_cons_succ])
        go_simp
        refine (HD.out _).mono ?_
        rintro e u3 ⟨rfl, hb⟩
        replace hH := hH.step hb
        refine hK'.out _ _ hH.1.c1 (fun hSe => ?_)
        clear hK' K' hSd
        have hSd := hSe
        clear hSe hb
        (try simp only [List.getElem_toArray, List.getElem_cons_zero, List.getElem_cons_succ])
        (try simp only [Act.put, List.setIfInBounds_toArray, List.set_cons_zero, List.set_cons_succ])
        refine wpAnyH_take (i := 5) (oi := _) (v := .tuple #[.agg #[.bool dn, .string dx, .string dy], .int .i64 dk]) rfl (by kernel_rfl) (by kernel_rfl) (by kernel_rfl) (fun _ _ _ h => h) (Or.inl ⟨by rfl, ?_⟩) (by assumption) ?_
        · intro u' hSu
          (try simp only [List.getElem_toArray, List.getElem_cons_zero, List.getElem_cons_succ])
          go_simp
        (try simp only [List.getElem_toArray, List.getElem_cons_zero, List.getElem_cons_succ])
        (try simp only [Act.put, List.setIfInBounds_toArray, List.set_cons_zero, List.set_cons_succ])
        refine wpAnyH_take (i := 6) (oi := _) (v := .agg #[.bool dn, .string dx, .string dy]) rfl (by kernel_rfl) (by kernel_rfl) (by kernel_rfl) (fun _ _ _ h => h) (Or.inl ⟨by rfl, ?_⟩) (by assumption) ?_
        · intro u' hSu
          (try simp only [List.getElem_toArray, List.getElem_cons_zero, List.getElem_cons_succ])
          go_simp
        (try simp only [List.getElem_toArray, List.getElem_cons_zero, List.getElem_cons_succ])
        (try simp only [Act.put, List.setIfInBounds_toArray, List.set_cons_zero, List.set_cons_succ])
        refine wpAnyH_take (i := 7) (oi := _) (v := .int .i64 dk) rfl (by kernel_rfl) (by kernel_rfl) (by kernel_rfl) (fun _ _ _ h => h) (Or.inl ⟨by rfl, ?_⟩) (by assumption) ?_
        · intro u' hSu
          (try simp only [List.getElem_toArray, List.getElem_cons_zero, List.getElem_cons_succ])
          go_simp
        (try simp only [List.getElem_toArray, List.getElem_cons_zero, List.getElem_cons_succ])
        (try simp only [Act.put, List.setIfInBounds_toArray, List.set_cons_zero, List.set_cons_succ])
        refine wpAnyH_ready (rs := [8]) (by kernel_rfl) (by simp) (AllReadyH.cons rfl ?_ (AllReadyH.nil))
        · intro K' hK'
          (try simp only [List.getElem_toArray, List.getElem_cons_zero, List.getElem_cons_succ])
          go_simp
          have hb : Below u3.heap.size u3 (u3.alloc (FC false ⟨#[]⟩ ⟨#[]⟩)) := (Below.refl _ u3).alloc (Nat.le_refl _) _
          have h7 : Box (u3.alloc (FC false ⟨#[]⟩ ⟨#[]⟩)) u3.heap.size false ⟨#[]⟩ ⟨#[]⟩ := Box.new u3 _ _ _
          have l7 := hH.lt
          replace hH := hH.step hb
          refine hK'.out _ _ hH.1.c1 (fun hSe => ?_)
          clear hK' K' hSd
          have hSd := hSe
          clear hSe hb
          generalize (u3.alloc (FC false ⟨#[]⟩ ⟨#[]⟩)) = u4 at *
          generalize u3.heap.size = B7 at *
          (try simp only [List.getElem_toArray, List.getElem_cons_zero, List.getElem_cons_succ])
          (try simp only [Act.put, List.setIfInBounds_toArray, List.set_cons_zero, List.set_cons_succ])
          obtain ⟨k0, k1, k2, f0, f1, f2⟩ := h7.facts
          refine wpAnyH_ready (rs := [9]) (by kernel_rfl) (by simp) (AllReadyH.cons rfl ?_ (AllReadyH.nil))
          · intro K' hK'
            (try simp only [List.getElem_toArray, List.getElem_cons_zero, List.getElem_cons_succ])
            go_simp
            have h8 := h7.put dn dx dy
            replace hH := ((hH.off B7 0 (.bool dn) l7).off B7 1 (.string dx) l7).off B7 2 (.string dy) l7
            clear k0 k1 k2 f0 f1 f2 h7
            generalize (((u4.setCell ⟨B7, 0, none⟩ (.bool dn)).setCell ⟨B7, 1, none⟩ (.string dx)).setCell ⟨B7, 2, none⟩ (.string dy)) = v9 at *
            refine hK'.out _ _ hH.1.c1 (fun hSe => ?_)
            clear hK' K' hSd
            have hSd := hSe
            clear hSe
            (try simp only [List.getElem_toArray, List.getElem_cons_zero, List.getElem_cons_succ])
            (try simp only [Act.put, List.setIfInBounds_toArray, List.set_cons_zero, List.set_cons_succ])
            refine wpAnyH_take (i := 10) (oi := _) (v := .int .i64 dk) rfl (by kernel_rfl) (by kernel_rfl) (by kernel_rfl) (fun _ _ _ h => h) (Or.inl ⟨by rfl, ?_⟩) (by assumption) ?_
            · intro u' hSu
              (try simp only [List.getElem_toArray, List.getElem_cons_zero, List.getElem_cons_succ])
              go_simp
            (try simp only [List.getElem_toArray, List.getElem_cons_zero, List.getElem_cons_succ])
            (try simp only [Act.put, List.setIfInBounds_toArray, List.set_cons_zero, List.set_cons_succ])
            refine wpAnyH_done (by kernel_rfl) ?_ _
            have c0 := hH.1.c0
            go_wp2_with fail
            refine (slClone_any b cb vars _ (HV.out.below hH.2.2) (by omega)).mono ?_
            rintro e w2 ⟨x, rfl, hr2, hb2⟩
            obtain ⟨d, cd, rfl, hi2⟩ := hr2.ints
            clear c0 hr2
            replace hH := hH.step hb2
            replace h8 := h8.below hb2 h8.lt
            clear hb2
            have hlt := hH.1.lt
            have hfill := fill_any a d ca cd sizes vars 79 #[.pointer (some ⟨w.heap.size, 0, none⟩), .pointer (some ⟨B7, 0, none⟩)] (enters_of Tryz.func79 (by kernel_rfl) rfl) NL w2 (HS.out.below hH.2.2) hi2 HFI.out HUP.out (by rw [hnl]; exact HLC.out) (fun k hk V hb => by rw [HNL.out k hk (by omega)]; exact HN.out V B7 k (by omega) (Nat.lt_of_lt_of_le hlt hb.size) ((hb.cell (p := ⟨w.heap.size, 1, none⟩) hlt).trans hH.1.c1) (h8.below hb h8.lt) (HF.out.below (hH.2.2.trans (hb.mono hH.2.2.size))))
            have HFILL := hid hfill
            clear hfill
            go_wp2_with fail
            refine HFILL.out.mono ?_
            rintro e w3 ⟨G, rfl, hG, hrow, hb3⟩
            have hl3 := hH.lt
            replace hH := hH.step hb3
            replace hi2 := hi2.below hb3
            obtain ⟨k0, k1, f0, f1⟩ := hH.2.1.facts
            obtain ⟨e1, e2, e3⟩ := hH.fin (cb := cd) (cc := l.length) hi2 hrow (by omega) (.slice d vars.length cd) (.slice (some ⟨G, 0, none⟩) l.length l.length) rfl (by rw [hnl])
            go_wp2
            refine bodyPost_ret (e1.result2 rfl _ rfl) rfl ?_
            exact ⟨e2, e3⟩
      · intro K' hK'
        (try simp only [List.getElem_toArray, List.getElem_cons_zero, List.getElem_cons_succ])
        go_simp
        have hb : Below u2.heap.size u2 (u2.alloc (FC false ⟨#[]⟩ ⟨#[]⟩)) := (Below.refl _ u2).alloc (Nat.le_refl _) _
        have h7 : Box (u2.alloc (FC false ⟨#[]⟩ ⟨#[]⟩)) u2.heap.size false ⟨#[]⟩ ⟨#[]⟩ := Box.new u2 _ _ _
        have l7 := hH.lt
        replace hH := hH.step hb
        refine hK'.out _ _ hH.1.c1 (fun hSe => ?_)
        clear hK' K' hSd
        have hSd := hSe
        clear hSe hb
        generalize (u2.alloc (FC false ⟨#[]⟩ ⟨#[]⟩)) = u3 at *
        generalize u2.heap.size = B7 at *
        (try simp only [List.getElem_toArray, List.getElem_cons_zero, List.getElem_cons_succ])
        (try simp only [Act.put, List.setIfInBounds_toArray, List.set_cons_zero, List.set_cons_succ])
        refine wpAnyH_ready (rs := [4]) (by kernel_rfl) (by simp) (AllReadyH.cons rfl ?_ (AllReadyH.nil))
        · intro K' hK'
          (try simp only [List.getElem_toArray, List.getElem_cons_zero, List.getElem_cons_succ])
          go_simp
          refine (HD.out _).mono ?_
          rintro e u4 ⟨rfl, hb⟩
          replace hH := hH.step hb
          replace h7 := h7.below hb h7.lt
          refine hK'.out _ _ hH.1.c1 (fun hSe => ?_)
          clear hK' K' hSd
          have hSd := hSe
          clear hSe hb
          (try simp only [List.getElem_toArray, List.getElem_cons_zero, List.getElem_cons_succ])
          (try simp only [Act.put, List.setIfInBounds_toArray, List.set_cons_zero, List.set_cons_succ])
          refine wpAnyH_take (i := 5) (oi := _) (v := .tuple #[.agg #[.bool dn, .string dx, .string dy], .int .i64 dk]) rfl (by kernel_rfl) (by kernel_rfl) (by kernel_rfl) (fun _ _ _ h => h) (Or.inl ⟨by rfl, ?_⟩) (by assumption) ?_
          · intro u' hSu
            (try simp only [List.getElem_toArray, List.getElem_cons_zero, List.getElem_cons_succ])
            go_simp
          (try simp only [List.getElem_toArray, List.getElem_cons_zero, List.getElem_cons_succ])
          (try simp only [Act.put, List.setIfInBounds_toArray, List.set_cons_zero, List.set_cons_succ])
          refine wpAnyH_take (i := 6) (oi := _) (v := .agg #[.bool dn, .string dx, .string dy]) rfl (by kernel_rfl) (by kernel_rfl) (by kernel_rfl) (fun _ _ _ h => h) (Or.inl ⟨by rfl, ?_⟩) (by assumption) ?_
          · intro u' hSu
            (try simp only [List.getElem_toArray, List.getElem_cons_zero, List.getElem_cons_succ])
            go_simp
          (try simp only [List.getElem_toArray, List.getElem_cons_zero, List.getElem_cons_succ])
          (try simp only [Act.put, List.setIfInBounds_toArray, List.set_cons_zero, List.set_cons_succ])
          refine wpAnyH_take (i := 7) (oi := _) (v := .int .i64 dk) rfl (by kernel_rfl) (by kernel_rfl) (by kernel_rfl) (fun _ _ _ h => h) (Or.inl ⟨by rfl, ?_⟩) (by assumption) ?_
          · intro u' hSu
            (try simp only [List.getElem_toArray, List.getElem_cons_zero, List.getElem_cons_succ])
            go_simp
          (try simp only [List.getElem_toArray, List.getElem_cons_zero, List.getElem_cons_succ])
          (try simp only [Act.put, List.setIfInBounds_toArray, List.set_cons_zero, List.set_cons_succ])
          obtain ⟨k0, k1, k2, f0, f1, f2⟩ := h7.facts
          refine wpAnyH_ready (rs := [9]) (by kernel_rfl) (by simp) (AllReadyH.cons rfl ?_ (AllReadyH.nil))
          · intro K' hK'
            (try simp only [List.getElem_toArray, List.getElem_cons_zero, List.getElem_cons_succ])
            go_simp
            have h8 := h7.put dn dx dy
            replace hH := ((hH.off B7 0 (.bool dn) l7).off B7 1 (.string dx) l7).off B7 2 (.string dy) l7
            clear k0 k1 k2 f0 f1 f2 h7
            generalize (((u4.setCell ⟨B7, 0, none⟩ (.bool dn)).setCell ⟨B7, 1, none⟩ (.string dx)).setCell ⟨B7, 2, none⟩ (.string dy)) = v9 at *
            refine hK'.out _ _ hH.1.c1 (fun hSe => ?_)
            clear hK' K' hSd
            have hSd := hSe
            clear hSe
            (try simp only [List.getElem_toArray, List.getElem_cons_zero, List.getElem_cons_succ])
            (try simp only [Act.put, List.setIfInBounds_toArray, List.set_cons_zero, List.set_cons_succ])
            refine wpAnyH_take (i := 10) (oi := _) (v := .int .i64 dk) rfl (by kernel_rfl) (by kernel_rfl) (by kernel_rfl) (fun _ _ _ h => h) (Or.inl ⟨by rfl, ?_⟩) (by assumption) ?_
            · intro u' hSu
              (try simp only [List.getElem_toArray, List.getElem_cons_zero, List.getElem_cons_succ])
              go_simp
            (try simp only [List.getElem_toArray, List.getElem_cons_zero, List.getElem_cons_succ])
            (try simp only [Act.put, List.setIfInBounds_toArray, List.set_cons_zero, List.set_cons_succ])
            refine wpAnyH_done (by kernel_rfl) ?_ _
            have c0 := hH.1.c0
            go_wp2_with fail
            refine (slClone_any b cb vars _ (HV.out.below hH.2.2) (by omega)).mono ?_
            rintro e w2 ⟨x, rfl, hr2, hb2⟩
            obtain ⟨d, cd, rfl, hi2⟩ := hr2.ints
            clear c0 hr2
            replace hH := hH.step hb2
            replace h8 := h8.below hb2 h8.lt
            clear hb2
            have hlt := hH.1.lt
            have hfill := fill_any a d ca cd sizes vars 79 #[.pointer (some ⟨w.heap.size, 0, none⟩), .pointer (some ⟨B7, 0, none⟩)] (enters_of Tryz.func79 (by kernel_rfl) rfl) NL w2 (HS.out.below hH.2.2) hi2 HFI.out HUP.out (by rw [hnl]; exact HLC.out) (fun k hk V hb => by rw [HNL.out k hk (by omega)]; exact HN.out V B7 k (by omega) (Nat.lt_of_lt_of_le hlt hb.size) ((hb.cell (p := ⟨w.heap.size, 1, none⟩) hlt).trans hH.1.c1) (h8.below hb h8.lt) (HF.out.below (hH.2.2.trans (hb.mono hH.2.2.size))))
            have HFILL := hid hfill
            clear hfill
            go_wp2_with fail
            refine HFILL.out.mono ?_
            rintro e w3 ⟨G, rfl, hG, hrow, hb3⟩
            have hl3 := hH.lt
            replace hH := hH.step hb3
            replace hi2 := hi2.below hb3
            obtain ⟨k0, k1, f0, f1⟩ := hH.2.1.facts
            obtain ⟨e1, e2, e3⟩ := hH.fin (cb := cd) (cc := l.length) hi2 hrow (by omega) (.slice d vars.length cd) (.slice (some ⟨G, 0, none⟩) l.length l.length) rfl (by rw [hnl])
            go_wp2
            refine bodyPost_ret (e1.result2 rfl _ rfl) rfl ?_
            exact ⟨e2, e3⟩
    · intro K' hK'
      (try simp only [List.getElem_toArray, List.getElem_cons_zero, List.getElem_cons_succ])
      go_simp
      have hb : Below u1.heap.size u1 (u1.alloc (FC false ⟨#[]⟩ ⟨#[]⟩)) := (Below.refl _ u1).alloc (Nat.le_refl _) _
      have h7 : Box (u1.alloc (FC false ⟨#[]⟩ ⟨#[]⟩)) u1.heap.size false ⟨#[]⟩ ⟨#[]⟩ := Box.new u1 _ _ _
      have l7 := hH.lt
      replace hH := hH.step hb
      refine hK'.out _ _ hH.1.c1 (fun hSe => ?_)
      clear hK' K' hSd
      have hSd := hSe
      clear hSe hb
      generalize (u1.alloc (FC false ⟨#[]⟩ ⟨#[]⟩)) = u2 at *
      generalize u1.heap.size = B7 at *
      (try simp only [List.getElem_toArray, List.getElem_cons_zero, List.getElem_cons_succ])
      (try simp only [Act.put, List.setIfInBounds_toArray, List.set_cons_zero, List.set_cons_succ])
      refine wpAnyH_ready (rs := [3]) (by kernel_rfl) (by simp) (AllReadyH.cons rfl ?_ (AllReadyH.nil))
      · intro K' hK'
        (try simp only [List.getElem_toArray, List.getElem_cons_zero, List.getElem_cons_succ])
        go_simp
        refine (HSU.out _ (HF.out.below hH.2.2)).mono ?_
        rintro e u3 ⟨rfl, hb⟩
        replace hH := hH.step hb
        replace h7 := h7.below hb h7.lt
        refine hK'.out _ _ hH.1.c1 (fun hSe => ?_)
        clear hK' K' hSd
        have hSd := hSe
        clear hSe hb
        (try simp only [List.getElem_toArray, List.getElem_cons_zero, List.getElem_cons_succ])
        (try simp only [Act.put, List.setIfInBounds_toArray, List.set_cons_zero, List.set_cons_succ])
        refine wpAnyH_ready (rs := [4]) (by kernel_rfl) (by simp) (AllReadyH.cons rfl ?_ (AllReadyH.nil))
        · intro K' hK'
          (try simp only [List.getElem_toArray, List.getElem_cons_zero, List.getElem_cons_succ])
          go_simp
          refine (HD.out _).mono ?_
          rintro e u4 ⟨rfl, hb⟩
          replace hH := hH.step hb
          replace h7 := h7.below hb h7.lt
          refine hK'.out _ _ hH.1.c1 (fun hSe => ?_)
          clear hK' K' hSd
          have hSd := hSe
          clear hSe hb
          (try simp only [List.getElem_toArray, List.getElem_cons_zero, List.getElem_cons_succ])
          (try simp only [Act.put, List.setIfInBounds_toArray, List.set_cons_zero, List.set_cons_succ])
          refine wpAnyH_take (i := 5) (oi := _) (v := .tuple #[.agg #[.bool dn, .string dx, .string dy], .int .i64 dk]) rfl (by kernel_rfl) (by kernel_rfl) (by kernel_rfl) (fun _ _ _ h => h) (Or.inl ⟨by rfl, ?_⟩) (by assumption) ?_
          · intro u' hSu
            (try simp only [List.getElem_toArray, List.getElem_cons_zero, List.getElem_cons_succ])
            go_simp
          (try simp only [List.getElem_toArray, List.getElem_cons_zero, List.getElem_cons_succ])
          (try simp only [Act.put, List.setIfInBounds_toArray, List.set_cons_zero, List.set_cons_succ])
          refine wpAnyH_take (i := 6) (oi := _) (v := .agg #[.bool dn, .string dx, .string dy]) rfl (by kernel_rfl) (by kernel_rfl) (by kernel_rfl) (fun _ _ _ h => h) (Or.inl ⟨by rfl, ?_⟩) (by assumption) ?_
          · intro u' hSu
            (try simp only [List.getElem_toArray, List.getElem_cons_zero, List.getElem_cons_succ])
            go_simp
          (try simp only [List.getElem_toArray, List.getElem_cons_zero, List.getElem_cons_succ])
          (try simp only [Act.put, List.setIfInBounds_toArray, List.set_cons_zero, List.set_cons_succ])
          refine wpAnyH_take (i := 7) (oi := _) (v := .int .i64 dk) rfl (by kernel_rfl) (by kernel_rfl) (by kernel_rfl) (fun _ _ _ h => h) (Or.inl ⟨by rfl, ?_⟩) (by assumption) ?_
          · intro u' hSu
            (try simp only [List.getElem_toArray, List.getElem_cons_zero, List.getElem_cons_succ])
            go_simp
          (try simp only [List.getElem_toArray, List.getElem_cons_zero, List.getElem_cons_succ])
          (try simp only [Act.put, List.setIfInBounds_toArray, List.set_cons_zero, List.set_cons_succ])
          obtain ⟨k0, k1, k2, f0, f1, f2⟩ := h7.facts
          refine wpAnyH_ready (rs := [9]) (by kernel_rfl) (by simp) (AllReadyH.cons rfl ?_ (AllReadyH.nil))
          · intro K' hK'
            (try simp only [List.getElem_toArray, List.getElem_cons_zero, List.getElem_cons_succ])
            go_simp
            have h8 := h7.put dn dx dy
            replace hH := ((hH.off B7 0 (.bool dn) l7).off B7 1 (.string dx) l7).off B7 2 (.string dy) l7
            clear k0 k1 k2 f0 f1 f2 h7
            generalize (((u4.setCell ⟨B7, 0, none⟩ (.bool dn)).setCell ⟨B7, 1, none⟩ (.string dx)).setCell ⟨B7, 2, none⟩ (.string dy)) = v9 at *
            refine hK'.out _ _ hH.1.c1 (fun hSe => ?_)
            clear hK' K' hSd
            have hSd := hSe
            clear hSe
            (try simp only [List.getElem_toArray, List.getElem_cons_zero, List.getElem_cons_succ])
            (try simp only [Act.put, List.setIfInBounds_toArray, List.set_cons_zero, List.set_cons_succ])
            refine wpAnyH_take (i := 10) (oi := _) (v := .int .i64 dk) rfl (by kernel_rfl) (by kernel_rfl) (by kernel_rfl) (fun _ _ _ h => h) (Or.inl ⟨by rfl, ?_⟩) (by assumption) ?_
            · intro u' hSu
              (try simp only [List.getElem_toArray, List.getElem_cons_zero, List.getElem_cons_succ])
              go_simp
            (try simp only [List.getElem_toArray, List.getElem_cons_zero, List.getElem_cons_succ])
            (try simp only [Act.put, List.setIfInBounds_toArray, List.set_cons_zero, List.set_cons_succ])
            refine wpAnyH_done (by kernel_rfl) ?_ _
            have c0 := hH.1.c0
            go_wp2_with fail
            refine (slClone_any b cb vars _ (HV.out.below hH.2.2) (by omega)).mono ?_
            rintro e w2 ⟨x, rfl, hr2, hb2⟩
            obtain ⟨d, cd, rfl, hi2⟩ := hr2.ints
            clear c0 hr2
            replace hH := hH.step hb2
            replace h8 := h8.below hb2 h8.lt
            clear hb2
            have hlt := hH.1.lt
            have hfill := fill_any a d ca cd sizes vars 79 #[.pointer (some ⟨w.heap.size, 0, none⟩), .pointer (some ⟨B7, 0, none⟩)] (enters_of Tryz.func79 (by kernel_rfl) rfl) NL w2 (HS.out.below hH.2.2) hi2 HFI.out HUP.out (by rw [hnl]; exact HLC.out) (fun k hk V hb => by rw [HNL.out k hk (by omega)]; exact HN.out V B7 k (by omega) (Nat.lt_of_lt_of_le hlt hb.size) ((hb.cell (p := ⟨w.heap.size, 1, none⟩) hlt).trans hH.1.c1) (h8.below hb h8.lt) (HF.out.below (hH.2.2.trans (hb.mono hH.2.2.size))))
            have HFILL := hid hfill
            clear hfill
            go_wp2_with fail
            refine HFILL.out.mono ?_
            rintro e w3 ⟨G, rfl, hG, hrow, hb3⟩
            have hl3 := hH.lt
            replace hH := hH.step hb3
            replace hi2 := hi2.below hb3
            obtain ⟨k0, k1, f0, f1⟩ := hH.2.1.facts
            obtain ⟨e1, e2, e3⟩ := hH.fin (cb := cd) (cc := l.length) hi2 hrow (by omega) (.slice d vars.length cd) (.slice (some ⟨G, 0, none⟩) l.length l.length) rfl (by rw [hnl])
            go_wp2
            refine bodyPost_ret (e1.result2 rfl _ rfl) rfl ?_
            exact ⟨e2, e3⟩
  · intro K' hK'
    (try simp only [List.getElem_toArray, List.getElem_cons_zero, List.getElem_cons_succ])
    go_simp
    have hb : Below u0.heap.size u0 (u0.alloc (FC false ⟨#[]⟩ ⟨#[]⟩)) := (Below.refl _ u0).alloc (Nat.le_refl _) _
    have h7 : Box (u0.alloc (FC false ⟨#[]⟩ ⟨#[]⟩)) u0.heap.size false ⟨#[]⟩ ⟨#[]⟩ := Box.new u0 _ _ _
    have l7 := hH.lt
    replace hH := hH.step hb
    refine hK'.out _ _ hH.1.c1 (fun hSe => ?_)
    clear hK' K' hSd
    have hSd := hSe
    clear hSe hb
    generalize (u0.alloc (FC false ⟨#[]⟩ ⟨#[]⟩)) = u1 at *
    generalize u0.heap.size = B7 at *
    (try simp only [List.getElem_toArray, List.getElem_cons_zero, List.getElem_cons_succ])
    (try simp only [Act.put, List.setIfInBounds_toArray, List.set_cons_zero, List.set_cons_succ])
    refine wpAnyH_ready (rs := [0]) (by kernel_rfl) (by simp) (AllReadyH.cons rfl ?_ (AllReadyH.nil))
    · intro K' hK'
      (try simp only [List.getElem_toArray, List.getElem_cons_zero])
      go_simp
      refine (HO.out _).mono ?_
      rintro e u2 ⟨rfl, hb⟩
      replace hH := hH.step hb
      replace h7 := h7.below hb h7.lt
      refine hK'.out _ _ hH.1.c1 (fun hSe => ?_)
      clear hK' K' hSd
      have hSd := hSe
      clear hSe hb
      (try simp only [List.getElem_toArray, List.getElem_cons_zero, List.getElem_cons_succ])
      (try simp only [Act.put, List.setIfInBounds_toArray, List.set_cons_zero, List.set_cons_succ])
      refine wpAnyH_ready (rs := [3]) (by kernel_rfl) (by simp) (AllReadyH.cons rfl ?_ (AllReadyH.nil))
      · intro K' hK'
        (try simp only [List.getElem_toArray, List.getElem_cons_zero, List.getElem_cons_succ])
        go_simp
        refine (HSU.out _ (HF.out.below hH.2.2)).mono ?_
        rintro e u3 ⟨rfl, hb⟩
        replace hH := hH.step hb
        replace h7 := h7.below hb h7.lt
        refine hK'.out _ _ hH.1.c1 (fun hSe => ?_)
        clear hK' K' hSd
        have hSd := hSe
        clear hSe hb
        (try simp only [List.getElem_toArray, List.getElem_cons_zero, List.getElem_cons_succ])
        (try simp only [Act.put, List.setIfInBounds_toArray, List.set_cons_zero, List.set_cons_succ])
        refine wpAnyH_ready (rs := [4]) (by kernel_rfl) (by simp) (AllReadyH.cons rfl ?_ (AllReadyH.nil))
        · intro K' hK'
          (try simp only [List.getElem_toArray, List.getElem_cons_zero, List.getElem_cons_succ])
          go_simp
          refine (HD.out _).mono ?_
          rintro e u4 ⟨rfl, hb⟩
          replace hH := hH.step hb
          replace h7 := h7.below hb h7.lt
          refine hK'.out _ _ hH.1.c1 (fun hSe => ?_)
          clear hK' K' hSd
          have hSd := hSe
          clear hSe hb
          (try simp only [List.getElem_toArray, List.getElem_cons_zero, List.getElem_cons_succ])
          (try simp only [Act.put, List.setIfInBounds_toArray, List.set_cons_zero, List.set_cons_succ])
          refine wpAnyH_take (i := 5) (oi := _) (v := .tuple #[.agg #[.bool dn, .string dx, .string dy], .int .i64 dk]) rfl (by kernel_rfl) (by kernel_rfl) (by kernel_rfl) (fun _ _ _ h => h) (Or.inl ⟨by rfl, ?_⟩) (by assumption) ?_
          · intro u' hSu
            (try simp only [List.getElem_toArray, List.getElem_cons_zero, List.getElem_cons_succ])
            go_simp
          (try simp only [List.getElem_toArray, List.getElem_cons_zero, List.getElem_cons_succ])
          (try simp only [Act.put, List.setIfInBounds_toArray, List.set_cons_zero, List.set_cons_succ])
          refine wpAnyH_take (i := 6) (oi := _) (v := .agg #[.bool dn, .string dx, .string dy]) rfl (by kernel_rfl) (by kernel_rfl) (by kernel_rfl) (fun _ _ _ h => h) (Or.inl ⟨by rfl, ?_⟩) (by assumption) ?_
          · intro u' hSu
            (try simp only [List.getElem_toArray, List.getElem_cons_zero, List.getElem_cons_succ])
            go_simp
          (try simp only [List.getElem_toArray, List.getElem_cons_zero, List.getElem_cons_succ])
          (try simp only [Act.put, List.setIfInBounds_toArray, List.set_cons_zero, List.set_cons_succ])
          refine wpAnyH_take (i := 7) (oi := _) (v := .int .i64 dk) rfl (by kernel_rfl) (by kernel_rfl) (by kernel_rfl) (fun _ _ _ h => h) (Or.inl ⟨by rfl, ?_⟩) (by assumption) ?_
          · intro u' hSu
            (try simp only [List.getElem_toArray, List.getElem_cons_zero, List.getElem_cons_succ])
            go_simp
          (try simp only [List.getElem_toArray, List.getElem_cons_zero, List.getElem_cons_succ])
          (try simp only [Act.put, List.setIfInBounds_toArray, List.set_cons_zero, List.set_cons_succ])
          obtain ⟨k0, k1, k2, f0, f1, f2⟩ := h7.facts
          refine wpAnyH_ready (rs := [9]) (by kernel_rfl) (by simp) (AllReadyH.cons rfl ?_ (AllReadyH.nil))
          · intro K' hK'
            (try simp only [List.getElem_toArray, List.getElem_cons_zero, List.getElem_cons_succ])
            go_simp
            have h8 := h7.put dn dx dy
            replace hH := ((hH.off B7 0 (.bool dn) l7).off B7 1 (.string dx) l7).off B7 2 (.string dy) l7
            clear k0 k1 k2 f0 f1 f2 h7
            generalize (((u4.setCell ⟨B7, 0, none⟩ (.bool dn)).setCell ⟨B7, 1, none⟩ (.string dx)).setCell ⟨B7, 2, none⟩ (.string dy)) = v9 at *
            refine hK'.out _ _ hH.1.c1 (fun hSe => ?_)
            clear hK' K' hSd
            have hSd := hSe
            clear hSe
            (try simp only [List.getElem_toArray, List.getElem_cons_zero, List.getElem_cons_succ])
            (try simp only [Act.put, List.setIfInBounds_toArray, List.set_cons_zero, List.set_cons_succ])
            refine wpAnyH_take (i := 10) (oi := _) (v := .int .i64 dk) rfl (by kernel_rfl) (by kernel_rfl) (by kernel_rfl) (fun _ _ _ h => h) (Or.inl ⟨by rfl, ?_⟩) (by assumption) ?_
            · intro u' hSu
              (try simp only [List.getElem_toArray, List.getElem_cons_zero, List.getElem_cons_succ])
              go_simp
            (try simp only [List.getElem_toArray, List.getElem_cons_zero, List.getElem_cons_succ])
            (try simp only [Act.put, List.setIfInBounds_toArray, List.set_cons_zero, List.set_cons_succ])
            refine wpAnyH_done (by kernel_rfl) ?_ _
            have c0 := hH.1.c0
            go_wp2_with fail
            refine (slClone_any b cb vars _ (HV.out.below hH.2.2) (by omega)).mono ?_
            rintro e w2 ⟨x, rfl, hr2, hb2⟩
            obtain ⟨d, cd, rfl, hi2⟩ := hr2.ints
            clear c0 hr2
            replace hH := hH.step hb2
            replace h8 := h8.below hb2 h8.lt
            clear hb2
            have hlt := hH.1.lt
            have hfill := fill_any a d ca cd sizes vars 79 #[.pointer (some ⟨w.heap.size, 0, none⟩), .pointer (some ⟨B7, 0, none⟩)] (enters_of Tryz.func79 (by kernel_rfl) rfl) NL w2 (HS.out.below hH.2.2) hi2 HFI.out HUP.out (by rw [hnl]; exact HLC.out) (fun k hk V hb => by rw [HNL.out k hk (by omega)]; exact HN.out V B7 k (by omega) (Nat.lt_of_lt_of_le hlt hb.size) ((hb.cell (p := ⟨w.heap.size, 1, none⟩) hlt).trans hH.1.c1) (h8.below hb h8.lt) (HF.out.below (hH.2.2.trans (hb.mono hH.2.2.size))))
            have HFILL := hid hfill
            clear hfill
            go_wp2_with fail
            refine HFILL.out.mono ?_
            rintro e w3 ⟨G, rfl, hG, hrow, hb3⟩
            have hl3 := hH.lt
            replace hH := hH.step hb3
            replace hi2 := hi2.below hb3
            obtain ⟨k0, k1, f0, f1⟩ := hH.2.1.facts
            obtain ⟨e1, e2, e3⟩ := hH.fin (cb := cd) (cc := l.length) hi2 hrow (by omega) (.slice d vars.length cd) (.slice (some ⟨G, 0, none⟩) l.length l.length) rfl (by rw [hnl])
            go_wp2
            refine bodyPost_ret (e1.result2 rfl _ rfl) rfl ?_
            exact ⟨e2, e3⟩
end Go.Proofs.YtknlhejhnopnaaaGreatDoor
