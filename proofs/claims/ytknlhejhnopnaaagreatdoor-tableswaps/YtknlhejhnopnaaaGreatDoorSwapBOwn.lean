/- The law's raw numbers: tableOf. -/
import Derived.Test.YtknlhejhnopnaaaGreatDoorRtHToSwapA
import Derived.Test.YtknlhejhnopnaaaGreatDoorRefSToSumA
import Derived.Test.YtknlhejhnopnaaaGreatDoorLawBOwn
namespace Go.Proofs.YtknlhejhnopnaaaGreatDoor
open Go.RowKit Go.Shelf

theorem wp_append_fr {w : World} {o : Oper} {a : Act} {K : Act → World → Prop} {Q : Exit → Act → World → Prop} (s x : Operand)
    (ho : o.op = .call { callee := .builtin .append, args := #[s, x], argTypes := #[23, 23] }) (base : Nat) (v : Value) (l : List Fr) (f : Fr) (hs : a.eval s = v) (hown : RwF w base v l) (g : Nat) (hx : a.eval x = .slice (some ⟨g, 0, none⟩) 1 1) (hg : Box w g f.1 f.2.1 f.2.2) (hlen : l.length + 1 ≤ 100000) (hbase : base ≤ w.heap.size)
    (h : ∀ v' w', RwF w' base v' (l ++ [f]) → w.grownBy w' v.ownBlock → K (a.put o.dst v') w') : o.wp Tryz.prog a w K Q := by
  obtain ⟨i0, hi0, hz0, hz1, hz2⟩ := info_parts Tryz.infoFrac
  refine wp_append_own _ s x 23 ho base 44 i0 (.agg #[.bool false, .string ⟨#[]⟩, .string ⟨#[]⟩]) 3 40 Tryz.underlying23 hi0 hz0 hz1 hz2 rfl (by decide) v l.length _ hs hown ⟨g, 0, none⟩ 1 1 [.bool f.1, .string f.2.1, .string f.2.2] hx rfl ?_ ?_ (by unfold maxLen; omega) (by omega) hbase ?_
  · intro j u hj
    match j, hj with
    | 0, hj => cases hj; exact hg.c0
    | 1, hj => cases hj; exact hg.c1
    | 2, hj => cases hj; exact hg.c2
    | j + 3, hj => simp at hj
  · intro u hu
    simp only [List.mem_cons, List.not_mem_nil, or_false] at hu
    rcases hu with rfl | rfl | rfl <;> rfl
  · intro v' w' h1 h2 _
    refine h v' w' ?_ h2
    rw [RwF, List.length_append, frC_snoc]
    exact h1
theorem mkRat_int (k : Int) : mkRat k 1 = (k : Rat) := by
  rw [Rat.mkRat_one]
theorem rOf_q (k : Int) (w : World) (hk : k.natAbs ≤ 255) : Calls Tryz.prog 86 #[.int .i64 k] w fun e w' => ∃ f : Fr, e = .returned (frV f) ∧ (∃ q, f = qF q ∧ qw q ≤ 2) ∧ Below w.heap.size w w' := by
  refine (rOfF_any k w (by omega) (by omega)).mono ?_
  rintro e w' ⟨rfl, hb⟩
  rw [mkRat_int]
  exact ⟨qF (k : Rat), rfl, ⟨_, rfl, int_size hk⟩, hb⟩
theorem Sml.snoc {s : Nat} {l : List Fr} {f : Fr} (h : Sml s l) (hf : ∃ q, f = qF q ∧ qw q ≤ s) : Sml s (l ++ [f]) := fun g hg => (List.mem_append.1 hg).elim (h g) fun e => by rw [List.mem_singleton.1 e]; exact hf


set_option maxRecDepth 100000 in
set_option maxHeartbeats 1000000 in
theorem tableOf_any (a b r : Option Addr) (ca cb cr : Nat) (sizes vars raw : List Int) (w : World) (hs : IntS w a sizes) (hv : IntS w b vars) (hr : IntS w r raw) (hS : Sz3 sizes) (hU : Up vars sizes.length) (hrr : ∀ x ∈ raw, -9223372036854775808 ≤ x ∧ x ≤ 9223372036854775807) (hn : raw.length ≤ 512) :
    Calls Tryz.prog 31 #[.slice a sizes.length ca, .slice b vars.length cb, .slice r raw.length cr] w fun e w' => ∃ (c : Option Addr) (cc : Nat) (l : List Fr), e = .returned (.agg #[.slice b vars.length cb, .slice c l.length cc]) ∧ FrS w' c l ∧ TL sizes vars l 2 ∧ Below w.heap.size w w' := by
  have HR := hid hr
  have HRR := hid hrr
  have HC := hid (fun (V : World) h1 h2 => rCount_in a b ca cb sizes vars V h1 h2 hS.fine hU)
  have HS := hid hs
  have HV := hid hv
  have hcn := cnt_few hS hU
  have HTL : Hid (∀ l : List Fr, l.length = cnt (toN sizes) (toN vars) → Sml 2 l → TL sizes vars l 2) := fun l h1 h2 => ⟨hU, h1, h2⟩
  generalize cnt (toN sizes) (toN vars) = N at *
  clear hr hrr hs hv
  have hR0 := TBox.at (w := w) rfl (.slice none 0 0) (.slice none 0 0)
  have hB0 := (Below.refl _ w).alloc (Nat.le_refl _) (TC (.slice none 0 0) (.slice none 0 0))
  have hF0 := FX.new (w.alloc (TC (.slice none 0 0) (.slice none 0 0))) (.slice b vars.length cb)
  go_enter Tryz.func31, Tryz.ntmps31
  go_wp2_with fail
  have hsz : (w.alloc (TC (.slice none 0 0) (.slice none 0 0))).heap.size = w.heap.size + 1 := by simp
  generalize (w.alloc (TC (.slice none 0 0) (.slice none 0 0))) = w0 at *
  rw [← hsz]
  have HSZ := hid hsz
  clear hsz
  generalize (w0.alloc (TC (.slice b vars.length cb) (.slice none 0 0))) = w1 at *
  have hB1 := hB0.trans (hF0.1.mono hB0.size)
  refine (HC.out _ (HS.out.below hB1) (HV.out.below hB1)).mono ?_
  rintro e w2 ⟨rfl, hb2⟩
  have HF0 := hid (hF0.step hb2)
  have HB0 := hid hB0
  have HR0 := hid hR0
  clear hF0 hb2 hB1 hB0 hR0
  go_wp2_with fail
  go_loopw [10] (fun kv wr => ∃ (k : Nat) (y : Value) (L : List Fr), k ≤ N ∧ kv = .int .i64 k ∧ Hid (L.length = k ∧ Sml 2 L) ∧ Hid (FX w0 wr (.slice b vars.length cb) y L)) (fun kv _ => N - (intOf kv).toNat)
  case atStart => exact ⟨0, _, [], Nat.zero_le _, rfl, ⟨rfl, fun f hf => by cases hf⟩, HF0⟩
  case round =>
    obtain ⟨k, y, L, hk, rfl, HL, HX⟩ := hrel
    clear HF0
    by_cases hlt : k < N
    · by_cases hr0 : raw.length = 0
      · have hd0 : decide ((0 : Int) < (raw.length : Int)) = false := decide_eq_false (by omega)
        have hd1 : decide (0 < raw.length) = false := decide_eq_false (by omega)
        have hd2 : (0 < raw.length) = False := eq_false (by omega)
        clear hr0
        have HOF := hid (fun V : World => rOf_q (k : Int) V (by omega))
        go_upto_region 9 with fail
        have hX : FX w0 wr.drew (.slice b vars.length cb) y L := ⟨HX.out.1.drew, HX.out.2.1, HX.out.2.2⟩
        refine wp_region_held_drew (S := fun _ => True) (by kernel_rfl) trivial (fun hSd => ?_)
        generalize wr.drew = u0 at *
        have cy := hX.2.1.c1
        (try simp only [List.getElem_toArray, List.getElem_cons_zero, List.getElem_cons_succ])
        (try simp only [Act.put, List.setIfInBounds_toArray, List.set_cons_zero, List.set_cons_succ])
        refine wpAnyH_take (i := 0) (oi := _) (v := .pointer (some ⟨w0.heap.size, 1, none⟩)) rfl (by kernel_rfl) (by kernel_rfl) (by kernel_rfl) (fun _ _ _ h => h) (Or.inl ⟨by rfl, ?_⟩) (by assumption) ?_
        · intro u' hSu
          (try simp only [List.getElem_toArray, List.getElem_cons_zero])
          go_simp
        (try simp only [List.getElem_toArray, List.getElem_cons_zero])
        (try simp only [Act.put, List.setIfInBounds_toArray, List.set_cons_zero, List.set_cons_succ])
        refine wpAnyH_take (i := 2) (oi := _) (v := .int .i64 (k : Nat)) rfl (by kernel_rfl) (by kernel_rfl) (by kernel_rfl) (fun _ _ _ h => h) (Or.inl ⟨by rfl, ?_⟩) (by assumption) ?_
        · intro u' hSu
          (try simp only [List.getElem_toArray, List.getElem_cons_zero, List.getElem_cons_succ])
          go_simp
        (try simp only [List.getElem_toArray, List.getElem_cons_zero, List.getElem_cons_succ])
        (try simp only [Act.put, List.setIfInBounds_toArray, List.set_cons_zero, List.set_cons_succ])
        refine wpAnyH_ready (rs := [1, 3]) (by kernel_rfl) (by simp) (AllReadyH.cons rfl ?_ (AllReadyH.cons rfl ?_ (AllReadyH.nil)))
        · intro K' hK'
          (try simp only [List.getElem_toArray, List.getElem_cons_zero, List.getElem_cons_succ])
          go_simp
          clear cy
          refine hK'.out _ _ trivial (fun _ => ?_)
          clear hK' K'
          (try simp only [List.getElem_toArray, List.getElem_cons_zero, List.getElem_cons_succ])
          (try simp only [Act.put, List.setIfInBounds_toArray, List.set_cons_zero, List.set_cons_succ])
          refine wpAnyH_ready (rs := [3]) (by kernel_rfl) (by simp) (AllReadyH.cons rfl ?_ (AllReadyH.nil))
          · intro K' hK'
            (try simp only [List.getElem_toArray, List.getElem_cons_zero, List.getElem_cons_succ])
            go_simp
            refine (HOF.out _).mono ?_
            rintro e u1 ⟨⟨qn, qx, qy⟩, rfl, hq, hb⟩
            have HQ := hid hq
            clear hq
            replace hX := hX.step hb
            refine hK'.out _ _ trivial (fun _ => ?_)
            clear hK' K'
            clear hb
            (try simp only [List.getElem_toArray, List.getElem_cons_zero, List.getElem_cons_succ])
            (try simp only [Act.put, List.setIfInBounds_toArray, List.set_cons_zero, List.set_cons_succ])
            refine wpAnyH_ready (rs := [4]) (by kernel_rfl) (by simp) (AllReadyH.cons rfl ?_ (AllReadyH.nil))
            · intro K' hK'
              (try simp only [List.getElem_toArray, List.getElem_cons_zero, List.getElem_cons_succ])
              go_simp
              have hNB := Box.new u1 qn qx qy
              have hb := (Below.refl _ u1).alloc (Nat.le_refl _) (FC qn qx qy)
              replace hX := hX.step hb
              refine hK'.out _ _ trivial (fun _ => ?_)
              clear hK' K'
              clear hb
              generalize (u1.alloc (FC qn qx qy)) = u2 at *
              generalize u1.heap.size = BN at *
              (try simp only [List.getElem_toArray, List.getElem_cons_zero, List.getElem_cons_succ])
              (try simp only [Act.put, List.setIfInBounds_toArray, List.set_cons_zero, List.set_cons_succ])
              refine wpAnyH_ready (rs := [5]) (by kernel_rfl) (by simp) (AllReadyH.cons rfl ?_ (AllReadyH.nil))
              · intro K' hK'
                rw [if_pos (by rfl)]
                refine wp_append_fr _ _ rfl (w0.heap.size + 1) y L (qn, qx, qy) rfl hX.2.2 BN rfl hNB (by have := HL.out.1; omega) hX.2.1.lt ?_
                intro v' w9 hr9 hg9
                obtain ⟨d9, n9, cd9, rfl⟩ := hr9.slv
                have hmid := hX.mid hg9
                have hm1 := hmid.c1
                have hmf : w9.frozen? ⟨w0.heap.size, 1, none⟩ = false := frozen_of_row _ _ 1 _ _ hmid
                have HPU := hid (hX.push hr9 hg9)
                clear hmid hr9 hg9 hX hNB
                refine hK'.out _ _ trivial (fun _ => ?_)
                clear hK' K'
                (try simp only [List.getElem_toArray, List.getElem_cons_zero, List.getElem_cons_succ])
                (try simp only [Act.put, List.setIfInBounds_toArray, List.set_cons_zero, List.set_cons_succ])
                refine wpAnyH_take (i := 6) (oi := _) (v := .pointer (some ⟨w0.heap.size, 1, none⟩)) rfl (by kernel_rfl) (by kernel_rfl) (by kernel_rfl) (fun _ _ _ h => h) (Or.inl ⟨by rfl, ?_⟩) (by assumption) ?_
                · intro u' hSu
                  (try simp only [List.getElem_toArray, List.getElem_cons_zero, List.getElem_cons_succ])
                  go_simp
                (try simp only [List.getElem_toArray, List.getElem_cons_zero, List.getElem_cons_succ])
                (try simp only [Act.put, List.setIfInBounds_toArray, List.set_cons_zero, List.set_cons_succ])
                refine wpAnyH_ready (rs := [7]) (by kernel_rfl) (by simp) (AllReadyH.cons rfl ?_ (AllReadyH.nil))
                · intro K' hK'
                  (try simp only [List.getElem_toArray, List.getElem_cons_zero, List.getElem_cons_succ])
                  go_simp
                  refine hK'.out _ _ trivial (fun _ => ?_)
                  clear hK' K'
                  generalize (w9.setCell ⟨w0.heap.size, 1, none⟩ (.slice d9 n9 cd9)) = w10 at *
                  (try simp only [List.getElem_toArray, List.getElem_cons_zero, List.getElem_cons_succ])
                  (try simp only [Act.put, List.setIfInBounds_toArray, List.set_cons_zero, List.set_cons_succ])
                  refine wpAnyH_done (by kernel_rfl) ?_ _
                  go_wp2
                  go_roundw
                  case rel => exact ⟨k + 1, _, _, by omega, by go_num, ⟨by rw [List.length_append, HL.out.1]; rfl, HL.out.2.snoc HQ.out⟩, HPU⟩
                  case measure => simp [intOf]; omega
        · intro K' hK'
          (try simp only [List.getElem_toArray, List.getElem_cons_zero, List.getElem_cons_succ])
          go_simp
          refine (HOF.out _).mono ?_
          rintro e u1 ⟨⟨qn, qx, qy⟩, rfl, hq, hb⟩
          have HQ := hid hq
          clear hq
          replace hX := hX.step hb
          have cy' := hX.2.1.c1
          clear cy
          have cy := cy'
          clear cy'
          refine hK'.out _ _ trivial (fun _ => ?_)
          clear hK' K'
          clear hb
          (try simp only [List.getElem_toArray, List.getElem_cons_zero, List.getElem_cons_succ])
          (try simp only [Act.put, List.setIfInBounds_toArray, List.set_cons_zero, List.set_cons_succ])
          refine wpAnyH_ready (rs := [1, 4]) (by kernel_rfl) (by simp) (AllReadyH.cons rfl ?_ (AllReadyH.cons rfl ?_ (AllReadyH.nil)))
          · intro K' hK'
            (try simp only [List.getElem_toArray, List.getElem_cons_zero, List.getElem_cons_succ])
            go_simp
            clear cy
            refine hK'.out _ _ trivial (fun _ => ?_)
            clear hK' K'
            (try simp only [List.getElem_toArray, List.getElem_cons_zero, List.getElem_cons_succ])
            (try simp only [Act.put, List.setIfInBounds_toArray, List.set_cons_zero, List.set_cons_succ])
            refine wpAnyH_ready (rs := [4]) (by kernel_rfl) (by simp) (AllReadyH.cons rfl ?_ (AllReadyH.nil))
            · intro K' hK'
              (try simp only [List.getElem_toArray, List.getElem_cons_zero, List.getElem_cons_succ])
              go_simp
              have hNB := Box.new u1 qn qx qy
              have hb := (Below.refl _ u1).alloc (Nat.le_refl _) (FC qn qx qy)
              replace hX := hX.step hb
              refine hK'.out _ _ trivial (fun _ => ?_)
              clear hK' K'
              clear hb
              generalize (u1.alloc (FC qn qx qy)) = u2 at *
              generalize u1.heap.size = BN at *
              (try simp only [List.getElem_toArray, List.getElem_cons_zero, List.getElem_cons_succ])
              (try simp only [Act.put, List.setIfInBounds_toArray, List.set_cons_zero, List.set_cons_succ])
              refine wpAnyH_ready (rs := [5]) (by kernel_rfl) (by simp) (AllReadyH.cons rfl ?_ (AllReadyH.nil))
              · intro K' hK'
                rw [if_pos (by rfl)]
                refine wp_append_fr _ _ rfl (w0.heap.size + 1) y L (qn, qx, qy) rfl hX.2.2 BN rfl hNB (by have := HL.out.1; omega) hX.2.1.lt ?_
                intro v' w9 hr9 hg9
                obtain ⟨d9, n9, cd9, rfl⟩ := hr9.slv
                have hmid := hX.mid hg9
                have hm1 := hmid.c1
                have hmf : w9.frozen? ⟨w0.heap.size, 1, none⟩ = false := frozen_of_row _ _ 1 _ _ hmid
                have HPU := hid (hX.push hr9 hg9)
                clear hmid hr9 hg9 hX hNB
                refine hK'.out _ _ trivial (fun _ => ?_)
                clear hK' K'
                (try simp only [List.getElem_toArray, List.getElem_cons_zero, List.getElem_cons_succ])
                (try simp only [Act.put, List.setIfInBounds_toArray, List.set_cons_zero, List.set_cons_succ])
                refine wpAnyH_take (i := 6) (oi := _) (v := .pointer (some ⟨w0.heap.size, 1, none⟩)) rfl (by kernel_rfl) (by kernel_rfl) (by kernel_rfl) (fun _ _ _ h => h) (Or.inl ⟨by rfl, ?_⟩) (by assumption) ?_
                · intro u' hSu
                  (try simp only [List.getElem_toArray, List.getElem_cons_zero, List.getElem_cons_succ])
                  go_simp
                (try simp only [List.getElem_toArray, List.getElem_cons_zero, List.getElem_cons_succ])
                (try simp only [Act.put, List.setIfInBounds_toArray, List.set_cons_zero, List.set_cons_succ])
                refine wpAnyH_ready (rs := [7]) (by kernel_rfl) (by simp) (AllReadyH.cons rfl ?_ (AllReadyH.nil))
                · intro K' hK'
                  (try simp only [List.getElem_toArray, List.getElem_cons_zero, List.getElem_cons_succ])
                  go_simp
                  refine hK'.out _ _ trivial (fun _ => ?_)
                  clear hK' K'
                  generalize (w9.setCell ⟨w0.heap.size, 1, none⟩ (.slice d9 n9 cd9)) = w10 at *
                  (try simp only [List.getElem_toArray, List.getElem_cons_zero, List.getElem_cons_succ])
                  (try simp only [Act.put, List.setIfInBounds_toArray, List.set_cons_zero, List.set_cons_succ])
                  refine wpAnyH_done (by kernel_rfl) ?_ _
                  go_wp2
                  go_roundw
                  case rel => exact ⟨k + 1, _, _, by omega, by go_num, ⟨by rw [List.length_append, HL.out.1]; rfl, HL.out.2.snoc HQ.out⟩, HPU⟩
                  case measure => simp [intOf]; omega
          · intro K' hK'
            (try simp only [List.getElem_toArray, List.getElem_cons_zero, List.getElem_cons_succ])
            go_simp
            have hNB := Box.new u1 qn qx qy
            have hb := (Below.refl _ u1).alloc (Nat.le_refl _) (FC qn qx qy)
            replace hX := hX.step hb
            have cy' := hX.2.1.c1
            clear cy
            have cy := cy'
            clear cy'
            refine hK'.out _ _ trivial (fun _ => ?_)
            clear hK' K'
            clear hb
            generalize (u1.alloc (FC qn qx qy)) = u2 at *
            generalize u1.heap.size = BN at *
            (try simp only [List.getElem_toArray, List.getElem_cons_zero, List.getElem_cons_succ])
            (try simp only [Act.put, List.setIfInBounds_toArray, List.set_cons_zero, List.set_cons_succ])
            refine wpAnyH_ready (rs := [1]) (by kernel_rfl) (by simp) (AllReadyH.cons rfl ?_ (AllReadyH.nil))
            · intro K' hK'
              (try simp only [List.getElem_toArray, List.getElem_cons_zero, List.getElem_cons_succ])
              go_simp
              clear cy
              refine hK'.out _ _ trivial (fun _ => ?_)
              clear hK' K'
              (try simp only [List.getElem_toArray, List.getElem_cons_zero, List.getElem_cons_succ])
              (try simp only [Act.put, List.setIfInBounds_toArray, List.set_cons_zero, List.set_cons_succ])
              refine wpAnyH_ready (rs := [5]) (by kernel_rfl) (by simp) (AllReadyH.cons rfl ?_ (AllReadyH.nil))
              · intro K' hK'
                rw [if_pos (by rfl)]
                refine wp_append_fr _ _ rfl (w0.heap.size + 1) y L (qn, qx, qy) rfl hX.2.2 BN rfl hNB (by have := HL.out.1; omega) hX.2.1.lt ?_
                intro v' w9 hr9 hg9
                obtain ⟨d9, n9, cd9, rfl⟩ := hr9.slv
                have hmid := hX.mid hg9
                have hm1 := hmid.c1
                have hmf : w9.frozen? ⟨w0.heap.size, 1, none⟩ = false := frozen_of_row _ _ 1 _ _ hmid
                have HPU := hid (hX.push hr9 hg9)
                clear hmid hr9 hg9 hX hNB
                refine hK'.out _ _ trivial (fun _ => ?_)
                clear hK' K'
                (try simp only [List.getElem_toArray, List.getElem_cons_zero, List.getElem_cons_succ])
                (try simp only [Act.put, List.setIfInBounds_toArray, List.set_cons_zero, List.set_cons_succ])
                refine wpAnyH_take (i := 6) (oi := _) (v := .pointer (some ⟨w0.heap.size, 1, none⟩)) rfl (by kernel_rfl) (by kernel_rfl) (by kernel_rfl) (fun _ _ _ h => h) (Or.inl ⟨by rfl, ?_⟩) (by assumption) ?_
                · intro u' hSu
                  (try simp only [List.getElem_toArray, List.getElem_cons_zero, List.getElem_cons_succ])
                  go_simp
                (try simp only [List.getElem_toArray, List.getElem_cons_zero, List.getElem_cons_succ])
                (try simp only [Act.put, List.setIfInBounds_toArray, List.set_cons_zero, List.set_cons_succ])
                refine wpAnyH_ready (rs := [7]) (by kernel_rfl) (by simp) (AllReadyH.cons rfl ?_ (AllReadyH.nil))
                · intro K' hK'
                  (try simp only [List.getElem_toArray, List.getElem_cons_zero, List.getElem_cons_succ])
                  go_simp
                  refine hK'.out _ _ trivial (fun _ => ?_)
                  clear hK' K'
                  generalize (w9.setCell ⟨w0.heap.size, 1, none⟩ (.slice d9 n9 cd9)) = w10 at *
                  (try simp only [List.getElem_toArray, List.getElem_cons_zero, List.getElem_cons_succ])
                  (try simp only [Act.put, List.setIfInBounds_toArray, List.set_cons_zero, List.set_cons_succ])
                  refine wpAnyH_done (by kernel_rfl) ?_ _
                  go_wp2
                  go_roundw
                  case rel => exact ⟨k + 1, _, _, by omega, by go_num, ⟨by rw [List.length_append, HL.out.1]; rfl, HL.out.2.snoc HQ.out⟩, HPU⟩
                  case measure => simp [intOf]; omega

      · have hr1 : 0 < raw.length := by omega
        have hml := Nat.mod_lt k hr1
        have HBW : Hid (Below w.heap.size w wr) := HB0.out.trans (HX.out.1.mono HB0.out.size)
        obtain ⟨g, o, rfl, hg, c0⟩ := (HR.out.below HBW.out) (k % raw.length) hml
        have hrr := HRR.out raw[k % raw.length] (List.getElem_mem hml)
        have hmod : (k : Int) % (raw.length : Int) = ((k % raw.length : Nat) : Int) := (Int.natCast_emod _ _).symm
        generalize raw[k % raw.length] = u at *
        generalize k % raw.length = m at *
        have HP := hid (fun V : World => rPick_any u 50 V hrr.1 hrr.2 (by omega) (by omega))
        have hp := pickN_lt u (n := 50) (by omega)
        generalize pickN u 50 = z at *
        clear hrr
        go_wp2_with fail
        refine (HP.out _).mono ?_
        rintro e w4 ⟨rfl, hb4⟩
        replace HX := hid (HX.out.step hb4)
        clear hb4 c0
        have hzz : IntKind.i64.wrap ((z : Int) - 9) = (z : Int) - 9 := by rw [IntKind.wrap_i64]; omega
        have HOF := hid (fun V : World => rOf_q ((z : Int) - 9) V (by omega))
        go_upto_region 9 with fail
        have hX : FX w0 w4.drew (.slice b vars.length cb) y L := ⟨HX.out.1.drew, HX.out.2.1, HX.out.2.2⟩
        refine wp_region_held_drew (S := fun _ => True) (by kernel_rfl) trivial (fun hSd => ?_)
        generalize w4.drew = u0 at *
        have cy := hX.2.1.c1
        (try simp only [List.getElem_toArray, List.getElem_cons_zero, List.getElem_cons_succ])
        (try simp only [Act.put, List.setIfInBounds_toArray, List.set_cons_zero, List.set_cons_succ])
        refine wpAnyH_take (i := 0) (oi := _) (v := .pointer (some ⟨w0.heap.size, 1, none⟩)) rfl (by kernel_rfl) (by kernel_rfl) (by kernel_rfl) (fun _ _ _ h => h) (Or.inl ⟨by rfl, ?_⟩) (by assumption) ?_
        · intro u' hSu
          (try simp only [List.getElem_toArray, List.getElem_cons_zero])
          go_simp
        (try simp only [List.getElem_toArray, List.getElem_cons_zero])
        (try simp only [Act.put, List.setIfInBounds_toArray, List.set_cons_zero, List.set_cons_succ])
        refine wpAnyH_take (i := 2) (oi := _) (v := .int .i64 ((z : Int) - 9)) rfl (by kernel_rfl) (by kernel_rfl) (by kernel_rfl) (fun _ _ _ h => h) (Or.inl ⟨by rfl, ?_⟩) (by assumption) ?_
        · intro u' hSu
          (try simp only [List.getElem_toArray, List.getElem_cons_zero, List.getElem_cons_succ])
          go_simp
        (try simp only [List.getElem_toArray, List.getElem_cons_zero, List.getElem_cons_succ])
        (try simp only [Act.put, List.setIfInBounds_toArray, List.set_cons_zero, List.set_cons_succ])
        refine wpAnyH_ready (rs := [1, 3]) (by kernel_rfl) (by simp) (AllReadyH.cons rfl ?_ (AllReadyH.cons rfl ?_ (AllReadyH.nil)))
        · intro K' hK'
          (try simp only [List.getElem_toArray, List.getElem_cons_zero, List.getElem_cons_succ])
          go_simp
          clear cy
          refine hK'.out _ _ trivial (fun _ => ?_)
          clear hK' K'
          (try simp only [List.getElem_toArray, List.getElem_cons_zero, List.getElem_cons_succ])
          (try simp only [Act.put, List.setIfInBounds_toArray, List.set_cons_zero, List.set_cons_succ])
          refine wpAnyH_ready (rs := [3]) (by kernel_rfl) (by simp) (AllReadyH.cons rfl ?_ (AllReadyH.nil))
          · intro K' hK'
            (try simp only [List.getElem_toArray, List.getElem_cons_zero, List.getElem_cons_succ])
            go_simp
            refine (HOF.out _).mono ?_
            rintro e u1 ⟨⟨qn, qx, qy⟩, rfl, hq, hb⟩
            have HQ := hid hq
            clear hq
            replace hX := hX.step hb
            refine hK'.out _ _ trivial (fun _ => ?_)
            clear hK' K'
            clear hb
            (try simp only [List.getElem_toArray, List.getElem_cons_zero, List.getElem_cons_succ])
            (try simp only [Act.put, List.setIfInBounds_toArray, List.set_cons_zero, List.set_cons_succ])
            refine wpAnyH_ready (rs := [4]) (by kernel_rfl) (by simp) (AllReadyH.cons rfl ?_ (AllReadyH.nil))
            · intro K' hK'
              (try simp only [List.getElem_toArray, List.getElem_cons_zero, List.getElem_cons_succ])
              go_simp
              have hNB := Box.new u1 qn qx qy
              have hb := (Below.refl _ u1).alloc (Nat.le_refl _) (FC qn qx qy)
              replace hX := hX.step hb
              refine hK'.out _ _ trivial (fun _ => ?_)
              clear hK' K'
              clear hb
              generalize (u1.alloc (FC qn qx qy)) = u2 at *
              generalize u1.heap.size = BN at *
              (try simp only [List.getElem_toArray, List.getElem_cons_zero, List.getElem_cons_succ])
              (try simp only [Act.put, List.setIfInBounds_toArray, List.set_cons_zero, List.set_cons_succ])
              refine wpAnyH_ready (rs := [5]) (by kernel_rfl) (by simp) (AllReadyH.cons rfl ?_ (AllReadyH.nil))
              · intro K' hK'
                rw [if_pos (by rfl)]
                refine wp_append_fr _ _ rfl (w0.heap.size + 1) y L (qn, qx, qy) rfl hX.2.2 BN rfl hNB (by have := HL.out.1; omega) hX.2.1.lt ?_
                intro v' w9 hr9 hg9
                obtain ⟨d9, n9, cd9, rfl⟩ := hr9.slv
                have hmid := hX.mid hg9
                have hm1 := hmid.c1
                have hmf : w9.frozen? ⟨w0.heap.size, 1, none⟩ = false := frozen_of_row _ _ 1 _ _ hmid
                have HPU := hid (hX.push hr9 hg9)
                clear hmid hr9 hg9 hX hNB
                refine hK'.out _ _ trivial (fun _ => ?_)
                clear hK' K'
                (try simp only [List.getElem_toArray, List.getElem_cons_zero, List.getElem_cons_succ])
                (try simp only [Act.put, List.setIfInBounds_toArray, List.set_cons_zero, List.set_cons_succ])
                refine wpAnyH_take (i := 6) (oi := _) (v := .pointer (some ⟨w0.heap.size, 1, none⟩)) rfl (by kernel_rfl) (by kernel_rfl) (by kernel_rfl) (fun _ _ _ h => h) (Or.inl ⟨by rfl, ?_⟩) (by assumption) ?_
                · intro u' hSu
                  (try simp only [List.getElem_toArray, List.getElem_cons_zero, List.getElem_cons_succ])
                  go_simp
                (try simp only [List.getElem_toArray, List.getElem_cons_zero, List.getElem_cons_succ])
                (try simp only [Act.put, List.setIfInBounds_toArray, List.set_cons_zero, List.set_cons_succ])
                refine wpAnyH_ready (rs := [7]) (by kernel_rfl) (by simp) (AllReadyH.cons rfl ?_ (AllReadyH.nil))
                · intro K' hK'
                  (try simp only [List.getElem_toArray, List.getElem_cons_zero, List.getElem_cons_succ])
                  go_simp
                  refine hK'.out _ _ trivial (fun _ => ?_)
                  clear hK' K'
                  generalize (w9.setCell ⟨w0.heap.size, 1, none⟩ (.slice d9 n9 cd9)) = w10 at *
                  (try simp only [List.getElem_toArray, List.getElem_cons_zero, List.getElem_cons_succ])
                  (try simp only [Act.put, List.setIfInBounds_toArray, List.set_cons_zero, List.set_cons_succ])
                  refine wpAnyH_done (by kernel_rfl) ?_ _
                  go_wp2
                  go_roundw
                  case rel => exact ⟨k + 1, _, _, by omega, by go_num, ⟨by rw [List.length_append, HL.out.1]; rfl, HL.out.2.snoc HQ.out⟩, HPU⟩
                  case measure => simp [intOf]; omega
        · intro K' hK'
          (try simp only [List.getElem_toArray, List.getElem_cons_zero, List.getElem_cons_succ])
          go_simp
          refine (HOF.out _).mono ?_
          rintro e u1 ⟨⟨qn, qx, qy⟩, rfl, hq, hb⟩
          have HQ := hid hq
          clear hq
          replace hX := hX.step hb
          have cy' := hX.2.1.c1
          clear cy
          have cy := cy'
          clear cy'
          refine hK'.out _ _ trivial (fun _ => ?_)
          clear hK' K'
          clear hb
          (try simp only [List.getElem_toArray, List.getElem_cons_zero, List.getElem_cons_succ])
          (try simp only [Act.put, List.setIfInBounds_toArray, List.set_cons_zero, List.set_cons_succ])
          refine wpAnyH_ready (rs := [1, 4]) (by kernel_rfl) (by simp) (AllReadyH.cons rfl ?_ (AllReadyH.cons rfl ?_ (AllReadyH.nil)))
          · intro K' hK'
            (try simp only [List.getElem_toArray, List.getElem_cons_zero, List.getElem_cons_succ])
            go_simp
            clear cy
            refine hK'.out _ _ trivial (fun _ => ?_)
            clear hK' K'
            (try simp only [List.getElem_toArray, List.getElem_cons_zero, List.getElem_cons_succ])
            (try simp only [Act.put, List.setIfInBounds_toArray, List.set_cons_zero, List.set_cons_succ])
            refine wpAnyH_ready (rs := [4]) (by kernel_rfl) (by simp) (AllReadyH.cons rfl ?_ (AllReadyH.nil))
            · intro K' hK'
              (try simp only [List.getElem_toArray, List.getElem_cons_zero, List.getElem_cons_succ])
              go_simp
              have hNB := Box.new u1 qn qx qy
              have hb := (Below.refl _ u1).alloc (Nat.le_refl _) (FC qn qx qy)
              replace hX := hX.step hb
              refine hK'.out _ _ trivial (fun _ => ?_)
              clear hK' K'
              clear hb
              generalize (u1.alloc (FC qn qx qy)) = u2 at *
              generalize u1.heap.size = BN at *
              (try simp only [List.getElem_toArray, List.getElem_cons_zero, List.getElem_cons_succ])
              (try simp only [Act.put, List.setIfInBounds_toArray, List.set_cons_zero, List.set_cons_succ])
              refine wpAnyH_ready (rs := [5]) (by kernel_rfl) (by simp) (AllReadyH.cons rfl ?_ (AllReadyH.nil))
              · intro K' hK'
                rw [if_pos (by rfl)]
                refine wp_append_fr _ _ rfl (w0.heap.size + 1) y L (qn, qx, qy) rfl hX.2.2 BN rfl hNB (by have := HL.out.1; omega) hX.2.1.lt ?_
                intro v' w9 hr9 hg9
                obtain ⟨d9, n9, cd9, rfl⟩ := hr9.slv
                have hmid := hX.mid hg9
                have hm1 := hmid.c1
                have hmf : w9.frozen? ⟨w0.heap.size, 1, none⟩ = false := frozen_of_row _ _ 1 _ _ hmid
                have HPU := hid (hX.push hr9 hg9)
                clear hmid hr9 hg9 hX hNB
                refine hK'.out _ _ trivial (fun _ => ?_)
                clear hK' K'
                (try simp only [List.getElem_toArray, List.getElem_cons_zero, List.getElem_cons_succ])
                (try simp only [Act.put, List.setIfInBounds_toArray, List.set_cons_zero, List.set_cons_succ])
                refine wpAnyH_take (i := 6) (oi := _) (v := .pointer (some ⟨w0.heap.size, 1, none⟩)) rfl (by kernel_rfl) (by kernel_rfl) (by kernel_rfl) (fun _ _ _ h => h) (Or.inl ⟨by rfl, ?_⟩) (by assumption) ?_
                · intro u' hSu
                  (try simp only [List.getElem_toArray, List.getElem_cons_zero, List.getElem_cons_succ])
                  go_simp
                (try simp only [List.getElem_toArray, List.getElem_cons_zero, List.getElem_cons_succ])
                (try simp only [Act.put, List.setIfInBounds_toArray, List.set_cons_zero, List.set_cons_succ])
                refine wpAnyH_ready (rs := [7]) (by kernel_rfl) (by simp) (AllReadyH.cons rfl ?_ (AllReadyH.nil))
                · intro K' hK'
                  (try simp only [List.getElem_toArray, List.getElem_cons_zero, List.getElem_cons_succ])
                  go_simp
                  refine hK'.out _ _ trivial (fun _ => ?_)
                  clear hK' K'
                  generalize (w9.setCell ⟨w0.heap.size, 1, none⟩ (.slice d9 n9 cd9)) = w10 at *
                  (try simp only [List.getElem_toArray, List.getElem_cons_zero, List.getElem_cons_succ])
                  (try simp only [Act.put, List.setIfInBounds_toArray, List.set_cons_zero, List.set_cons_succ])
                  refine wpAnyH_done (by kernel_rfl) ?_ _
                  go_wp2
                  go_roundw
                  case rel => exact ⟨k + 1, _, _, by omega, by go_num, ⟨by rw [List.length_append, HL.out.1]; rfl, HL.out.2.snoc HQ.out⟩, HPU⟩
                  case measure => simp [intOf]; omega
          · intro K' hK'
            (try simp only [List.getElem_toArray, List.getElem_cons_zero, List.getElem_cons_succ])
            go_simp
            have hNB := Box.new u1 qn qx qy
            have hb := (Below.refl _ u1).alloc (Nat.le_refl _) (FC qn qx qy)
            replace hX := hX.step hb
            have cy' := hX.2.1.c1
            clear cy
            have cy := cy'
            clear cy'
            refine hK'.out _ _ trivial (fun _ => ?_)
            clear hK' K'
            clear hb
            generalize (u1.alloc (FC qn qx qy)) = u2 at *
            generalize u1.heap.size = BN at *
            (try simp only [List.getElem_toArray, List.getElem_cons_zero, List.getElem_cons_succ])
            (try simp only [Act.put, List.setIfInBounds_toArray, List.set_cons_zero, List.set_cons_succ])
            refine wpAnyH_ready (rs := [1]) (by kernel_rfl) (by simp) (AllReadyH.cons rfl ?_ (AllReadyH.nil))
            · intro K' hK'
              (try simp only [List.getElem_toArray, List.getElem_cons_zero, List.getElem_cons_succ])
              go_simp
              clear cy
              refine hK'.out _ _ trivial (fun _ => ?_)
              clear hK' K'
              (try simp only [List.getElem_toArray, List.getElem_cons_zero, List.getElem_cons_succ])
              (try simp only [Act.put, List.setIfInBounds_toArray, List.set_cons_zero, List.set_cons_succ])
              refine wpAnyH_ready (rs := [5]) (by kernel_rfl) (by simp) (AllReadyH.cons rfl ?_ (AllReadyH.nil))
              · intro K' hK'
                rw [if_pos (by rfl)]
                refine wp_append_fr _ _ rfl (w0.heap.size + 1) y L (qn, qx, qy) rfl hX.2.2 BN rfl hNB (by have := HL.out.1; omega) hX.2.1.lt ?_
                intro v' w9 hr9 hg9
                obtain ⟨d9, n9, cd9, rfl⟩ := hr9.slv
                have hmid := hX.mid hg9
                have hm1 := hmid.c1
                have hmf : w9.frozen? ⟨w0.heap.size, 1, none⟩ = false := frozen_of_row _ _ 1 _ _ hmid
                have HPU := hid (hX.push hr9 hg9)
                clear hmid hr9 hg9 hX hNB
                refine hK'.out _ _ trivial (fun _ => ?_)
                clear hK' K'
                (try simp only [List.getElem_toArray, List.getElem_cons_zero, List.getElem_cons_succ])
                (try simp only [Act.put, List.setIfInBounds_toArray, List.set_cons_zero, List.set_cons_succ])
                refine wpAnyH_take (i := 6) (oi := _) (v := .pointer (some ⟨w0.heap.size, 1, none⟩)) rfl (by kernel_rfl) (by kernel_rfl) (by kernel_rfl) (fun _ _ _ h => h) (Or.inl ⟨by rfl, ?_⟩) (by assumption) ?_
                · intro u' hSu
                  (try simp only [List.getElem_toArray, List.getElem_cons_zero, List.getElem_cons_succ])
                  go_simp
                (try simp only [List.getElem_toArray, List.getElem_cons_zero, List.getElem_cons_succ])
                (try simp only [Act.put, List.setIfInBounds_toArray, List.set_cons_zero, List.set_cons_succ])
                refine wpAnyH_ready (rs := [7]) (by kernel_rfl) (by simp) (AllReadyH.cons rfl ?_ (AllReadyH.nil))
                · intro K' hK'
                  (try simp only [List.getElem_toArray, List.getElem_cons_zero, List.getElem_cons_succ])
                  go_simp
                  refine hK'.out _ _ trivial (fun _ => ?_)
                  clear hK' K'
                  generalize (w9.setCell ⟨w0.heap.size, 1, none⟩ (.slice d9 n9 cd9)) = w10 at *
                  (try simp only [List.getElem_toArray, List.getElem_cons_zero, List.getElem_cons_succ])
                  (try simp only [Act.put, List.setIfInBounds_toArray, List.set_cons_zero, List.set_cons_succ])
                  refine wpAnyH_done (by kernel_rfl) ?_ _
                  go_wp2
                  go_roundw
                  case rel => exact ⟨k + 1, _, _, by omega, by go_num, ⟨by rw [List.length_append, HL.out.1]; rfl, HL.out.2.snoc HQ.out⟩, HPU⟩
                  case measure => simp [intOf]; omega

    · obtain rfl : k = N := by omega
      have hX := HX.out
      obtain ⟨c, cc, hce, hf⟩ := hX.2.2.fr
      subst hce
      have c0 := hX.2.1.c0
      have c1 := hX.2.1.c1
      have hRR := HR0.out.below hX.1 HR0.out.lt
      obtain ⟨k0, k1, f0, f1⟩ := hRR.facts
      go_wp2
      refine bodyPost_ret (results_cell_row rfl _ _ w.heap.size _ _ _ _ rfl (hRR.put _ _) Tryz.underlying25 rfl (by kernel_rfl)) rfl ?_
      exact ⟨c, cc, L, rfl, FrS.putT (show FrS _ c L from hf) hRR (slv _ _ _) (slv _ _ _) (slv _ _ _) _, HTL.out L HL.out.1 HL.out.2, below_put2 (HB0.out.trans (hX.1.mono HB0.out.size)) (by omega) _ _⟩
end Go.Proofs.YtknlhejhnopnaaaGreatDoor
