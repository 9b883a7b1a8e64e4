/- The law TableExact answers true: package table answers as the document's answer does. -/
import Derived.Test.YtknlhejhnopnaaaGreatDoorLawAToLawB
import Derived.Laws.EntriesVeiled
namespace Go.Proofs.YtknlhejhnopnaaaGreatDoor
open Go.RowKit Go.Shelf

/-- What the law holds: two tables. -/
def DH (w V : World) (x y z t : Value) : Prop := TBox V w.heap.size x y ∧ TBox V (w.heap.size + 1) z t ∧ Below w.heap.size w V
theorem DH.step {w V V' : World} {x y z t : Value} (h : DH w V x y z t) (hb : Below V.heap.size V V') : DH w V' x y z t := ⟨h.1.below hb h.1.lt, h.2.1.below hb h.2.1.lt, h.2.2.trans (hb.mono h.2.2.size)⟩
theorem DH.new (w : World) (x y z t : Value) : DH w ((w.alloc (TC x y)).alloc (TC z t)) x y z t := ⟨(TBox.at rfl _ _).alloc _, TBox.at (by simp) _ _, ((Below.refl _ w).alloc (Nat.le_refl _) _).alloc (by simp) _⟩
theorem DH.put {w V : World} {x y z t : Value} (h : DH w V x y z t) (B : Nat) (u v : Value) (hB : w.heap.size + 1 < B) : DH w ((V.setCell ⟨B, 0, none⟩ u).setCell ⟨B, 1, none⟩ v) x y z t := ⟨(h.1.off B 0 u (by omega)).off B 1 v (by omega), (h.2.1.off B 0 u (by omega)).off B 1 v (by omega), below_put2 h.2.2 (by omega) _ _⟩

theorem whereL_len (sizes vars : List Int) (k : Int) (h : vars.length ≤ 4096) : (whereL sizes vars k).length ≤ 4096 := by
  rw [whereL]
  by_cases h1 : countB sizes vars = true ∧ 0 ≤ k ∧ k < (cnt (toN sizes) (toN vars) : Int)
  · rw [if_pos h1, digs_length, toN_length]; exact h
  · rw [if_neg h1]; exact Nat.zero_le _

set_option maxRecDepth 100000 in
set_option maxHeartbeats 16000000 in
theorem tableExact_walk (a b c b' c' d : Option Addr) (ca cb cc cb' cc' cd : Nat) (sizes va vb at_ : List Int) (la lb : List Fr) (v x k : Int) (w : World) (hs : IntS w a sizes) (hva : IntS w b va) (hvb : IntS w b' vb) (hfa : FrS w c la) (hfb : FrS w c' lb) (hat : IntS w d at_) (hb0 : b = none → cb = 0) (hb0' : b' = none → cb' = 0) (hn : sizes.length ≤ 140737488355328) (hma : va.length ≤ 140737488355328) (hmb : vb.length ≤ 140737488355328) (hna : at_.length ≤ 140737488355328) (hla : la.length ≤ 140737488355328) (hlb : lb.length ≤ 140737488355328) (hza : ∀ f ∈ la, f.2.1.size ≤ 140737488355328 ∧ f.2.2.size ≤ 140737488355328) (hzb : ∀ f ∈ lb, f.2.1.size ≤ 140737488355328 ∧ f.2.2.size ≤ 140737488355328) :
    Calls Tryz.prog 3 #[.slice a sizes.length ca, .agg #[.slice b va.length cb, .slice c la.length cc], .agg #[.slice b' vb.length cb', .slice c' lb.length cc'], .int .i64 v, .int .i64 x, .slice d at_.length cd, .int .i64 k] w fun e w' => e = .returned (.bool true) ∧ Below w.heap.size w w' := by
  have HS := hid hs
  have HVA := hid hva
  have HVB := hid hvb
  have HFA := hid hfa
  have HFB := hid hfb
  have HAT := hid hat
  have HB0 := hid hb0
  have HB0' := hid hb0'
  have HLA := hid hza
  have HLB := hid hzb
  clear hs hva hvb hfa hfb hat hb0 hb0' hza hzb
  have hD := DH.new w (.slice b va.length cb) (.slice c la.length cc) (.slice b' vb.length cb') (.slice c' lb.length cc')
  go_enter Tryz.func3, Tryz.ntmps3
  go_upto_region 1 with fail
  generalize ((w.alloc (TC (.slice b va.length cb) (.slice c la.length cc))).alloc (TC (.slice b' vb.length cb') (.slice c' lb.length cc'))) = W at *
  replace hD : DH w W.drew (.slice b va.length cb) (.slice c la.length cc) (.slice b' vb.length cb') (.slice c' lb.length cc') := ⟨hD.1, hD.2.1, hD.2.2.drew⟩
  have hwl : IntKind.i64.wrap ((sizes.length : Int) + (at_.length : Int)) = (sizes.length : Int) + (at_.length : Int) := by rw [IntKind.wrap_i64]; omega
  refine wp_region_held_drew (S := fun u => u.cell? ⟨w.heap.size, 0, none⟩ = some (.slice b va.length cb) ∧ u.cell? ⟨w.heap.size, 1, none⟩ = some (.slice c la.length cc) ∧ u.cell? ⟨w.heap.size + 1, 0, none⟩ = some (.slice b' vb.length cb') ∧ u.cell? ⟨w.heap.size + 1, 1, none⟩ = some (.slice c' lb.length cc')) (by kernel_rfl) ⟨hD.1.c0, hD.1.c1, hD.2.1.c0, hD.2.1.c1⟩ (fun hSd => ?_)
  generalize W.drew = u0 at *
  refine wpAnyH_take (i := 0) (oi := _) (v := .agg #[.slice b va.length cb, .slice c la.length cc]) rfl (by kernel_rfl) (by kernel_rfl) (by kernel_rfl) (fun _ _ _ h => h) (Or.inl ⟨by rfl, ?_⟩) (by assumption) ?_
  · intro u' hSu
    (try simp only [List.getElem_toArray, List.getElem_cons_zero])
    go_simp
  (try simp only [List.getElem_toArray, List.getElem_cons_zero])
  (try simp only [Act.put, List.setIfInBounds_toArray, List.set_cons_zero, List.set_cons_succ])
  refine wpAnyH_ready (rs := [1]) (by kernel_rfl) (by simp) (AllReadyH.cons rfl ?_ (AllReadyH.nil))
  · intro K' hK'
    (try simp only [List.getElem_toArray, List.getElem_cons_zero, List.getElem_cons_succ])
    go_simp
    refine (heavyTable_any b c cb cc va.length la _ (HFA.out.below hD.2.2) hma hla HLA.out).mono ?_
    rintro e u1 ⟨⟨r1, rfl, hr1⟩, hb⟩
    replace hD := hD.step hb
    refine hK'.out _ _ ⟨hD.1.c0, hD.1.c1, hD.2.1.c0, hD.2.1.c1⟩ (fun hSe => ?_)
    clear hK' K' hSd
    have hSd := hSe
    clear hSe hb
    (try simp only [List.getElem_toArray, List.getElem_cons_zero, List.getElem_cons_succ])
    (try simp only [Act.put, List.setIfInBounds_toArray, List.set_cons_zero, List.set_cons_succ])
    cases r1
    case true =>
      refine wpAnyH_take (i := 2) (oi := _) (v := .bool true) rfl (by kernel_rfl) (by kernel_rfl) (by kernel_rfl) (fun _ _ _ h => h) (Or.inl ⟨by rfl, ?_⟩) (by assumption) ?_
      · intro u' hSu
        (try simp only [List.getElem_toArray, List.getElem_cons_zero, List.getElem_cons_succ])
        go_simp
      (try simp only [List.getElem_toArray, List.getElem_cons_zero, List.getElem_cons_succ])
      (try simp only [Act.put, List.setIfInBounds_toArray, List.set_cons_zero, List.set_cons_succ])
      refine wpAnyH_take (i := 3) (oi := _) (v := undef) rfl (by kernel_rfl) (by kernel_rfl) (by kernel_rfl) (fun _ _ _ h => h) (Or.inr ⟨by rfl, rfl⟩) (by assumption) ?_
      (try simp only [List.getElem_toArray, List.getElem_cons_zero, List.getElem_cons_succ])
      (try simp only [Act.put, List.setIfInBounds_toArray, List.set_cons_zero, List.set_cons_succ])
      refine wpAnyH_ready (rs := [4]) (by kernel_rfl) (by simp) (AllReadyH.cons rfl ?_ (AllReadyH.nil))
      · intro K' hK'
        (try simp only [List.getElem_toArray, List.getElem_cons_zero, List.getElem_cons_succ])
        go_simp
        refine hK'.out _ _ hSd (fun hSe => ?_)
        clear hK' K' hSd
        have hSd := hSe
        clear hSe
        (try simp only [List.getElem_toArray, List.getElem_cons_zero, List.getElem_cons_succ])
        (try simp only [Act.put, List.setIfInBounds_toArray, List.set_cons_zero, List.set_cons_succ])
        refine wpAnyH_take (i := 5) (oi := _) (v := .bool true) rfl (by kernel_rfl) (by kernel_rfl) (by kernel_rfl) (fun _ _ _ h => h) (Or.inl ⟨by rfl, ?_⟩) (by assumption) ?_
        · intro u' hSu
          (try simp only [List.getElem_toArray, List.getElem_cons_zero, List.getElem_cons_succ])
          go_simp
        (try simp only [List.getElem_toArray, List.getElem_cons_zero, List.getElem_cons_succ])
        (try simp only [Act.put, List.setIfInBounds_toArray, List.set_cons_zero, List.set_cons_succ])
        refine wpAnyH_take (i := 6) (oi := _) (v := .bool true) rfl (by kernel_rfl) (by kernel_rfl) (by kernel_rfl) (fun _ _ _ h => h) (Or.inl ⟨by rfl, ?_⟩) (by assumption) ?_
        · intro u' hSu
          (try simp only [List.getElem_toArray, List.getElem_cons_zero, List.getElem_cons_succ])
          go_simp
        (try simp only [List.getElem_toArray, List.getElem_cons_zero, List.getElem_cons_succ])
        (try simp only [Act.put, List.setIfInBounds_toArray, List.set_cons_zero, List.set_cons_succ])
        refine wpAnyH_take (i := 7) (oi := _) (v := undef) rfl (by kernel_rfl) (by kernel_rfl) (by kernel_rfl) (fun _ _ _ h => h) (Or.inr ⟨by rfl, rfl⟩) (by assumption) ?_
        (try simp only [List.getElem_toArray, List.getElem_cons_zero, List.getElem_cons_succ])
        (try simp only [Act.put, List.setIfInBounds_toArray, List.set_cons_zero, List.set_cons_succ])
        refine wpAnyH_take (i := 8) (oi := _) (v := undef) rfl (by kernel_rfl) (by kernel_rfl) (by kernel_rfl) (fun _ _ _ h => h) (Or.inr ⟨by rfl, rfl⟩) (by assumption) ?_
        (try simp only [List.getElem_toArray, List.getElem_cons_zero, List.getElem_cons_succ])
        (try simp only [Act.put, List.setIfInBounds_toArray, List.set_cons_zero, List.set_cons_succ])
        refine wpAnyH_take (i := 9) (oi := _) (v := undef) rfl (by kernel_rfl) (by kernel_rfl) (by kernel_rfl) (fun _ _ _ h => h) (Or.inr ⟨by rfl, rfl⟩) (by assumption) ?_
        (try simp only [List.getElem_toArray, List.getElem_cons_zero, List.getElem_cons_succ])
        (try simp only [Act.put, List.setIfInBounds_toArray, List.set_cons_zero, List.set_cons_succ])
        refine wpAnyH_take (i := 10) (oi := _) (v := undef) rfl (by kernel_rfl) (by kernel_rfl) (by kernel_rfl) (fun _ _ _ h => h) (Or.inr ⟨by rfl, rfl⟩) (by assumption) ?_
        (try simp only [List.getElem_toArray, List.getElem_cons_zero, List.getElem_cons_succ])
        (try simp only [Act.put, List.setIfInBounds_toArray, List.set_cons_zero, List.set_cons_succ])
        refine wpAnyH_take (i := 11) (oi := _) (v := undef) rfl (by kernel_rfl) (by kernel_rfl) (by kernel_rfl) (fun _ _ _ h => h) (Or.inr ⟨by rfl, rfl⟩) (by assumption) ?_
        (try simp only [List.getElem_toArray, List.getElem_cons_zero, List.getElem_cons_succ])
        (try simp only [Act.put, List.setIfInBounds_toArray, List.set_cons_zero, List.set_cons_succ])
        refine wpAnyH_take (i := 12) (oi := _) (v := undef) rfl (by kernel_rfl) (by kernel_rfl) (by kernel_rfl) (fun _ _ _ h => h) (Or.inr ⟨by rfl, rfl⟩) (by assumption) ?_
        (try simp only [List.getElem_toArray, List.getElem_cons_zero, List.getElem_cons_succ])
        (try simp only [Act.put, List.setIfInBounds_toArray, List.set_cons_zero, List.set_cons_succ])
        refine wpAnyH_take (i := 13) (oi := _) (v := .bool true) rfl (by kernel_rfl) (by kernel_rfl) (by kernel_rfl) (fun _ _ _ h => h) (Or.inl ⟨by rfl, ?_⟩) (by assumption) ?_
        · intro u' hSu
          (try simp only [List.getElem_toArray, List.getElem_cons_zero, List.getElem_cons_succ])
          go_simp
        (try simp only [List.getElem_toArray, List.getElem_cons_zero, List.getElem_cons_succ])
        (try simp only [Act.put, List.setIfInBounds_toArray, List.set_cons_zero, List.set_cons_succ])
        refine wpAnyH_take (i := 14) (oi := _) (v := .bool true) rfl (by kernel_rfl) (by kernel_rfl) (by kernel_rfl) (fun _ _ _ h => h) (Or.inl ⟨by rfl, ?_⟩) (by assumption) ?_
        · intro u' hSu
          (try simp only [List.getElem_toArray, List.getElem_cons_zero, List.getElem_cons_succ])
          go_simp
        (try simp only [List.getElem_toArray, List.getElem_cons_zero, List.getElem_cons_succ])
        (try simp only [Act.put, List.setIfInBounds_toArray, List.set_cons_zero, List.set_cons_succ])
        refine wpAnyH_take (i := 15) (oi := _) (v := undef) rfl (by kernel_rfl) (by kernel_rfl) (by kernel_rfl) (fun _ _ _ h => h) (Or.inr ⟨by rfl, rfl⟩) (by assumption) ?_
        (try simp only [List.getElem_toArray, List.getElem_cons_zero, List.getElem_cons_succ])
        (try simp only [Act.put, List.setIfInBounds_toArray, List.set_cons_zero, List.set_cons_succ])
        refine wpAnyH_take (i := 16) (oi := _) (v := undef) rfl (by kernel_rfl) (by kernel_rfl) (by kernel_rfl) (fun _ _ _ h => h) (Or.inr ⟨by rfl, rfl⟩) (by assumption) ?_
        (try simp only [List.getElem_toArray, List.getElem_cons_zero, List.getElem_cons_succ])
        (try simp only [Act.put, List.setIfInBounds_toArray, List.set_cons_zero, List.set_cons_succ])
        refine wpAnyH_take (i := 18) (oi := _) (v := undef) rfl (by kernel_rfl) (by kernel_rfl) (by kernel_rfl) (fun _ _ _ h => h) (Or.inr ⟨by rfl, rfl⟩) (by assumption) ?_
        (try simp only [List.getElem_toArray, List.getElem_cons_zero, List.getElem_cons_succ])
        (try simp only [Act.put, List.setIfInBounds_toArray, List.set_cons_zero, List.set_cons_succ])
        refine wpAnyH_take (i := 19) (oi := _) (v := undef) rfl (by kernel_rfl) (by kernel_rfl) (by kernel_rfl) (fun _ _ _ h => h) (Or.inr ⟨by rfl, rfl⟩) (by assumption) ?_
        (try simp only [List.getElem_toArray, List.getElem_cons_zero, List.getElem_cons_succ])
        (try simp only [Act.put, List.setIfInBounds_toArray, List.set_cons_zero, List.set_cons_succ])
        refine wpAnyH_take (i := 20) (oi := _) (v := undef) rfl (by kernel_rfl) (by kernel_rfl) (by kernel_rfl) (fun _ _ _ h => h) (Or.inr ⟨by rfl, rfl⟩) (by assumption) ?_
        (try simp only [List.getElem_toArray, List.getElem_cons_zero, List.getElem_cons_succ])
        (try simp only [Act.put, List.setIfInBounds_toArray, List.set_cons_zero, List.set_cons_succ])
        refine wpAnyH_ready (rs := [17]) (by kernel_rfl) (by simp) (AllReadyH.cons rfl ?_ (AllReadyH.nil))
        · intro K' hK'
          (try simp only [List.getElem_toArray, List.getElem_cons_zero, List.getElem_cons_succ])
          go_simp
          refine hK'.out _ _ hSd (fun hSe => ?_)
          clear hK' K' hSd
          have hSd := hSe
          clear hSe
          (try simp only [List.getElem_toArray, List.getElem_cons_zero, List.getElem_cons_succ])
          (try simp only [Act.put, List.setIfInBounds_toArray, List.set_cons_zero, List.set_cons_succ])
          refine wpAnyH_take (i := 21) (oi := _) (v := undef) rfl (by kernel_rfl) (by kernel_rfl) (by kernel_rfl) (fun _ _ _ h => h) (Or.inr ⟨by rfl, rfl⟩) (by assumption) ?_
          (try simp only [List.getElem_toArray, List.getElem_cons_zero, List.getElem_cons_succ])
          (try simp only [Act.put, List.setIfInBounds_toArray, List.set_cons_zero, List.set_cons_succ])
          refine wpAnyH_take (i := 22) (oi := _) (v := undef) rfl (by kernel_rfl) (by kernel_rfl) (by kernel_rfl) (fun _ _ _ h => h) (Or.inr ⟨by rfl, rfl⟩) (by assumption) ?_
          (try simp only [List.getElem_toArray, List.getElem_cons_zero, List.getElem_cons_succ])
          (try simp only [Act.put, List.setIfInBounds_toArray, List.set_cons_zero, List.set_cons_succ])
          refine wpAnyH_take (i := 23) (oi := _) (v := .bool true) rfl (by kernel_rfl) (by kernel_rfl) (by kernel_rfl) (fun _ _ _ h => h) (Or.inl ⟨by rfl, ?_⟩) (by assumption) ?_
          · intro u' hSu
            (try simp only [List.getElem_toArray, List.getElem_cons_zero, List.getElem_cons_succ])
            go_simp
          (try simp only [List.getElem_toArray, List.getElem_cons_zero, List.getElem_cons_succ])
          (try simp only [Act.put, List.setIfInBounds_toArray, List.set_cons_zero, List.set_cons_succ])
          refine wpAnyH_done (by kernel_rfl) ?_ _
          clear hSd
          go_wp2
          go_ret
          exact ⟨rfl, hD.2.2⟩
    case false =>
      have hsA := hr1 rfl
      clear hr1
      refine wpAnyH_take (i := 2) (oi := _) (v := .bool false) rfl (by kernel_rfl) (by kernel_rfl) (by kernel_rfl) (fun _ _ _ h => h) (Or.inl ⟨by rfl, ?_⟩) (by assumption) ?_
      · intro u' hSu
        (try simp only [List.getElem_toArray, List.getElem_cons_zero, List.getElem_cons_succ])
        go_simp
      (try simp only [List.getElem_toArray, List.getElem_cons_zero, List.getElem_cons_succ])
      (try simp only [Act.put, List.setIfInBounds_toArray, List.set_cons_zero, List.set_cons_succ])
      refine wpAnyH_take (i := 3) (oi := _) (v := .agg #[.slice b' vb.length cb', .slice c' lb.length cc']) rfl (by kernel_rfl) (by kernel_rfl) (by kernel_rfl) (fun _ _ _ h => h) (Or.inl ⟨by rfl, ?_⟩) (by assumption) ?_
      · intro u' hSu
        (try simp only [List.getElem_toArray, List.getElem_cons_zero, List.getElem_cons_succ])
        obtain ⟨s1, s2, s3, s4⟩ := hSu
        go_simp
      (try simp only [List.getElem_toArray, List.getElem_cons_zero, List.getElem_cons_succ])
      (try simp only [Act.put, List.setIfInBounds_toArray, List.set_cons_zero, List.set_cons_succ])
      refine wpAnyH_ready (rs := [4]) (by kernel_rfl) (by simp) (AllReadyH.cons rfl ?_ (AllReadyH.nil))
      · intro K' hK'
        (try simp only [List.getElem_toArray, List.getElem_cons_zero, List.getElem_cons_succ])
        go_simp
        refine (heavyTable_any b' c' cb' cc' vb.length lb _ (HFB.out.below hD.2.2) hmb hlb HLB.out).mono ?_
        rintro e u2 ⟨⟨r2, rfl, hr2⟩, hb⟩
        replace hD := hD.step hb
        refine hK'.out _ _ ⟨hD.1.c0, hD.1.c1, hD.2.1.c0, hD.2.1.c1⟩ (fun hSe => ?_)
        clear hK' K' hSd
        have hSd := hSe
        clear hSe hb
        (try simp only [List.getElem_toArray, List.getElem_cons_zero, List.getElem_cons_succ])
        (try simp only [Act.put, List.setIfInBounds_toArray, List.set_cons_zero, List.set_cons_succ])
        cases r2
        case true =>
          refine wpAnyH_take (i := 5) (oi := _) (v := .bool true) rfl (by kernel_rfl) (by kernel_rfl) (by kernel_rfl) (fun _ _ _ h => h) (Or.inl ⟨by rfl, ?_⟩) (by assumption) ?_
          · intro u' hSu
            (try simp only [List.getElem_toArray, List.getElem_cons_zero, List.getElem_cons_succ])
            go_simp
          (try simp only [List.getElem_toArray, List.getElem_cons_zero, List.getElem_cons_succ])
          (try simp only [Act.put, List.setIfInBounds_toArray, List.set_cons_zero, List.set_cons_succ])
          refine wpAnyH_take (i := 6) (oi := _) (v := .bool true) rfl (by kernel_rfl) (by kernel_rfl) (by kernel_rfl) (fun _ _ _ h => h) (Or.inl ⟨by rfl, ?_⟩) (by assumption) ?_
          · intro u' hSu
            (try simp only [List.getElem_toArray, List.getElem_cons_zero, List.getElem_cons_succ])
            go_simp
          (try simp only [List.getElem_toArray, List.getElem_cons_zero, List.getElem_cons_succ])
          (try simp only [Act.put, List.setIfInBounds_toArray, List.set_cons_zero, List.set_cons_succ])
          refine wpAnyH_take (i := 7) (oi := _) (v := undef) rfl (by kernel_rfl) (by kernel_rfl) (by kernel_rfl) (fun _ _ _ h => h) (Or.inr ⟨by rfl, rfl⟩) (by assumption) ?_
          (try simp only [List.getElem_toArray, List.getElem_cons_zero, List.getElem_cons_succ])
          (try simp only [Act.put, List.setIfInBounds_toArray, List.set_cons_zero, List.set_cons_succ])
          refine wpAnyH_take (i := 8) (oi := _) (v := undef) rfl (by kernel_rfl) (by kernel_rfl) (by kernel_rfl) (fun _ _ _ h => h) (Or.inr ⟨by rfl, rfl⟩) (by assumption) ?_
          (try simp only [List.getElem_toArray, List.getElem_cons_zero, List.getElem_cons_succ])
          (try simp only [Act.put, List.setIfInBounds_toArray, List.set_cons_zero, List.set_cons_succ])
          refine wpAnyH_take (i := 9) (oi := _) (v := undef) rfl (by kernel_rfl) (by kernel_rfl) (by kernel_rfl) (fun _ _ _ h => h) (Or.inr ⟨by rfl, rfl⟩) (by assumption) ?_
          (try simp only [List.getElem_toArray, List.getElem_cons_zero, List.getElem_cons_succ])
          (try simp only [Act.put, List.setIfInBounds_toArray, List.set_cons_zero, List.set_cons_succ])
          refine wpAnyH_take (i := 10) (oi := _) (v := undef) rfl (by kernel_rfl) (by kernel_rfl) (by kernel_rfl) (fun _ _ _ h => h) (Or.inr ⟨by rfl, rfl⟩) (by assumption) ?_
          (try simp only [List.getElem_toArray, List.getElem_cons_zero, List.getElem_cons_succ])
          (try simp only [Act.put, List.setIfInBounds_toArray, List.set_cons_zero, List.set_cons_succ])
          refine wpAnyH_take (i := 11) (oi := _) (v := undef) rfl (by kernel_rfl) (by kernel_rfl) (by kernel_rfl) (fun _ _ _ h => h) (Or.inr ⟨by rfl, rfl⟩) (by assumption) ?_
          (try simp only [List.getElem_toArray, List.getElem_cons_zero, List.getElem_cons_succ])
          (try simp only [Act.put, List.setIfInBounds_toArray, List.set_cons_zero, List.set_cons_succ])
          refine wpAnyH_take (i := 12) (oi := _) (v := undef) rfl (by kernel_rfl) (by kernel_rfl) (by kernel_rfl) (fun _ _ _ h => h) (Or.inr ⟨by rfl, rfl⟩) (by assumption) ?_
          (try simp only [List.getElem_toArray, List.getElem_cons_zero, List.getElem_cons_succ])
          (try simp only [Act.put, List.setIfInBounds_toArray, List.set_cons_zero, List.set_cons_succ])
          refine wpAnyH_take (i := 13) (oi := _) (v := .bool true) rfl (by kernel_rfl) (by kernel_rfl) (by kernel_rfl) (fun _ _ _ h => h) (Or.inl ⟨by rfl, ?_⟩) (by assumption) ?_
          · intro u' hSu
            (try simp only [List.getElem_toArray, List.getElem_cons_zero, List.getElem_cons_succ])
            go_simp
          (try simp only [List.getElem_toArray, List.getElem_cons_zero, List.getElem_cons_succ])
          (try simp only [Act.put, List.setIfInBounds_toArray, List.set_cons_zero, List.set_cons_succ])
          refine wpAnyH_take (i := 14) (oi := _) (v := .bool true) rfl (by kernel_rfl) (by kernel_rfl) (by kernel_rfl) (fun _ _ _ h => h) (Or.inl ⟨by rfl, ?_⟩) (by assumption) ?_
          · intro u' hSu
            (try simp only [List.getElem_toArray, List.getElem_cons_zero, List.getElem_cons_succ])
            go_simp
          (try simp only [List.getElem_toArray, List.getElem_cons_zero, List.getElem_cons_succ])
          (try simp only [Act.put, List.setIfInBounds_toArray, List.set_cons_zero, List.set_cons_succ])
          refine wpAnyH_take (i := 15) (oi := _) (v := undef) rfl (by kernel_rfl) (by kernel_rfl) (by kernel_rfl) (fun _ _ _ h => h) (Or.inr ⟨by rfl, rfl⟩) (by assumption) ?_
          (try simp only [List.getElem_toArray, List.getElem_cons_zero, List.getElem_cons_succ])
          (try simp only [Act.put, List.setIfInBounds_toArray, List.set_cons_zero, List.set_cons_succ])
          refine wpAnyH_take (i := 16) (oi := _) (v := undef) rfl (by kernel_rfl) (by kernel_rfl) (by kernel_rfl) (fun _ _ _ h => h) (Or.inr ⟨by rfl, rfl⟩) (by assumption) ?_
          (try simp only [List.getElem_toArray, List.getElem_cons_zero, List.getElem_cons_succ])
          (try simp only [Act.put, List.setIfInBounds_toArray, List.set_cons_zero, List.set_cons_succ])
          refine wpAnyH_take (i := 18) (oi := _) (v := undef) rfl (by kernel_rfl) (by kernel_rfl) (by kernel_rfl) (fun _ _ _ h => h) (Or.inr ⟨by rfl, rfl⟩) (by assumption) ?_
          (try simp only [List.getElem_toArray, List.getElem_cons_zero, List.getElem_cons_succ])
          (try simp only [Act.put, List.setIfInBounds_toArray, List.set_cons_zero, List.set_cons_succ])
          refine wpAnyH_take (i := 19) (oi := _) (v := undef) rfl (by kernel_rfl) (by kernel_rfl) (by kernel_rfl) (fun _ _ _ h => h) (Or.inr ⟨by rfl, rfl⟩) (by assumption) ?_
          (try simp only [List.getElem_toArray, List.getElem_cons_zero, List.getElem_cons_succ])
          (try simp only [Act.put, List.setIfInBounds_toArray, List.set_cons_zero, List.set_cons_succ])
          refine wpAnyH_take (i := 20) (oi := _) (v := undef) rfl (by kernel_rfl) (by kernel_rfl) (by kernel_rfl) (fun _ _ _ h => h) (Or.inr ⟨by rfl, rfl⟩) (by assumption) ?_
          (try simp only [List.getElem_toArray, List.getElem_cons_zero, List.getElem_cons_succ])
          (try simp only [Act.put, List.setIfInBounds_toArray, List.set_cons_zero, List.set_cons_succ])
          refine wpAnyH_ready (rs := [17]) (by kernel_rfl) (by simp) (AllReadyH.cons rfl ?_ (AllReadyH.nil))
          · intro K' hK'
            (try simp only [List.getElem_toArray, List.getElem_cons_zero, List.getElem_cons_succ])
            go_simp
            refine hK'.out _ _ hSd (fun hSe => ?_)
            clear hK' K' hSd
            have hSd := hSe
            clear hSe
            (try simp only [List.getElem_toArray, List.getElem_cons_zero, List.getElem_cons_succ])
            (try simp only [Act.put, List.setIfInBounds_toArray, List.set_cons_zero, List.set_cons_succ])
            refine wpAnyH_take (i := 21) (oi := _) (v := undef) rfl (by kernel_rfl) (by kernel_rfl) (by kernel_rfl) (fun _ _ _ h => h) (Or.inr ⟨by rfl, rfl⟩) (by assumption) ?_
            (try simp only [List.getElem_toArray, List.getElem_cons_zero, List.getElem_cons_succ])
            (try simp only [Act.put, List.setIfInBounds_toArray, List.set_cons_zero, List.set_cons_succ])
            refine wpAnyH_take (i := 22) (oi := _) (v := undef) rfl (by kernel_rfl) (by kernel_rfl) (by kernel_rfl) (fun _ _ _ h => h) (Or.inr ⟨by rfl, rfl⟩) (by assumption) ?_
            (try simp only [List.getElem_toArray, List.getElem_cons_zero, List.getElem_cons_succ])
            (try simp only [Act.put, List.setIfInBounds_toArray, List.set_cons_zero, List.set_cons_succ])
            refine wpAnyH_take (i := 23) (oi := _) (v := .bool true) rfl (by kernel_rfl) (by kernel_rfl) (by kernel_rfl) (fun _ _ _ h => h) (Or.inl ⟨by rfl, ?_⟩) (by assumption) ?_
            · intro u' hSu
              (try simp only [List.getElem_toArray, List.getElem_cons_zero, List.getElem_cons_succ])
              go_simp
            (try simp only [List.getElem_toArray, List.getElem_cons_zero, List.getElem_cons_succ])
            (try simp only [Act.put, List.setIfInBounds_toArray, List.set_cons_zero, List.set_cons_succ])
            refine wpAnyH_done (by kernel_rfl) ?_ _
            clear hSd
            go_wp2
            go_ret
            exact ⟨rfl, hD.2.2⟩
        case false =>
          have hsB := hr2 rfl
          clear hr2
          refine wpAnyH_take (i := 5) (oi := _) (v := .bool false) rfl (by kernel_rfl) (by kernel_rfl) (by kernel_rfl) (fun _ _ _ h => h) (Or.inl ⟨by rfl, ?_⟩) (by assumption) ?_
          · intro u' hSu
            (try simp only [List.getElem_toArray, List.getElem_cons_zero, List.getElem_cons_succ])
            go_simp
          (try simp only [List.getElem_toArray, List.getElem_cons_zero, List.getElem_cons_succ])
          (try simp only [Act.put, List.setIfInBounds_toArray, List.set_cons_zero, List.set_cons_succ])
          refine wpAnyH_take (i := 6) (oi := _) (v := .bool false) rfl (by kernel_rfl) (by kernel_rfl) (by kernel_rfl) (fun _ _ _ h => h) (Or.inl ⟨by rfl, ?_⟩) (by assumption) ?_
          · intro u' hSu
            (try simp only [List.getElem_toArray, List.getElem_cons_zero, List.getElem_cons_succ])
            go_simp
          (try simp only [List.getElem_toArray, List.getElem_cons_zero, List.getElem_cons_succ])
          (try simp only [Act.put, List.setIfInBounds_toArray, List.set_cons_zero, List.set_cons_succ])
          refine wpAnyH_take (i := 7) (oi := _) (v := .slice a sizes.length ca) rfl (by kernel_rfl) (by kernel_rfl) (by kernel_rfl) (fun _ _ _ h => h) (Or.inl ⟨by rfl, ?_⟩) (by assumption) ?_
          · intro u' hSu
            (try simp only [List.getElem_toArray, List.getElem_cons_zero, List.getElem_cons_succ])
            go_simp
          (try simp only [List.getElem_toArray, List.getElem_cons_zero, List.getElem_cons_succ])
          (try simp only [Act.put, List.setIfInBounds_toArray, List.set_cons_zero, List.set_cons_succ])
          refine wpAnyH_take (i := 8) (oi := _) (v := .int .i64 (sizes.length : Nat)) rfl (by kernel_rfl) (by kernel_rfl) (by kernel_rfl) (fun _ _ _ h => h) (Or.inl ⟨by rfl, ?_⟩) (by assumption) ?_
          · intro u' hSu
            (try simp only [List.getElem_toArray, List.getElem_cons_zero, List.getElem_cons_succ])
            go_simp
          (try simp only [List.getElem_toArray, List.getElem_cons_zero, List.getElem_cons_succ])
          (try simp only [Act.put, List.setIfInBounds_toArray, List.set_cons_zero, List.set_cons_succ])
          refine wpAnyH_take (i := 9) (oi := _) (v := .slice d at_.length cd) rfl (by kernel_rfl) (by kernel_rfl) (by kernel_rfl) (fun _ _ _ h => h) (Or.inl ⟨by rfl, ?_⟩) (by assumption) ?_
          · intro u' hSu
            (try simp only [List.getElem_toArray, List.getElem_cons_zero, List.getElem_cons_succ])
            go_simp
          (try simp only [List.getElem_toArray, List.getElem_cons_zero, List.getElem_cons_succ])
          (try simp only [Act.put, List.setIfInBounds_toArray, List.set_cons_zero, List.set_cons_succ])
          refine wpAnyH_take (i := 10) (oi := _) (v := .int .i64 (at_.length : Nat)) rfl (by kernel_rfl) (by kernel_rfl) (by kernel_rfl) (fun _ _ _ h => h) (Or.inl ⟨by rfl, ?_⟩) (by assumption) ?_
          · intro u' hSu
            (try simp only [List.getElem_toArray, List.getElem_cons_zero, List.getElem_cons_succ])
            go_simp
          (try simp only [List.getElem_toArray, List.getElem_cons_zero, List.getElem_cons_succ])
          (try simp only [Act.put, List.setIfInBounds_toArray, List.set_cons_zero, List.set_cons_succ])
          refine wpAnyH_take (i := 11) (oi := _) (v := .int .i64 ((sizes.length : Int) + (at_.length : Int))) rfl (by kernel_rfl) (by kernel_rfl) (by kernel_rfl) (fun _ _ _ h => h) (Or.inl ⟨by rfl, ?_⟩) (by assumption) ?_
          · intro u' hSu
            (try simp only [List.getElem_toArray, List.getElem_cons_zero, List.getElem_cons_succ])
            go_simp
          (try simp only [List.getElem_toArray, List.getElem_cons_zero, List.getElem_cons_succ])
          (try simp only [Act.put, List.setIfInBounds_toArray, List.set_cons_zero, List.set_cons_succ])
          refine wpAnyH_take (i := 12) (oi := _) (v := .bool (decide ((sizes.length : Int) + (at_.length : Int) > 64))) rfl (by kernel_rfl) (by kernel_rfl) (by kernel_rfl) (fun _ _ _ h => h) (Or.inl ⟨by rfl, ?_⟩) (by assumption) ?_
          · intro u' hSu
            (try simp only [List.getElem_toArray, List.getElem_cons_zero, List.getElem_cons_succ])
            go_simp
          (try simp only [List.getElem_toArray, List.getElem_cons_zero, List.getElem_cons_succ])
          (try simp only [Act.put, List.setIfInBounds_toArray, List.set_cons_zero, List.set_cons_succ])
          by_cases hbg : (sizes.length : Int) + (at_.length : Int) > 64
          · rw [decide_eq_true hbg]
            refine wpAnyH_take (i := 13) (oi := _) (v := .bool true) rfl (by kernel_rfl) (by kernel_rfl) (by kernel_rfl) (fun _ _ _ h => h) (Or.inl ⟨by rfl, ?_⟩) (by assumption) ?_
            · intro u' hSu
              (try simp only [List.getElem_toArray, List.getElem_cons_zero, List.getElem_cons_succ])
              go_simp
            (try simp only [List.getElem_toArray, List.getElem_cons_zero, List.getElem_cons_succ])
            (try simp only [Act.put, List.setIfInBounds_toArray, List.set_cons_zero, List.set_cons_succ])
            refine wpAnyH_take (i := 14) (oi := _) (v := .bool true) rfl (by kernel_rfl) (by kernel_rfl) (by kernel_rfl) (fun _ _ _ h => h) (Or.inl ⟨by rfl, ?_⟩) (by assumption) ?_
            · intro u' hSu
              (try simp only [List.getElem_toArray, List.getElem_cons_zero, List.getElem_cons_succ])
              go_simp
            (try simp only [List.getElem_toArray, List.getElem_cons_zero, List.getElem_cons_succ])
            (try simp only [Act.put, List.setIfInBounds_toArray, List.set_cons_zero, List.set_cons_succ])
            refine wpAnyH_take (i := 15) (oi := _) (v := undef) rfl (by kernel_rfl) (by kernel_rfl) (by kernel_rfl) (fun _ _ _ h => h) (Or.inr ⟨by rfl, rfl⟩) (by assumption) ?_
            (try simp only [List.getElem_toArray, List.getElem_cons_zero, List.getElem_cons_succ])
            (try simp only [Act.put, List.setIfInBounds_toArray, List.set_cons_zero, List.set_cons_succ])
            refine wpAnyH_take (i := 16) (oi := _) (v := undef) rfl (by kernel_rfl) (by kernel_rfl) (by kernel_rfl) (fun _ _ _ h => h) (Or.inr ⟨by rfl, rfl⟩) (by assumption) ?_
            (try simp only [List.getElem_toArray, List.getElem_cons_zero, List.getElem_cons_succ])
            (try simp only [Act.put, List.setIfInBounds_toArray, List.set_cons_zero, List.set_cons_succ])
            refine wpAnyH_take (i := 18) (oi := _) (v := undef) rfl (by kernel_rfl) (by kernel_rfl) (by kernel_rfl) (fun _ _ _ h => h) (Or.inr ⟨by rfl, rfl⟩) (by assumption) ?_
            (try simp only [List.getElem_toArray, List.getElem_cons_zero, List.getElem_cons_succ])
            (try simp only [Act.put, List.setIfInBounds_toArray, List.set_cons_zero, List.set_cons_succ])
            refine wpAnyH_take (i := 19) (oi := _) (v := undef) rfl (by kernel_rfl) (by kernel_rfl) (by kernel_rfl) (fun _ _ _ h => h) (Or.inr ⟨by rfl, rfl⟩) (by assumption) ?_
            (try simp only [List.getElem_toArray, List.getElem_cons_zero, List.getElem_cons_succ])
            (try simp only [Act.put, List.setIfInBounds_toArray, List.set_cons_zero, List.set_cons_succ])
            refine wpAnyH_take (i := 20) (oi := _) (v := undef) rfl (by kernel_rfl) (by kernel_rfl) (by kernel_rfl) (fun _ _ _ h => h) (Or.inr ⟨by rfl, rfl⟩) (by assumption) ?_
            (try simp only [List.getElem_toArray, List.getElem_cons_zero, List.getElem_cons_succ])
            (try simp only [Act.put, List.setIfInBounds_toArray, List.set_cons_zero, List.set_cons_succ])
            refine wpAnyH_ready (rs := [17]) (by kernel_rfl) (by simp) (AllReadyH.cons rfl ?_ (AllReadyH.nil))
            · intro K' hK'
              (try simp only [List.getElem_toArray, List.getElem_cons_zero, List.getElem_cons_succ])
              go_simp
              refine hK'.out _ _ hSd (fun hSe => ?_)
              clear hK' K' hSd
              have hSd := hSe
              clear hSe
              (try simp only [List.getElem_toArray, List.getElem_cons_zero, List.getElem_cons_succ])
              (try simp only [Act.put, List.setIfInBounds_toArray, List.set_cons_zero, List.set_cons_succ])
              refine wpAnyH_take (i := 21) (oi := _) (v := undef) rfl (by kernel_rfl) (by kernel_rfl) (by kernel_rfl) (fun _ _ _ h => h) (Or.inr ⟨by rfl, rfl⟩) (by assumption) ?_
              (try simp only [List.getElem_toArray, List.getElem_cons_zero, List.getElem_cons_succ])
              (try simp only [Act.put, List.setIfInBounds_toArray, List.set_cons_zero, List.set_cons_succ])
              refine wpAnyH_take (i := 22) (oi := _) (v := undef) rfl (by kernel_rfl) (by kernel_rfl) (by kernel_rfl) (fun _ _ _ h => h) (Or.inr ⟨by rfl, rfl⟩) (by assumption) ?_
              (try simp only [List.getElem_toArray, List.getElem_cons_zero, List.getElem_cons_succ])
              (try simp only [Act.put, List.setIfInBounds_toArray, List.set_cons_zero, List.set_cons_succ])
              refine wpAnyH_take (i := 23) (oi := _) (v := .bool true) rfl (by kernel_rfl) (by kernel_rfl) (by kernel_rfl) (fun _ _ _ h => h) (Or.inl ⟨by rfl, ?_⟩) (by assumption) ?_
              · intro u' hSu
                (try simp only [List.getElem_toArray, List.getElem_cons_zero, List.getElem_cons_succ])
                go_simp
              (try simp only [List.getElem_toArray, List.getElem_cons_zero, List.getElem_cons_succ])
              (try simp only [Act.put, List.setIfInBounds_toArray, List.set_cons_zero, List.set_cons_succ])
              refine wpAnyH_done (by kernel_rfl) ?_ _
              clear hSd
              go_wp2
              go_ret
              exact ⟨rfl, hD.2.2⟩
          · rw [decide_eq_false hbg]
            refine wpAnyH_take (i := 13) (oi := _) (v := .bool false) rfl (by kernel_rfl) (by kernel_rfl) (by kernel_rfl) (fun _ _ _ h => h) (Or.inl ⟨by rfl, ?_⟩) (by assumption) ?_
            · intro u' hSu
              (try simp only [List.getElem_toArray, List.getElem_cons_zero, List.getElem_cons_succ])
              go_simp
            (try simp only [List.getElem_toArray, List.getElem_cons_zero, List.getElem_cons_succ])
            (try simp only [Act.put, List.setIfInBounds_toArray, List.set_cons_zero, List.set_cons_succ])
            refine wpAnyH_take (i := 14) (oi := _) (v := .bool false) rfl (by kernel_rfl) (by kernel_rfl) (by kernel_rfl) (fun _ _ _ h => h) (Or.inl ⟨by rfl, ?_⟩) (by assumption) ?_
            · intro u' hSu
              (try simp only [List.getElem_toArray, List.getElem_cons_zero, List.getElem_cons_succ])
              go_simp
            (try simp only [List.getElem_toArray, List.getElem_cons_zero, List.getElem_cons_succ])
            (try simp only [Act.put, List.setIfInBounds_toArray, List.set_cons_zero, List.set_cons_succ])
            refine wpAnyH_take (i := 15) (oi := _) (v := .pointer (some ⟨w.heap.size, 1, none⟩)) rfl (by kernel_rfl) (by kernel_rfl) (by kernel_rfl) (fun _ _ _ h => h) (Or.inl ⟨by rfl, ?_⟩) (by assumption) ?_
            · intro u' hSu
              (try simp only [List.getElem_toArray, List.getElem_cons_zero, List.getElem_cons_succ])
              go_simp
            (try simp only [List.getElem_toArray, List.getElem_cons_zero, List.getElem_cons_succ])
            (try simp only [Act.put, List.setIfInBounds_toArray, List.set_cons_zero, List.set_cons_succ])
            refine wpAnyH_take (i := 16) (oi := _) (v := .slice c la.length cc) rfl (by kernel_rfl) (by kernel_rfl) (by kernel_rfl) (fun _ _ _ h => h) (Or.inl ⟨by rfl, ?_⟩) (by assumption) ?_
            · intro u' hSu
              (try simp only [List.getElem_toArray, List.getElem_cons_zero, List.getElem_cons_succ])
              obtain ⟨s1, s2, s3, s4⟩ := hSu
              go_simp
            (try simp only [List.getElem_toArray, List.getElem_cons_zero, List.getElem_cons_succ])
            (try simp only [Act.put, List.setIfInBounds_toArray, List.set_cons_zero, List.set_cons_succ])
            refine wpAnyH_take (i := 18) (oi := _) (v := .pointer (some ⟨w.heap.size + 1, 1, none⟩)) rfl (by kernel_rfl) (by kernel_rfl) (by kernel_rfl) (fun _ _ _ h => h) (Or.inl ⟨by rfl, ?_⟩) (by assumption) ?_
            · intro u' hSu
              (try simp only [List.getElem_toArray, List.getElem_cons_zero, List.getElem_cons_succ])
              go_simp
            (try simp only [List.getElem_toArray, List.getElem_cons_zero, List.getElem_cons_succ])
            (try simp only [Act.put, List.setIfInBounds_toArray, List.set_cons_zero, List.set_cons_succ])
            refine wpAnyH_take (i := 19) (oi := _) (v := .slice c' lb.length cc') rfl (by kernel_rfl) (by kernel_rfl) (by kernel_rfl) (fun _ _ _ h => h) (Or.inl ⟨by rfl, ?_⟩) (by assumption) ?_
            · intro u' hSu
              (try simp only [List.getElem_toArray, List.getElem_cons_zero, List.getElem_cons_succ])
              obtain ⟨s1, s2, s3, s4⟩ := hSu
              go_simp
            (try simp only [List.getElem_toArray, List.getElem_cons_zero, List.getElem_cons_succ])
            (try simp only [Act.put, List.setIfInBounds_toArray, List.set_cons_zero, List.set_cons_succ])
            refine wpAnyH_take (i := 20) (oi := _) (v := .int .i64 (lb.length : Nat)) rfl (by kernel_rfl) (by kernel_rfl) (by kernel_rfl) (fun _ _ _ h => h) (Or.inl ⟨by rfl, ?_⟩) (by assumption) ?_
            · intro u' hSu
              (try simp only [List.getElem_toArray, List.getElem_cons_zero, List.getElem_cons_succ])
              go_simp
            (try simp only [List.getElem_toArray, List.getElem_cons_zero, List.getElem_cons_succ])
            (try simp only [Act.put, List.setIfInBounds_toArray, List.set_cons_zero, List.set_cons_succ])
            refine wpAnyH_ready (rs := [17]) (by kernel_rfl) (by simp) (AllReadyH.cons rfl ?_ (AllReadyH.nil))
            · intro K' hK'
              (try simp only [List.getElem_toArray, List.getElem_cons_zero, List.getElem_cons_succ])
              go_simp
              refine (fracBytes_any c cc la _ (HFA.out.below hD.2.2) hla HLA.out).mono ?_
              rintro e u3 ⟨⟨r, rfl, hr1, hr2⟩, hb⟩
              replace hD := hD.step hb
              refine hK'.out _ _ ⟨hD.1.c0, hD.1.c1, hD.2.1.c0, hD.2.1.c1⟩ (fun hSe => ?_)
              clear hK' K' hSd
              have hSd := hSe
              clear hSe hb
              (try simp only [List.getElem_toArray, List.getElem_cons_zero, List.getElem_cons_succ])
              (try simp only [Act.put, List.setIfInBounds_toArray, List.set_cons_zero, List.set_cons_succ])
              have hwm : IntKind.i64.wrap ((r : Int) * (lb.length : Int)) = IntKind.i64.wrap ((r : Int) * (lb.length : Int)) := rfl
              obtain ⟨m, hm⟩ : ∃ m, IntKind.i64.wrap ((r : Int) * (lb.length : Int)) = m := ⟨_, rfl⟩
              clear hwm
              refine wpAnyH_take (i := 21) (oi := _) (v := .int .i64 m) rfl (by kernel_rfl) (by kernel_rfl) (by kernel_rfl) (fun _ _ _ h => h) (Or.inl ⟨by rfl, ?_⟩) (by assumption) ?_
              · intro u' hSu
                (try simp only [List.getElem_toArray, List.getElem_cons_zero, List.getElem_cons_succ])
                go_simp
              (try simp only [List.getElem_toArray, List.getElem_cons_zero, List.getElem_cons_succ])
              (try simp only [Act.put, List.setIfInBounds_toArray, List.set_cons_zero, List.set_cons_succ])
              refine wpAnyH_take (i := 22) (oi := _) (v := .bool (decide (m > 65536))) rfl (by kernel_rfl) (by kernel_rfl) (by kernel_rfl) (fun _ _ _ h => h) (Or.inl ⟨by rfl, ?_⟩) (by assumption) ?_
              · intro u' hSu
                (try simp only [List.getElem_toArray, List.getElem_cons_zero, List.getElem_cons_succ])
                go_simp
              (try simp only [List.getElem_toArray, List.getElem_cons_zero, List.getElem_cons_succ])
              (try simp only [Act.put, List.setIfInBounds_toArray, List.set_cons_zero, List.set_cons_succ])
              by_cases hbig : m > 65536
              · rw [decide_eq_true hbig]
                refine wpAnyH_take (i := 23) (oi := _) (v := .bool true) rfl (by kernel_rfl) (by kernel_rfl) (by kernel_rfl) (fun _ _ _ h => h) (Or.inl ⟨by rfl, ?_⟩) (by assumption) ?_
                · intro u' hSu
                  (try simp only [List.getElem_toArray, List.getElem_cons_zero, List.getElem_cons_succ])
                  go_simp
                (try simp only [List.getElem_toArray, List.getElem_cons_zero, List.getElem_cons_succ])
                (try simp only [Act.put, List.setIfInBounds_toArray, List.set_cons_zero, List.set_cons_succ])
                refine wpAnyH_done (by kernel_rfl) ?_ _
                clear hSd
                go_wp2
                go_ret
                exact ⟨rfl, hD.2.2⟩
              · rw [decide_eq_false hbig]
                refine wpAnyH_take (i := 23) (oi := _) (v := .bool false) rfl (by kernel_rfl) (by kernel_rfl) (by kernel_rfl) (fun _ _ _ h => h) (Or.inl ⟨by rfl, ?_⟩) (by assumption) ?_
                · intro u' hSu
                  (try simp only [List.getElem_toArray, List.getElem_cons_zero, List.getElem_cons_succ])
                  go_simp
                (try simp only [List.getElem_toArray, List.getElem_cons_zero, List.getElem_cons_succ])
                (try simp only [Act.put, List.setIfInBounds_toArray, List.set_cons_zero, List.set_cons_succ])
                refine wpAnyH_done (by kernel_rfl) ?_ _
                clear hSd hm hbig hr1 hr2
                have hss : sizes.length ≤ 64 := by omega
                have has : at_.length ≤ 64 := by omega
                have hTA : TIn w b c cb va la := ⟨HVA.out, HFA.out, HB0.out, by omega, by have := fw_sw la; omega⟩
                have hTB : TIn w b' c' cb' vb lb := ⟨HVB.out, HFB.out, HB0'.out, by omega, by have := fw_sw lb; omega⟩
                obtain ⟨V1, L1, k1, n1, m1, hP1, hP2⟩ := both_Prod ca cc cc' HS.out hss hTA hTB
                have HP1 := hid hP1
                have HP2 := hid hP2
                have HOUT := hid (fun m => both_Out ca cc v m HS.out hss hTA)
                obtain ⟨V3, L3, k3, n3, m3, hF1, hF2⟩ := both_Fix ca cc v x HS.out hss hTA
                have HF1 := hid hF1
                have HF2 := hid hF2
                obtain ⟨V4, L4, k4, n4, m4, hN1, hN2⟩ := both_Norm ca cc HS.out hss hTA
                have HN1 := hid hN1
                have HN2 := hid hN2
                obtain ⟨V5, q5, x5, y5, k5, n5, hB1, hB2, hB3⟩ := both_Best ca cc HS.out hss hTA
                have HB1 := hid hB1
                have HB2 := hid hB2
                have HB3 := hid hB3
                have hwl := whereL_len sizes va k (by omega)
                have HC1 := hid (fun V (h : Below w.heap.size w V) => tCount_any a b ca cb sizes va V (HS.out.below h) (HVA.out.below h) hn hma)
                have HC2 := hid (fun V (h : Below w.heap.size w V) => rCount_any a b ca cb sizes va V (HS.out.below h) (HVA.out.below h) hn hma)
                have HK1 := hid (fun V (h : Below w.heap.size w V) => tCheck_any a b c ca cb cc la.length sizes va V (HS.out.below h) (HVA.out.below h) hn hma)
                have HK2 := hid (fun V (h : Below w.heap.size w V) => rCheck_any a b c ca cb cc la.length sizes va V (HS.out.below h) (HVA.out.below h) hn hma)
                have HI1 := hid (fun V (h : Below w.heap.size w V) => tIndex_any a b d ca cb cd sizes va at_ V (HS.out.below h) (HVA.out.below h) (HAT.out.below h) hn hma hna)
                have HI2 := hid (fun V (h : Below w.heap.size w V) => rIndex_any a b d ca cb cd sizes va at_ V (HS.out.below h) (HVA.out.below h) (HAT.out.below h) hn hma hna)
                have HW1 := hid (fun V (h : Below w.heap.size w V) => tWhere_any a b ca cb sizes va k V (HS.out.below h) (HVA.out.below h) hn hma)
                have HW2 := hid (fun V (h : Below w.heap.size w V) => rWhere_any a b ca cb sizes va k V (HS.out.below h) (HVA.out.below h) hn hma)
                clear hP1 hP2 hF1 hF2 hN1 hN2 hB1 hB2 hB3 hTA hTB hsA hsB hbg
                generalize countA sizes va = cA at *
                generalize checkA sizes va la.length = kA at *
                generalize indexA sizes va at_ = iA at *
                generalize whereE sizes va k = eW at *
                generalize whereL sizes va k = lW at *
                obtain ⟨cA1, cA2⟩ := cA
                obtain ⟨iA1, iA2⟩ := iA
                simp only at HC1 HC2 HI1 HI2
                generalize u3 = z0 at *
                have c0 := hD.1.c0
                have c1 := hD.1.c1
                have c2 := hD.2.1.c0
                have c3 := hD.2.1.c1
                go_wp2_with fail
                refine (HC1.out _ hD.2.2).mono ?_
                rintro e z1 ⟨rfl, hb⟩
                replace hD := hD.step hb
                clear c0 c1 c2 c3 hb
                have c0 := hD.1.c0
                have c1 := hD.1.c1
                have c2 := hD.2.1.c0
                have c3 := hD.2.1.c1
                go_wp2_with fail
                refine (HC2.out _ hD.2.2).mono ?_
                rintro e z2 ⟨rfl, hb⟩
                replace hD := hD.step hb
                clear c0 c1 c2 c3 hb
                go_upto_region 5 with fail
                replace hD : DH w z2.drew (.slice b va.length cb) (.slice c la.length cc) (.slice b' vb.length cb') (.slice c' lb.length cc') := ⟨hD.1, hD.2.1, hD.2.2.drew⟩
                refine wp_region_held_drew (S := fun u => u.cell? ⟨w.heap.size, 0, none⟩ = some (.slice b va.length cb) ∧ u.cell? ⟨w.heap.size, 1, none⟩ = some (.slice c la.length cc) ∧ u.cell? ⟨w.heap.size + 1, 0, none⟩ = some (.slice b' vb.length cb') ∧ u.cell? ⟨w.heap.size + 1, 1, none⟩ = some (.slice c' lb.length cc')) (by kernel_rfl) ⟨hD.1.c0, hD.1.c1, hD.2.1.c0, hD.2.1.c1⟩ (fun hSd => ?_)
                generalize z2.drew = z3 at *
                refine wpAnyH_take (i := 0) (oi := _) (v := .int .i64 cA1) rfl (by kernel_rfl) (by kernel_rfl) (by kernel_rfl) (fun _ _ _ h => h) (Or.inl ⟨by rfl, ?_⟩) (by assumption) ?_
                · intro u' hSu
                  (try simp only [List.getElem_toArray, List.getElem_cons_zero])
                  go_simp
                (try simp only [List.getElem_toArray, List.getElem_cons_zero])
                (try simp only [Act.put, List.setIfInBounds_toArray, List.set_cons_zero, List.set_cons_succ])
                refine wpAnyH_take (i := 1) (oi := _) (v := .int .i64 cA1) rfl (by kernel_rfl) (by kernel_rfl) (by kernel_rfl) (fun _ _ _ h => h) (Or.inl ⟨by rfl, ?_⟩) (by assumption) ?_
                · intro u' hSu
                  (try simp only [List.getElem_toArray, List.getElem_cons_zero, List.getElem_cons_succ])
                  go_simp
                (try simp only [List.getElem_toArray, List.getElem_cons_zero, List.getElem_cons_succ])
                (try simp only [Act.put, List.setIfInBounds_toArray, List.set_cons_zero, List.set_cons_succ])
                refine wpAnyH_take (i := 2) (oi := _) (v := .bool false) rfl (by kernel_rfl) (by kernel_rfl) (by kernel_rfl) (fun _ _ _ h => h) (Or.inl ⟨by rfl, ?_⟩) (by assumption) ?_
                · intro u' hSu
                  (try simp only [List.getElem_toArray, List.getElem_cons_zero, List.getElem_cons_succ])
                  go_simp
                (try simp only [List.getElem_toArray, List.getElem_cons_zero, List.getElem_cons_succ])
                (try simp only [Act.put, List.setIfInBounds_toArray, List.set_cons_zero, List.set_cons_succ])
                refine wpAnyH_take (i := 3) (oi := _) (v := .bool false) rfl (by kernel_rfl) (by kernel_rfl) (by kernel_rfl) (fun _ _ _ h => h) (Or.inl ⟨by rfl, ?_⟩) (by assumption) ?_
                · intro u' hSu
                  (try simp only [List.getElem_toArray, List.getElem_cons_zero, List.getElem_cons_succ])
                  go_simp
                (try simp only [List.getElem_toArray, List.getElem_cons_zero, List.getElem_cons_succ])
                (try simp only [Act.put, List.setIfInBounds_toArray, List.set_cons_zero, List.set_cons_succ])
                refine wpAnyH_take (i := 4) (oi := _) (v := .int .i64 cA2) rfl (by kernel_rfl) (by kernel_rfl) (by kernel_rfl) (fun _ _ _ h => h) (Or.inl ⟨by rfl, ?_⟩) (by assumption) ?_
                · intro u' hSu
                  (try simp only [List.getElem_toArray, List.getElem_cons_zero, List.getElem_cons_succ])
                  go_simp
                (try simp only [List.getElem_toArray, List.getElem_cons_zero, List.getElem_cons_succ])
                (try simp only [Act.put, List.setIfInBounds_toArray, List.set_cons_zero, List.set_cons_succ])
                refine wpAnyH_take (i := 5) (oi := _) (v := .int .i64 cA2) rfl (by kernel_rfl) (by kernel_rfl) (by kernel_rfl) (fun _ _ _ h => h) (Or.inl ⟨by rfl, ?_⟩) (by assumption) ?_
                · intro u' hSu
                  (try simp only [List.getElem_toArray, List.getElem_cons_zero, List.getElem_cons_succ])
                  go_simp
                (try simp only [List.getElem_toArray, List.getElem_cons_zero, List.getElem_cons_succ])
                (try simp only [Act.put, List.setIfInBounds_toArray, List.set_cons_zero, List.set_cons_succ])
                refine wpAnyH_take (i := 6) (oi := _) (v := .bool false) rfl (by kernel_rfl) (by kernel_rfl) (by kernel_rfl) (fun _ _ _ h => h) (Or.inl ⟨by rfl, ?_⟩) (by assumption) ?_
                · intro u' hSu
                  (try simp only [List.getElem_toArray, List.getElem_cons_zero, List.getElem_cons_succ])
                  go_simp
                (try simp only [List.getElem_toArray, List.getElem_cons_zero, List.getElem_cons_succ])
                (try simp only [Act.put, List.setIfInBounds_toArray, List.set_cons_zero, List.set_cons_succ])
                refine wpAnyH_take (i := 7) (oi := _) (v := .bool false) rfl (by kernel_rfl) (by kernel_rfl) (by kernel_rfl) (fun _ _ _ h => h) (Or.inl ⟨by rfl, ?_⟩) (by assumption) ?_
                · intro u' hSu
                  (try simp only [List.getElem_toArray, List.getElem_cons_zero, List.getElem_cons_succ])
                  go_simp
                (try simp only [List.getElem_toArray, List.getElem_cons_zero, List.getElem_cons_succ])
                (try simp only [Act.put, List.setIfInBounds_toArray, List.set_cons_zero, List.set_cons_succ])
                refine wpAnyH_take (i := 8) (oi := _) (v := .bool false) rfl (by kernel_rfl) (by kernel_rfl) (by kernel_rfl) (fun _ _ _ h => h) (Or.inl ⟨by rfl, ?_⟩) (by assumption) ?_
                · intro u' hSu
                  (try simp only [List.getElem_toArray, List.getElem_cons_zero, List.getElem_cons_succ])
                  go_simp
                (try simp only [List.getElem_toArray, List.getElem_cons_zero, List.getElem_cons_succ])
                (try simp only [Act.put, List.setIfInBounds_toArray, List.set_cons_zero, List.set_cons_succ])
                refine wpAnyH_take (i := 9) (oi := _) (v := .slice a sizes.length ca) rfl (by kernel_rfl) (by kernel_rfl) (by kernel_rfl) (fun _ _ _ h => h) (Or.inl ⟨by rfl, ?_⟩) (by assumption) ?_
                · intro u' hSu
                  (try simp only [List.getElem_toArray, List.getElem_cons_zero, List.getElem_cons_succ])
                  go_simp
                (try simp only [List.getElem_toArray, List.getElem_cons_zero, List.getElem_cons_succ])
                (try simp only [Act.put, List.setIfInBounds_toArray, List.set_cons_zero, List.set_cons_succ])
                refine wpAnyH_take (i := 10) (oi := _) (v := .agg #[.slice b va.length cb, .slice c la.length cc]) rfl (by kernel_rfl) (by kernel_rfl) (by kernel_rfl) (fun _ _ _ h => h) (Or.inl ⟨by rfl, ?_⟩) (by assumption) ?_
                · intro u' hSu
                  (try simp only [List.getElem_toArray, List.getElem_cons_zero, List.getElem_cons_succ])
                  obtain ⟨s1, s2, s3, s4⟩ := hSu
                  go_simp
                (try simp only [List.getElem_toArray, List.getElem_cons_zero, List.getElem_cons_succ])
                (try simp only [Act.put, List.setIfInBounds_toArray, List.set_cons_zero, List.set_cons_succ])
                refine wpAnyH_take (i := 12) (oi := _) (v := .slice a sizes.length ca) rfl (by kernel_rfl) (by kernel_rfl) (by kernel_rfl) (fun _ _ _ h => h) (Or.inl ⟨by rfl, ?_⟩) (by assumption) ?_
                · intro u' hSu
                  (try simp only [List.getElem_toArray, List.getElem_cons_zero, List.getElem_cons_succ])
                  go_simp
                (try simp only [List.getElem_toArray, List.getElem_cons_zero, List.getElem_cons_succ])
                (try simp only [Act.put, List.setIfInBounds_toArray, List.set_cons_zero, List.set_cons_succ])
                refine wpAnyH_take (i := 13) (oi := _) (v := .agg #[.slice b va.length cb, .slice c la.length cc]) rfl (by kernel_rfl) (by kernel_rfl) (by kernel_rfl) (fun _ _ _ h => h) (Or.inl ⟨by rfl, ?_⟩) (by assumption) ?_
                · intro u' hSu
                  (try simp only [List.getElem_toArray, List.getElem_cons_zero, List.getElem_cons_succ])
                  obtain ⟨s1, s2, s3, s4⟩ := hSu
                  go_simp
                (try simp only [List.getElem_toArray, List.getElem_cons_zero, List.getElem_cons_succ])
                (try simp only [Act.put, List.setIfInBounds_toArray, List.set_cons_zero, List.set_cons_succ])
                refine wpAnyH_ready (rs := [11]) (by kernel_rfl) (by simp) (AllReadyH.cons rfl ?_ (AllReadyH.nil))
                · intro K' hK'
                  (try simp only [List.getElem_toArray, List.getElem_cons_zero, List.getElem_cons_succ])
                  go_simp
                  refine (HK1.out _ hD.2.2).mono ?_
                  rintro e z4 ⟨rfl, hb⟩
                  replace hD := hD.step hb
                  refine hK'.out _ _ ⟨hD.1.c0, hD.1.c1, hD.2.1.c0, hD.2.1.c1⟩ (fun hSe => ?_)
                  clear hK' K' hSd
                  have hSd := hSe
                  clear hSe hb
                  (try simp only [List.getElem_toArray, List.getElem_cons_zero, List.getElem_cons_succ])
                  (try simp only [Act.put, List.setIfInBounds_toArray, List.set_cons_zero, List.set_cons_succ])
                  refine wpAnyH_ready (rs := [14]) (by kernel_rfl) (by simp) (AllReadyH.cons rfl ?_ (AllReadyH.nil))
                  · intro K' hK'
                    (try simp only [List.getElem_toArray, List.getElem_cons_zero, List.getElem_cons_succ])
                    go_simp
                    refine (HK2.out _ hD.2.2).mono ?_
                    rintro e z5 ⟨rfl, hb⟩
                    replace hD := hD.step hb
                    refine hK'.out _ _ ⟨hD.1.c0, hD.1.c1, hD.2.1.c0, hD.2.1.c1⟩ (fun hSe => ?_)
                    clear hK' K' hSd
                    have hSd := hSe
                    clear hSe hb
                    (try simp only [List.getElem_toArray, List.getElem_cons_zero, List.getElem_cons_succ])
                    (try simp only [Act.put, List.setIfInBounds_toArray, List.set_cons_zero, List.set_cons_succ])
                    refine wpAnyH_take (i := 15) (oi := _) (v := .bool false) rfl (by kernel_rfl) (by kernel_rfl) (by kernel_rfl) (fun _ _ _ h => h) (Or.inl ⟨by rfl, ?_⟩) (by assumption) ?_
                    · intro u' hSu
                      (try simp only [List.getElem_toArray, List.getElem_cons_zero, List.getElem_cons_succ])
                      go_simp
                    (try simp only [List.getElem_toArray, List.getElem_cons_zero, List.getElem_cons_succ])
                    (try simp only [Act.put, List.setIfInBounds_toArray, List.set_cons_zero, List.set_cons_succ])
                    refine wpAnyH_take (i := 16) (oi := _) (v := .bool false) rfl (by kernel_rfl) (by kernel_rfl) (by kernel_rfl) (fun _ _ _ h => h) (Or.inl ⟨by rfl, ?_⟩) (by assumption) ?_
                    · intro u' hSu
                      (try simp only [List.getElem_toArray, List.getElem_cons_zero, List.getElem_cons_succ])
                      go_simp
                    (try simp only [List.getElem_toArray, List.getElem_cons_zero, List.getElem_cons_succ])
                    (try simp only [Act.put, List.setIfInBounds_toArray, List.set_cons_zero, List.set_cons_succ])
                    refine wpAnyH_done (by kernel_rfl) ?_ _
                    clear hSd
                    have c0 := hD.1.c0
                    have c1 := hD.1.c1
                    have c2 := hD.2.1.c0
                    have c3 := hD.2.1.c1
                    go_wp2_with fail
                    refine (HI1.out _ hD.2.2).mono ?_
                    rintro e z6 ⟨rfl, hb⟩
                    replace hD := hD.step hb
                    clear c0 c1 c2 c3 hb
                    have c0 := hD.1.c0
                    have c1 := hD.1.c1
                    have c2 := hD.2.1.c0
                    have c3 := hD.2.1.c1
                    go_wp2_with fail
                    refine (HI2.out _ hD.2.2).mono ?_
                    rintro e z7 ⟨rfl, hb⟩
                    replace hD := hD.step hb
                    clear c0 c1 c2 c3 hb
                    have c0 := hD.1.c0
                    have c1 := hD.1.c1
                    have c2 := hD.2.1.c0
                    have c3 := hD.2.1.c1
                    go_wp2_with fail
                    refine (HW1.out _ hD.2.2).mono ?_
                    rintro e z8 ⟨p1, cp1, rfl, hi1, hb⟩
                    replace hD := hD.step hb
                    clear c0 c1 c2 c3 hb
                    have c0 := hD.1.c0
                    have c1 := hD.1.c1
                    have c2 := hD.2.1.c0
                    have c3 := hD.2.1.c1
                    go_wp2_with fail
                    refine (HW2.out _ hD.2.2).mono ?_
                    rintro e z9 ⟨p2, cp2, rfl, hi2, hb⟩
                    replace hD := hD.step hb
                    replace hi1 := hi1.below hb
                    clear c0 c1 c2 c3 hb
                    go_wp2_with fail
                    refine (by have h := sameInts_any p1 p2 cp1 cp2 (iL lW) z9 hi1 hi2 (by rw [iL_length]; omega); rw [iL_length] at h; exact h : Calls Tryz.prog 16 #[.slice p1 lW.length cp1, .slice p2 lW.length cp2] z9 fun e w' => e = .returned (.bool true) ∧ Below z9.heap.size z9 w').mono ?_
                    rintro e z10 ⟨rfl, hb⟩
                    replace hD := hD.step hb
                    clear hi1 hi2 hb
                    have c0 := hD.1.c0
                    have c1 := hD.1.c1
                    have c2 := hD.2.1.c0
                    have c3 := hD.2.1.c1
                    go_wp2_with fail
                    refine (HP1.out _ hD.2.2).mono ?_
                    rintro e z11 ⟨⟨p1, q1, cp1, cq1, rfl, hi1, hf1⟩, hb⟩
                    replace hD := hD.step hb
                    clear c0 c1 c2 c3 hb
                    have hl23 := hD.2.1.lt
                    have h23 := TBox.at (w := z11) rfl (.slice p1 V1.length cp1) (.slice q1 L1.length cq1)
                    have hb : Below z11.heap.size z11 (z11.alloc (TC (.slice p1 V1.length cp1) (.slice q1 L1.length cq1))) := (Below.refl _ z11).alloc (Nat.le_refl _) _
                    replace hD := hD.step hb
                    replace hi1 := hi1.below hb
                    replace hf1 := hf1.below hb
                    clear hb
                    have c0 := hD.1.c0
                    have c1 := hD.1.c1
                    have c2 := hD.2.1.c0
                    have c3 := hD.2.1.c1
                    go_wp2_with fail
                    clear c0 c1 c2 c3
                    generalize (z11.alloc (TC (.slice p1 V1.length cp1) (.slice q1 L1.length cq1))) = z12 at *
                    generalize z11.heap.size = B23 at *
                    refine (HP2.out _ hD.2.2).mono ?_
                    rintro e z13 ⟨⟨p2, q2, cp2, cq2, rfl, hi2, hf2⟩, hb⟩
                    replace hD := hD.step hb
                    replace hi1 := hi1.below hb
                    replace hf1 := hf1.below hb
                    replace h23 := h23.below hb h23.lt
                    clear hb
                    have h24 := TBox.at (w := z13) rfl (.slice p2 V1.length cp2) (.slice q2 L1.length cq2)
                    have hb : Below z13.heap.size z13 (z13.alloc (TC (.slice p2 V1.length cp2) (.slice q2 L1.length cq2))) := (Below.refl _ z13).alloc (Nat.le_refl _) _
                    have hl24 : w.heap.size + 1 < z13.heap.size := hD.2.1.lt
                    have hne : B23 ≠ z13.heap.size := by have := h23.lt; omega
                    replace hD := hD.step hb
                    replace hi1 := hi1.below hb
                    replace hf1 := hf1.below hb
                    replace hi2 := hi2.below hb
                    replace hf2 := hf2.below hb
                    replace h23 := h23.below hb h23.lt
                    clear hb
                    have c0 := h23.c0
                    have c1 := h23.c1
                    have c2 := h24.c0
                    have c3 := h24.c1
                    go_wp2_with fail
                    clear c0 c1 c2 c3
                    generalize (z13.alloc (TC (.slice p2 V1.length cp2) (.slice q2 L1.length cq2))) = z14 at *
                    generalize z13.heap.size = B24 at *
                    refine (sameTable_any p1 q1 p2 q2 cp1 cq1 cp2 cq2 V1 L1 _ hi1 hf1 hi2 hf2 n1 m1).mono ?_
                    rintro e z15 ⟨rfl, hb⟩
                    replace hD := hD.step hb
                    replace h23 := h23.below hb h23.lt
                    replace h24 := h24.below hb h24.lt
                    clear hb hi1 hi2 hf1 hf2 HP1 HP2 n1 m1
                    have HI0 : Hid (DH w z15 (.slice b va.length cb) (.slice c la.length cc) (.slice b' vb.length cb') (.slice c' lb.length cc') ∧ TBox z15 B23 (.slice p1 V1.length cp1) (.slice q1 L1.length cq1) ∧ TBox z15 B24 (.slice p2 V1.length cp2) (.slice q2 L1.length cq2) ∧ SlV (.slice p1 V1.length cp1) ∧ SlV (.slice q1 L1.length cq1) ∧ SlV (.slice p2 V1.length cp2) ∧ SlV (.slice q2 L1.length cq2)) := ⟨hD, h23, h24, slv _ _ _, slv _ _ _, slv _ _ _, slv _ _ _⟩
                    clear hD h23 h24
                    go_wp2_with fail
                    go_loopw [25] (fun iv wr => ∃ (i : Nat) (x23 y23 x24 y24 : Value), i ≤ 2 ∧ iv = .int .i64 i ∧ Hid (DH w wr (.slice b va.length cb) (.slice c la.length cc) (.slice b' vb.length cb') (.slice c' lb.length cc') ∧ TBox wr B23 x23 y23 ∧ TBox wr B24 x24 y24 ∧ SlV x23 ∧ SlV y23 ∧ SlV x24 ∧ SlV y24)) (fun iv _ => 2 - (intOf iv).toNat)
                    case atStart => exact ⟨0, _, _, _, _, by omega, rfl, HI0⟩
                    case round =>
                      obtain ⟨i, x23, y23, x24, y24, hi, rfl, HI⟩ := hrel
                      clear HI0
                      obtain ⟨hD, h23, h24, s23, t23, s24, t24⟩ := HI.out
                      clear HI
                      obtain ⟨a23, b23, d23, rfl⟩ := s23
                      obtain ⟨a23', b23', d23', rfl⟩ := t23
                      obtain ⟨a24, b24, d24, rfl⟩ := s24
                      obtain ⟨a24', b24', d24', rfl⟩ := t24
                      have s23 := slv a23 b23 d23
                      have t23 := slv a23' b23' d23'
                      have s24 := slv a24 b24 d24
                      have t24 := slv a24' b24' d24'
                      by_cases hlt : i < 2
                      · obtain ⟨mb, hmb1⟩ : ∃ mb, ((i : Int) == 1) = mb := ⟨_, rfl⟩
                        have hmb2 : decide ((i : Int) = 1) = mb := by rw [← hmb1]; rfl
                        have hmb3 : (decide (i = 1)) = mb := by rw [← hmb2]; exact decide_eq_decide.2 ⟨fun h => by omega, fun h => by omega⟩
                        obtain ⟨V2, L2, k2, n2, m2, hO1, hO2⟩ := HOUT.out mb
                        have HO1 := hid hO1
                        have HO2 := hid hO2
                        clear hO1 hO2
                        have c0 := hD.1.c0
                        have c1 := hD.1.c1
                        go_wp2_with fail
                        clear c0 c1
                        refine (HO1.out _ hD.2.2).mono ?_
                        rintro e ya ⟨⟨p1, q1, cp1, cq1, rfl, hi1, hf1⟩, hb⟩
                        replace hD := hD.step hb
                        replace h23 := h23.below hb h23.lt
                        replace h24 := h24.below hb h24.lt
                        clear hb
                        obtain ⟨k0, j0, f0, f1⟩ := h23.facts
                        replace hi1 := hi1.putT h23 s23 t23 (slv p1 V2.length cp1) (.slice q1 L2.length cq1)
                        replace hf1 := hf1.putT h23 s23 t23 (slv p1 V2.length cp1) (.slice q1 L2.length cq1)
                        replace h24 := (h24.off B23 0 (.slice p1 V2.length cp1) (Ne.symm hne)).off B23 1 (.slice q1 L2.length cq1) (Ne.symm hne)
                        replace h23 := h23.put (.slice p1 V2.length cp1) (.slice q1 L2.length cq1)
                        replace hD := hD.put B23 (.slice p1 V2.length cp1) (.slice q1 L2.length cq1) hl23
                        have c0 := hD.1.c0
                        have c1 := hD.1.c1
                        go_wp2_with fail
                        clear c0 c1 k0 j0 f0 f1
                        generalize ((ya.setCell ⟨B23, 0, none⟩ (.slice p1 V2.length cp1)).setCell ⟨B23, 1, none⟩ (.slice q1 L2.length cq1)) = yb at *
                        refine (HO2.out _ hD.2.2).mono ?_
                        rintro e yc ⟨⟨p2, q2, cp2, cq2, rfl, hi2, hf2⟩, hb⟩
                        replace hD := hD.step hb
                        replace h23 := h23.below hb h23.lt
                        replace h24 := h24.below hb h24.lt
                        replace hi1 := hi1.below hb
                        replace hf1 := hf1.below hb
                        clear hb
                        obtain ⟨k0, j0, f0, f1⟩ := h24.facts
                        replace hi1 := hi1.putT h24 s24 t24 (slv p2 V2.length cp2) (.slice q2 L2.length cq2)
                        replace hf1 := hf1.putT h24 s24 t24 (slv p2 V2.length cp2) (.slice q2 L2.length cq2)
                        replace hi2 := hi2.putT h24 s24 t24 (slv p2 V2.length cp2) (.slice q2 L2.length cq2)
                        replace hf2 := hf2.putT h24 s24 t24 (slv p2 V2.length cp2) (.slice q2 L2.length cq2)
                        replace h23 := (h23.off B24 0 (.slice p2 V2.length cp2) hne).off B24 1 (.slice q2 L2.length cq2) hne
                        replace h24 := h24.put (.slice p2 V2.length cp2) (.slice q2 L2.length cq2)
                        replace hD := hD.put B24 (.slice p2 V2.length cp2) (.slice q2 L2.length cq2) hl24
                        clear s23 t23 s24 t24
                        have c0 := h23.c0
                        have c1 := h23.c1
                        have c2 := h24.c0
                        have c3 := h24.c1
                        go_wp2_with fail
                        clear c0 c1 c2 c3 k0 j0 f0 f1
                        generalize ((yc.setCell ⟨B24, 0, none⟩ (.slice p2 V2.length cp2)).setCell ⟨B24, 1, none⟩ (.slice q2 L2.length cq2)) = yd at *
                        refine (sameTable_any p1 q1 p2 q2 cp1 cq1 cp2 cq2 V2 L2 _ hi1 hf1 hi2 hf2 n2 m2).mono ?_
                        rintro e ye ⟨rfl, hb⟩
                        replace hD := hD.step hb
                        replace h23 := h23.below hb h23.lt
                        replace h24 := h24.below hb h24.lt
                        clear hb hi1 hi2 hf1 hf2
                        have s23 := slv p1 V2.length cp1
                        have t23 := slv q1 L2.length cq1
                        have s24 := slv p2 V2.length cp2
                        have t24 := slv q2 L2.length cq2
                        have HNX : Hid (DH w ye (.slice b va.length cb) (.slice c la.length cc) (.slice b' vb.length cb') (.slice c' lb.length cc') ∧ TBox ye B23 (.slice p1 V2.length cp1) (.slice q1 L2.length cq1) ∧ TBox ye B24 (.slice p2 V2.length cp2) (.slice q2 L2.length cq2) ∧ SlV (.slice p1 V2.length cp1) ∧ SlV (.slice q1 L2.length cq1) ∧ SlV (.slice p2 V2.length cp2) ∧ SlV (.slice q2 L2.length cq2)) := ⟨hD, h23, h24, s23, t23, s24, t24⟩
                        clear hD h23 h24 s23 t23 s24 t24
                        go_wp2
                        go_roundw
                        case rel => exact ⟨i + 1, _, _, _, _, by omega, by go_num, HNX⟩
                        case measure => simp [intOf]; omega
                      · obtain rfl : i = 2 := by omega
                        have c0 := hD.1.c0
                        have c1 := hD.1.c1
                        go_wp2_with fail
                        clear c0 c1
                        refine (HF1.out _ hD.2.2).mono ?_
                        rintro e xa ⟨⟨p1, q1, cp1, cq1, rfl, hi1, hf1⟩, hb⟩
                        replace hD := hD.step hb
                        replace h23 := h23.below hb h23.lt
                        replace h24 := h24.below hb h24.lt
                        clear hb
                        obtain ⟨k0, j0, f0, f1⟩ := h23.facts
                        replace hi1 := hi1.putT h23 s23 t23 (slv p1 V3.length cp1) (.slice q1 L3.length cq1)
                        replace hf1 := hf1.putT h23 s23 t23 (slv p1 V3.length cp1) (.slice q1 L3.length cq1)
                        replace h24 := (h24.off B23 0 (.slice p1 V3.length cp1) (Ne.symm hne)).off B23 1 (.slice q1 L3.length cq1) (Ne.symm hne)
                        replace h23 := h23.put (.slice p1 V3.length cp1) (.slice q1 L3.length cq1)
                        replace hD := hD.put B23 (.slice p1 V3.length cp1) (.slice q1 L3.length cq1) hl23
                        have c0 := hD.1.c0
                        have c1 := hD.1.c1
                        go_wp2_with fail
                        clear c0 c1 k0 j0 f0 f1
                        generalize ((xa.setCell ⟨B23, 0, none⟩ (.slice p1 V3.length cp1)).setCell ⟨B23, 1, none⟩ (.slice q1 L3.length cq1)) = xb at *
                        refine (HF2.out _ hD.2.2).mono ?_
                        rintro e xc ⟨⟨p2, q2, cp2, cq2, rfl, hi2, hf2⟩, hb⟩
                        replace hD := hD.step hb
                        replace h23 := h23.below hb h23.lt
                        replace h24 := h24.below hb h24.lt
                        replace hi1 := hi1.below hb
                        replace hf1 := hf1.below hb
                        clear hb
                        obtain ⟨k0, j0, f0, f1⟩ := h24.facts
                        replace hi1 := hi1.putT h24 s24 t24 (slv p2 V3.length cp2) (.slice q2 L3.length cq2)
                        replace hf1 := hf1.putT h24 s24 t24 (slv p2 V3.length cp2) (.slice q2 L3.length cq2)
                        replace hi2 := hi2.putT h24 s24 t24 (slv p2 V3.length cp2) (.slice q2 L3.length cq2)
                        replace hf2 := hf2.putT h24 s24 t24 (slv p2 V3.length cp2) (.slice q2 L3.length cq2)
                        replace h23 := (h23.off B24 0 (.slice p2 V3.length cp2) hne).off B24 1 (.slice q2 L3.length cq2) hne
                        replace h24 := h24.put (.slice p2 V3.length cp2) (.slice q2 L3.length cq2)
                        replace hD := hD.put B24 (.slice p2 V3.length cp2) (.slice q2 L3.length cq2) hl24
                        clear s23 t23 s24 t24
                        have c0 := h23.c0
                        have c1 := h23.c1
                        have c2 := h24.c0
                        have c3 := h24.c1
                        go_wp2_with fail
                        clear c0 c1 c2 c3 k0 j0 f0 f1
                        generalize ((xc.setCell ⟨B24, 0, none⟩ (.slice p2 V3.length cp2)).setCell ⟨B24, 1, none⟩ (.slice q2 L3.length cq2)) = xd at *
                        refine (sameTable_any p1 q1 p2 q2 cp1 cq1 cp2 cq2 V3 L3 _ hi1 hf1 hi2 hf2 n3 m3).mono ?_
                        rintro e xe ⟨rfl, hb⟩
                        replace hD := hD.step hb
                        replace h23 := h23.below hb h23.lt
                        replace h24 := h24.below hb h24.lt
                        clear hb hi1 hi2 hf1 hf2
                        have s23 := slv p1 V3.length cp1
                        have t23 := slv q1 L3.length cq1
                        have s24 := slv p2 V3.length cp2
                        have t24 := slv q2 L3.length cq2
                        have c0 := hD.1.c0
                        have c1 := hD.1.c1
                        go_wp2_with fail
                        clear c0 c1
                        refine (HN1.out _ hD.2.2).mono ?_
                        rintro e va ⟨⟨p1, q1, cp1, cq1, rfl, hi1, hf1⟩, hb⟩
                        replace hD := hD.step hb
                        replace h23 := h23.below hb h23.lt
                        replace h24 := h24.below hb h24.lt
                        clear hb
                        obtain ⟨k0, j0, f0, f1⟩ := h23.facts
                        replace hi1 := hi1.putT h23 s23 t23 (slv p1 V4.length cp1) (.slice q1 L4.length cq1)
                        replace hf1 := hf1.putT h23 s23 t23 (slv p1 V4.length cp1) (.slice q1 L4.length cq1)
                        replace h24 := (h24.off B23 0 (.slice p1 V4.length cp1) (Ne.symm hne)).off B23 1 (.slice q1 L4.length cq1) (Ne.symm hne)
                        replace h23 := h23.put (.slice p1 V4.length cp1) (.slice q1 L4.length cq1)
                        replace hD := hD.put B23 (.slice p1 V4.length cp1) (.slice q1 L4.length cq1) hl23
                        have c0 := hD.1.c0
                        have c1 := hD.1.c1
                        go_wp2_with fail
                        clear c0 c1 k0 j0 f0 f1
                        generalize ((va.setCell ⟨B23, 0, none⟩ (.slice p1 V4.length cp1)).setCell ⟨B23, 1, none⟩ (.slice q1 L4.length cq1)) = vb at *
                        refine (HN2.out _ hD.2.2).mono ?_
                        rintro e vc ⟨⟨p2, q2, cp2, cq2, rfl, hi2, hf2⟩, hb⟩
                        replace hD := hD.step hb
                        replace h23 := h23.below hb h23.lt
                        replace h24 := h24.below hb h24.lt
                        replace hi1 := hi1.below hb
                        replace hf1 := hf1.below hb
                        clear hb
                        obtain ⟨k0, j0, f0, f1⟩ := h24.facts
                        replace hi1 := hi1.putT h24 s24 t24 (slv p2 V4.length cp2) (.slice q2 L4.length cq2)
                        replace hf1 := hf1.putT h24 s24 t24 (slv p2 V4.length cp2) (.slice q2 L4.length cq2)
                        replace hi2 := hi2.putT h24 s24 t24 (slv p2 V4.length cp2) (.slice q2 L4.length cq2)
                        replace hf2 := hf2.putT h24 s24 t24 (slv p2 V4.length cp2) (.slice q2 L4.length cq2)
                        replace h23 := (h23.off B24 0 (.slice p2 V4.length cp2) hne).off B24 1 (.slice q2 L4.length cq2) hne
                        replace h24 := h24.put (.slice p2 V4.length cp2) (.slice q2 L4.length cq2)
                        replace hD := hD.put B24 (.slice p2 V4.length cp2) (.slice q2 L4.length cq2) hl24
                        clear s23 t23 s24 t24
                        have c0 := hD.1.c0
                        have c1 := hD.1.c1
                        go_wp2_with fail
                        clear c0 c1 k0 j0 f0 f1
                        generalize ((vc.setCell ⟨B24, 0, none⟩ (.slice p2 V4.length cp2)).setCell ⟨B24, 1, none⟩ (.slice q2 L4.length cq2)) = vd at *
                        refine (HB1.out _ hD.2.2).mono ?_
                        rintro e g1 ⟨p5, cp5, rfl, hi5, hb⟩
                        replace hD := hD.step hb
                        replace h23 := h23.below hb h23.lt
                        replace h24 := h24.below hb h24.lt
                        replace hi1 := hi1.below hb
                        replace hf1 := hf1.below hb
                        replace hi2 := hi2.below hb
                        replace hf2 := hf2.below hb
                        clear hb
                        have h26 := Box.new g1 q5 x5 y5
                        have hb : Below g1.heap.size g1 (g1.alloc (FC q5 x5 y5)) := (Below.refl _ g1).alloc (Nat.le_refl _) _
                        replace hD := hD.step hb
                        replace h23 := h23.below hb h23.lt
                        replace h24 := h24.below hb h24.lt
                        replace hi1 := hi1.below hb
                        replace hf1 := hf1.below hb
                        replace hi2 := hi2.below hb
                        replace hf2 := hf2.below hb
                        replace hi5 := hi5.below hb
                        clear hb
                        have c0 := hD.1.c0
                        have c1 := hD.1.c1
                        go_wp2_with fail
                        clear c0 c1
                        generalize (g1.alloc (FC q5 x5 y5)) = g2 at *
                        generalize g1.heap.size = B26 at *
                        refine (HB2.out _ hD.2.2).mono ?_
                        rintro e g3 ⟨p6, cp6, rfl, hi6, hb⟩
                        replace hD := hD.step hb
                        replace h23 := h23.below hb h23.lt
                        replace h24 := h24.below hb h24.lt
                        replace hi1 := hi1.below hb
                        replace hf1 := hf1.below hb
                        replace hi2 := hi2.below hb
                        replace hf2 := hf2.below hb
                        replace hi5 := hi5.below hb
                        replace h26 := h26.below hb h26.lt
                        clear hb
                        have h27 := Box.new g3 q5 x5 y5
                        have hb : Below g3.heap.size g3 (g3.alloc (FC q5 x5 y5)) := (Below.refl _ g3).alloc (Nat.le_refl _) _
                        replace hD := hD.step hb
                        replace h23 := h23.below hb h23.lt
                        replace h24 := h24.below hb h24.lt
                        replace hi1 := hi1.below hb
                        replace hf1 := hf1.below hb
                        replace hi2 := hi2.below hb
                        replace hf2 := hf2.below hb
                        replace hi5 := hi5.below hb
                        replace hi6 := hi6.below hb
                        replace h26 := h26.below hb h26.lt
                        clear hb
                        have c0 := h23.c0
                        have c1 := h23.c1
                        have c2 := h24.c0
                        have c3 := h24.c1
                        go_wp2_with fail
                        clear c0 c1 c2 c3
                        generalize (g3.alloc (FC q5 x5 y5)) = g4 at *
                        generalize g3.heap.size = B27 at *
                        refine (sameTable_any p1 q1 p2 q2 cp1 cq1 cp2 cq2 V4 L4 _ hi1 hf1 hi2 hf2 n4 m4).mono ?_
                        rintro e g5 ⟨rfl, hb⟩
                        replace hD := hD.step hb
                        replace hi5 := hi5.below hb
                        replace hi6 := hi6.below hb
                        replace h26 := h26.below hb h26.lt
                        replace h27 := h27.below hb h27.lt
                        clear hb hi1 hf1 hi2 hf2
                        go_wp2_with fail
                        refine (sameInts_any p5 p6 cp5 cp6 V5 _ hi5 hi6 n5).mono ?_
                        rintro e g6 ⟨rfl, hb⟩
                        replace hD := hD.step hb
                        replace h26 := h26.below hb h26.lt
                        replace h27 := h27.below hb h27.lt
                        clear hb hi5 hi6
                        obtain ⟨c0, c1, c2, -⟩ := h26.facts
                        obtain ⟨e0, e1, e2, -⟩ := h27.facts
                        go_wp2_with fail
                        refine (HB3.out _).mono ?_
                        rintro e g7 ⟨rfl, hb⟩
                        replace hD := hD.step hb
                        go_wp2
                        go_ret
                        exact ⟨rfl, hD.2.2⟩
end Go.Proofs.YtknlhejhnopnaaaGreatDoor
