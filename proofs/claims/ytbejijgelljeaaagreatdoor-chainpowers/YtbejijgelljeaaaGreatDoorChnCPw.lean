/- solve of package chain. -/
import Derived.Test.YtbejijgelljeaaaGreatDoorChnBPw
namespace Go.Proofs.YtbejijgelljeaaaGreatDoor
open Go.RowKit Go.Shelf
theorem grown_set (U : World) (S j : Nat) (v : Value) : U.grownBy (U.setCell ⟨S, j, none⟩ v) (some S) := ⟨rfl, rfl, rfl, by simp [World.setCell], fun k _ hk => Below.heap_setCell U ⟨S, j, none⟩ v k fun e => hk (by rw [e])⟩
/-- Equations under way, and the list that the solution is written into. -/
structure SvS (w : World) (B n G : Nat) (g c : Nat → Nat) (M : Nat → Nat → Rat) (S : Nat) (l : List Fr) (U : World) : Prop where
  eq : EqS B n (n + 1) G g c M U
  bel : Below B w U
  sol : RowF U S l
  far : ∀ k, k < n → g k ≠ S
theorem SvS.step {w U U' : World} {B n G S : Nat} {g c : Nat → Nat} {M : Nat → Nat → Rat} {l : List Fr} (h : SvS w B n G g c M S l U) (hB : B ≤ w.heap.size) (hb : Below U.heap.size U U') : SvS w B n G g c M S l U' := ⟨h.eq.step hb, h.bel.trans (hb.mono (Nat.le_trans hB h.bel.size)), h.sol.below hb h.sol.lt, h.far⟩
theorem SvS.drew {w U : World} {B n G S : Nat} {g c : Nat → Nat} {M : Nat → Nat → Rat} {l : List Fr} (h : SvS w B n G g c M S l U) (hB : B ≤ w.heap.size) : SvS w B n G g c M S l U.drew := h.step hB (Below.refl _ _).drew
theorem SvS.congr {w U : World} {B n G S : Nat} {g c : Nat → Nat} {M M' : Nat → Nat → Rat} {l : List Fr} (h : SvS w B n G g c M S l U) (e : ∀ i, i < n → M i = M' i) : SvS w B n G g c M' S l U := ⟨h.eq.congr e, h.bel, h.sol, h.far⟩
theorem SvS.write {w U U' : World} {B n G S : Nat} {g c : Nat → Nat} {M : Nat → Nat → Rat} {l : List Fr} (h : SvS w B n G g c M S l U) (hB : B ≤ w.heap.size) {k : Nat} {f : Nat → Rat} (hk : k < n) (hg : U.grownBy U' (some (g k))) (hr : EqR U' B (g k) (n + 1) (c k) f) : SvS w B n G g c (fun i => if i = k then f else M i) S l U' :=
  ⟨h.eq.write hk hg hr, h.bel.trans (h.eq.from hk hg (Nat.le_trans hB h.bel.size)), (hg.block S h.sol.lt fun e => h.far k hk (Option.some.inj e).symm).trans h.sol, h.far⟩
theorem SvS.put {w U : World} {B n G S : Nat} {g c : Nat → Nat} {M : Nat → Nat → Rat} {l : List Fr} (h : SvS w B n G g c M S l U) (hS : B ≤ S) (i : Nat) (f : Fr) : SvS w B n G g c M S (l.set i f) (((U.setCell ⟨S, i * 3, none⟩ (.bool f.1)).setCell ⟨S, i * 3 + 1, none⟩ (.string f.2.1)).setCell ⟨S, i * 3 + 2, none⟩ (.string f.2.2)) := by
  have hg := grown_then (grown_then (grown_set U S (i * 3) (.bool f.1)) (grown_set _ S (i * 3 + 1) (.string f.2.1))) (grown_set _ S (i * 3 + 2) (.string f.2.2))
  have hGS : G ≠ S := fun e => by
    have h1 := h.eq.top
    have h3 := h.sol
    rw [RowF, ← e] at h3
    rw [RowV, h3] at h1
    have h2 := Option.some.inj h1
    injection h2 with _ h4
    exact absurd h4 (by decide)
  exact ⟨⟨(hg.block G h.eq.top.lt fun e => hGS (Option.some.inj e)).trans h.eq.top, fun k hk => (h.eq.row k hk).kept hg (h.far k hk), h.eq.inj, h.eq.gl⟩, ((h.bel.setCell (p := ⟨S, i * 3, none⟩) hS _).setCell (p := ⟨S, i * 3 + 1, none⟩) hS _).setCell (p := ⟨S, i * 3 + 2, none⟩) hS _, h.sol.put i f, h.far⟩
/-- What the calls of the step k ask of the numbers. -/
structure SvK (n b k : Nat) (M : Nat → Nat → Rat) : Prop where
  piv : M k k ≠ 0
  row : ∀ i c, i < n → c ≤ n → qw (M i c) ≤ 40000
  quo : ∀ c, c ≤ n → qw (M k c / M k k) ≤ 40000
  tim : ∀ i c, i < n → c ≤ n → qw (M k c / M k k * M i k) ≤ 40000
theorem svK_of {n b : Nat} {M : Nat → Nat → Rat} (hb : ∀ i c, i < n → c ≤ n → Fits b (M i c)) (hp : ∀ j, j < n → elm M j j j ≠ 0) (hs : bE b n ≤ 10000) {k : Nat} (hk : k < n) : SvK n b k (elm M k) := by
  have h0 := elm_fits hb hp k (by omega)
  have hk1 : 4 * bE b k + 1 ≤ 10000 := Nat.le_trans (bE_mono b (show k + 1 ≤ n from hk)) hs
  refine ⟨hp k hk, fun i c hi hc => ?_, fun c hc => ?_, fun i c hi hc => ?_⟩
  · have := fits_qw (h0 i c hi hc); omega
  · have := fits_qw (fits_divq (h0 k c hk hc) (h0 k k hk (by omega)) (hp k hk)); omega
  · have := fits_qw (fits_tim (fits_divq (h0 k c hk hc) (h0 k k hk (by omega)) (hp k hk)) (h0 i k hi (by omega))); omega
theorem elmP_at {k o : Nat} {M : Nat → Nat → Rat} (h : ¬ o = k) : elmP k o M o = M o := by
  funext c
  show (if o = k then _ else if o < o then _ else _) = _
  rw [if_neg h, if_neg (Nat.lt_irrefl _)]
theorem elmP_piv {k o : Nat} {M : Nat → Nat → Rat} : elmP k o M k = fun c => M k c / M k k := by
  funext c
  show (if k = k then _ else _) = _
  rw [if_pos rfl]
set_option maxRecDepth 100000 in
set_option maxHeartbeats 4000000 in
theorem chSolve_any (B n G cG b : Nat) (g c : Nat → Nat) (M : Nat → Nat → Rat) (w : World) (h : EqS B n (n + 1) G g c M w) (hB : B ≤ w.heap.size) (hb : ∀ i c, i < n → c ≤ n → Fits b (M i c)) (hp : ∀ j, j < n → elm M j j j ≠ 0) (hs : bE b n ≤ 10000) (hn : n ≤ 10) :
    Calls Tryz.prog 61 #[.slice (some ⟨G, 0, none⟩) n cG] w fun e w' => ∃ S, e = .returned (.slice (some ⟨S, 0, none⟩) n n) ∧ w.heap.size ≤ S ∧ RowF w' S (lF n fun i => elm M n i n) ∧ Below B w w' := by
  obtain ⟨i0, hi0, hz0, hz1, hz2⟩ := info_parts Tryz.infoFrac
  have HSVK : Hid (∀ k, k < n → SvK n b k (elm M k)) := fun k hk => svK_of hb hp hs hk
  have HEQ := hid h
  have HIN := hid h.inj
  clear h hb hp hs
  have hfl := lF_length n fun i => elm M n i n
  have HFG := hid (fun i (hi : i < n) => lF_get? (f := fun i => elm M n i n) hi)
  generalize hFLe : (lF n fun i => elm M n i n) = FL at *
  clear hFLe
  go_enter Tryz.func61, Tryz.ntmps61
  go_upto_region 3 with (at_make; refine wpList_make_full _ rfl _ _ 27 rfl w.heap.size 33 i0 (.agg #[.bool false, .string ⟨#[]⟩, .string ⟨#[]⟩]) 3 Tryz.underlying27 hi0 hz0 hz1 .i64 .i64 _ _ n rfl rfl (by go_num) (by go_num) (by rw [hz2]; omega) (by unfold maxLen; omega) (Nat.le_refl _) ?_; intro w2 hown2 hgrow2)
  have hb2 := block_of_own3 hown2
  rw [made_frs] at hb2
  have hB2 : Below w.heap.size w w2 := (Below.refl _ w).grown hgrow2 (Nat.le_refl _) (fun k e => by cases e)
  have HK0 : Hid (SvS w B n G g c (elm M 0) w.heap.size (partF FL 0) w2) := ⟨HEQ.out.step hB2, hB2.mono hB, by rw [partF_zero, hfl]; exact hb2, fun k hk e => by have := (HEQ.out.row k hk).lt; omega⟩
  clear hown2 hgrow2 hb2 hB2 HEQ
  go_wp2_with fail
  go_loopw [13] (fun iv wr => ∃ k : Nat, k ≤ n ∧ iv = .int .i64 k ∧ Hid (SvS w B n G g c (elm M k) w.heap.size (partF FL 0) wr)) (fun iv _ => n - (intOf iv).toNat)
  case atStart => exact ⟨0, Nat.zero_le _, rfl, HK0⟩
  case round =>
    obtain ⟨k, hk, rfl, HK⟩ := hrel
    clear HK0
    by_cases hlt : k < n
    · have HSV := hid (HSVK.out k hlt)
      have hkb : ¬ ((n : Int) + 1 ≤ (k : Int)) := by omega
      have HDV : Hid (∀ U : World, EqR U B (g k) (n + 1) (c k) (elm M k k) → Calls Tryz.prog 86 #[.slice (some ⟨g k, 0, none⟩) (n + 1) (c k), .agg #[.bool (qF (elm M k k k)).1, .string (qF (elm M k k k)).2.1, .string (qF (elm M k k k)).2.2]] U fun e w' => e = .returned (.tuple #[]) ∧ EqR w' B (g k) (n + 1) (c k) (fun c => elm M k k c / elm M k k k) ∧ U.grownBy w' (some (g k))) := fun U hU => chDivide_any B (g k) (c k) (n + 1) (elm M k k) (elm M k k k) U hU HSV.out.piv (fun i hi => HSV.out.row k i hlt (by omega)) (HSV.out.row k k hlt (by omega)) (by omega)
      go_upto_region 5 with fail
      replace HK := hid (HK.out.drew hB)
      refine wp_region_held_drew (S := fun u => u.cell? ⟨G, k, none⟩ = some (.slice (some ⟨g k, 0, none⟩) (n + 1) (c k))) (by kernel_rfl) (HK.out.eq.slice hlt) (fun hSd => ?_)
      generalize wr.drew = u0 at *
      obtain ⟨k0, k1, k2⟩ := (HK.out.eq.row k hlt).cells (show k < n + 1 by omega)
      generalize hzz : qF (elm M k k k) = zz at *
      obtain ⟨an, ax, ay⟩ := zz
      simp only at k0 k1 k2 HDV
      refine wpAnyH_take (i := 0) (oi := _) (v := .slice (some ⟨G, 0, none⟩) n cG) rfl (by kernel_rfl) (by kernel_rfl) (by kernel_rfl) (fun _ _ _ h => h) (Or.inl ⟨by rfl, ?_⟩) (by assumption) ?_
      · intro u' hSu
        (try simp only [List.getElem_toArray, List.getElem_cons_zero])
        go_simp
      (try simp only [List.getElem_toArray, List.getElem_cons_zero])
      (try simp only [Act.put, List.setIfInBounds_toArray, List.set_cons_zero, List.set_cons_succ])
      refine wpAnyH_take (i := 1) (oi := _) (v := .int .i64 (k : Nat)) rfl (by kernel_rfl) (by kernel_rfl) (by kernel_rfl) (fun _ _ _ h => h) (Or.inl ⟨by rfl, ?_⟩) (by assumption) ?_
      · intro u' hSu
        (try simp only [List.getElem_toArray, List.getElem_cons_zero, List.getElem_cons_succ])
        go_simp
      (try simp only [List.getElem_toArray, List.getElem_cons_zero, List.getElem_cons_succ])
      (try simp only [Act.put, List.setIfInBounds_toArray, List.set_cons_zero, List.set_cons_succ])
      refine wpAnyH_take (i := 2) (oi := _) (v := .pointer (some ⟨G, k, none⟩)) rfl (by kernel_rfl) (by kernel_rfl) (by kernel_rfl) (fun _ _ _ h => h) (Or.inl ⟨by rfl, ?_⟩) (by assumption) ?_
      · intro u' hSu
        (try simp only [List.getElem_toArray, List.getElem_cons_zero, List.getElem_cons_succ])
        go_simp
      (try simp only [List.getElem_toArray, List.getElem_cons_zero, List.getElem_cons_succ])
      (try simp only [Act.put, List.setIfInBounds_toArray, List.set_cons_zero, List.set_cons_succ])
      refine wpAnyH_take (i := 3) (oi := _) (v := .slice (some ⟨g k, 0, none⟩) (n + 1) (c k)) rfl (by kernel_rfl) (by kernel_rfl) (by kernel_rfl) (fun _ _ _ h => h) (Or.inl ⟨by rfl, ?_⟩) (by assumption) ?_
      · intro u' hSu
        (try simp only [List.getElem_toArray, List.getElem_cons_zero, List.getElem_cons_succ])
        obtain s0 := hSu
        go_simp
      (try simp only [List.getElem_toArray, List.getElem_cons_zero, List.getElem_cons_succ])
      (try simp only [Act.put, List.setIfInBounds_toArray, List.set_cons_zero, List.set_cons_succ])
      refine wpAnyH_take (i := 4) (oi := _) (v := .slice (some ⟨G, 0, none⟩) n cG) rfl (by kernel_rfl) (by kernel_rfl) (by kernel_rfl) (fun _ _ _ h => h) (Or.inl ⟨by rfl, ?_⟩) (by assumption) ?_
      · intro u' hSu
        (try simp only [List.getElem_toArray, List.getElem_cons_zero, List.getElem_cons_succ])
        go_simp
      (try simp only [List.getElem_toArray, List.getElem_cons_zero, List.getElem_cons_succ])
      (try simp only [Act.put, List.setIfInBounds_toArray, List.set_cons_zero, List.set_cons_succ])
      refine wpAnyH_take (i := 5) (oi := _) (v := .int .i64 (k : Nat)) rfl (by kernel_rfl) (by kernel_rfl) (by kernel_rfl) (fun _ _ _ h => h) (Or.inl ⟨by rfl, ?_⟩) (by assumption) ?_
      · intro u' hSu
        (try simp only [List.getElem_toArray, List.getElem_cons_zero, List.getElem_cons_succ])
        go_simp
      (try simp only [List.getElem_toArray, List.getElem_cons_zero, List.getElem_cons_succ])
      (try simp only [Act.put, List.setIfInBounds_toArray, List.set_cons_zero, List.set_cons_succ])
      refine wpAnyH_take (i := 6) (oi := _) (v := .pointer (some ⟨G, k, none⟩)) rfl (by kernel_rfl) (by kernel_rfl) (by kernel_rfl) (fun _ _ _ h => h) (Or.inl ⟨by rfl, ?_⟩) (by assumption) ?_
      · intro u' hSu
        (try simp only [List.getElem_toArray, List.getElem_cons_zero, List.getElem_cons_succ])
        go_simp
      (try simp only [List.getElem_toArray, List.getElem_cons_zero, List.getElem_cons_succ])
      (try simp only [Act.put, List.setIfInBounds_toArray, List.set_cons_zero, List.set_cons_succ])
      refine wpAnyH_take (i := 7) (oi := _) (v := .slice (some ⟨g k, 0, none⟩) (n + 1) (c k)) rfl (by kernel_rfl) (by kernel_rfl) (by kernel_rfl) (fun _ _ _ h => h) (Or.inl ⟨by rfl, ?_⟩) (by assumption) ?_
      · intro u' hSu
        (try simp only [List.getElem_toArray, List.getElem_cons_zero, List.getElem_cons_succ])
        obtain s0 := hSu
        go_simp
      (try simp only [List.getElem_toArray, List.getElem_cons_zero, List.getElem_cons_succ])
      (try simp only [Act.put, List.setIfInBounds_toArray, List.set_cons_zero, List.set_cons_succ])
      refine wpAnyH_take (i := 8) (oi := _) (v := .int .i64 (k : Nat)) rfl (by kernel_rfl) (by kernel_rfl) (by kernel_rfl) (fun _ _ _ h => h) (Or.inl ⟨by rfl, ?_⟩) (by assumption) ?_
      · intro u' hSu
        (try simp only [List.getElem_toArray, List.getElem_cons_zero, List.getElem_cons_succ])
        go_simp
      (try simp only [List.getElem_toArray, List.getElem_cons_zero, List.getElem_cons_succ])
      (try simp only [Act.put, List.setIfInBounds_toArray, List.set_cons_zero, List.set_cons_succ])
      refine wpAnyH_take (i := 9) (oi := _) (v := .pointer (some ⟨g k, k * 3, none⟩)) rfl (by kernel_rfl) (by kernel_rfl) (by kernel_rfl) (fun _ _ _ h => h) (Or.inl ⟨by rfl, ?_⟩) (by assumption) ?_
      · intro u' hSu
        (try simp only [List.getElem_toArray, List.getElem_cons_zero, List.getElem_cons_succ])
        go_simp
      (try simp only [List.getElem_toArray, List.getElem_cons_zero, List.getElem_cons_succ])
      (try simp only [Act.put, List.setIfInBounds_toArray, List.set_cons_zero, List.set_cons_succ])
      refine wpAnyH_ready (rs := [10]) (by kernel_rfl) (by simp) (AllReadyH.cons rfl ?_ (AllReadyH.nil))
      · intro K' hK'
        (try simp only [List.getElem_toArray, List.getElem_cons_zero, List.getElem_cons_succ])
        go_simp
        refine hK'.out _ _ (HK.out.eq.slice hlt) (fun hSe => ?_)
        clear hK' K' hSd
        have hSd := hSe
        clear hSe
        (try simp only [List.getElem_toArray, List.getElem_cons_zero, List.getElem_cons_succ])
        (try simp only [Act.put, List.setIfInBounds_toArray, List.set_cons_zero, List.set_cons_succ])
        refine wpAnyH_ready (rs := [11]) (by kernel_rfl) (by simp) (AllReadyH.cons rfl ?_ (AllReadyH.nil))
        · intro K' hK'
          (try simp only [List.getElem_toArray, List.getElem_cons_zero, List.getElem_cons_succ])
          go_simp
          refine (HDV.out _ (HK.out.eq.row k hlt)).mono ?_
          rintro e u1 ⟨rfl, hr, hg⟩
          have HK1 := hid (HK.out.write hB hlt hg hr)
          refine hK'.out _ _ (HK1.out.eq.slice hlt) (fun hSe => wpAnyH_done (by kernel_rfl) ?_ _)
          clear hK' K' hSd hSe k0 k1 k2 hr hg HK
          have HK2 := hid (HK1.out.congr fun i _ => (elmP_zero (elm M k) i).symm)
          clear HK1
          go_upto_region 7 with fail
          go_loopw [30] (fun jv wr2 => ∃ o : Nat, o ≤ n ∧ jv = .int .i64 o ∧ Hid (SvS w B n G g c (elmP k o (elm M k)) w.heap.size (partF FL 0) wr2)) (fun jv _ => n - (intOf jv).toNat)
          case atStart => exact ⟨0, Nat.zero_le _, rfl, HK2⟩
          case round =>
            obtain ⟨o, ho, rfl, HK⟩ := hrel
            clear HK2
            by_cases hlo : o < n
            · by_cases hok : o = k
              · subst hok
                have HK3 := hid (HK.out.congr fun i _ => congrFun (elmP_skip o (elm M o)).symm i)
                clear HK
                go_wp2
                go_roundw
                case rel => exact ⟨o + 1, by omega, by go_num, HK3⟩
                case measure => simp [intOf]; omega
              · have HTK : Hid (∀ U : World, EqR U B (g o) (n + 1) (c o) (elmP k o (elm M k) o) → EqR U B (g k) (n + 1) (c k) (elmP k o (elm M k) k) → Calls Tryz.prog 87 #[.slice (some ⟨g o, 0, none⟩) (n + 1) (c o), .slice (some ⟨g k, 0, none⟩) (n + 1) (c k), .agg #[.bool (qF (elm M k o k)).1, .string (qF (elm M k o k)).2.1, .string (qF (elm M k o k)).2.2]] U fun e w' => e = .returned (.tuple #[]) ∧ EqR w' B (g o) (n + 1) (c o) (fun c => elm M k o c - elm M k k c / elm M k k k * elm M k o k) ∧ U.grownBy w' (some (g o))) := fun U h1 h2 => by
                  rw [elmP_at hok] at h1
                  rw [elmP_piv] at h2
                  exact chTake_any B (g o) (g k) (c o) (c k) (n + 1) _ _ (elm M k o k) U h1 h2 (fun e => hok (HIN.out k o hlt hlo e).symm) (fun i hi => ⟨HSV.out.row o i hlo (by omega), HSV.out.quo i (by omega), HSV.out.tim o i hlo (by omega)⟩) (HSV.out.row o k hlo (by omega)) (by omega)
                have HNE : Hid (∀ i, (if i = o then (fun c => elm M k o c - elm M k k c / elm M k k k * elm M k o k) else elmP k o (elm M k) i) = elmP k (o + 1) (elm M k) i) := fun i => (elmP_next (elm M k) hok i).symm
                have HAT : Hid (elmP k o (elm M k) o k = elm M k o k) := by show _ = _; rw [elmP_at hok]
                go_upto_region 10 with fail
                replace HK := hid (HK.out.drew hB)
                refine wp_region_held_drew (S := fun u => u.cell? ⟨G, o, none⟩ = some (.slice (some ⟨g o, 0, none⟩) (n + 1) (c o)) ∧ u.cell? ⟨G, k, none⟩ = some (.slice (some ⟨g k, 0, none⟩) (n + 1) (c k))) (by kernel_rfl) ⟨HK.out.eq.slice hlo, HK.out.eq.slice hlt⟩ (fun hSd => ?_)
                generalize wr.drew = u0 at *
                obtain ⟨k0, k1, k2⟩ := (HK.out.eq.row o hlo).cells (show k < n + 1 by omega)
                rw [HAT.out] at k0 k1 k2
                generalize hzz : qF (elm M k o k) = zz at *
                obtain ⟨an, ax, ay⟩ := zz
                simp only at k0 k1 k2 HTK
                refine wpAnyH_take (i := 0) (oi := _) (v := .slice (some ⟨G, 0, none⟩) n cG) rfl (by kernel_rfl) (by kernel_rfl) (by kernel_rfl) (fun _ _ _ h => h) (Or.inl ⟨by rfl, ?_⟩) (by assumption) ?_
                · intro u' hSu
                  (try simp only [List.getElem_toArray, List.getElem_cons_zero])
                  go_simp
                (try simp only [List.getElem_toArray, List.getElem_cons_zero])
                (try simp only [Act.put, List.setIfInBounds_toArray, List.set_cons_zero, List.set_cons_succ])
                refine wpAnyH_take (i := 1) (oi := _) (v := .int .i64 (o : Nat)) rfl (by kernel_rfl) (by kernel_rfl) (by kernel_rfl) (fun _ _ _ h => h) (Or.inl ⟨by rfl, ?_⟩) (by assumption) ?_
                · intro u' hSu
                  (try simp only [List.getElem_toArray, List.getElem_cons_zero, List.getElem_cons_succ])
                  go_simp
                (try simp only [List.getElem_toArray, List.getElem_cons_zero, List.getElem_cons_succ])
                (try simp only [Act.put, List.setIfInBounds_toArray, List.set_cons_zero, List.set_cons_succ])
                refine wpAnyH_take (i := 2) (oi := _) (v := .pointer (some ⟨G, o, none⟩)) rfl (by kernel_rfl) (by kernel_rfl) (by kernel_rfl) (fun _ _ _ h => h) (Or.inl ⟨by rfl, ?_⟩) (by assumption) ?_
                · intro u' hSu
                  (try simp only [List.getElem_toArray, List.getElem_cons_zero, List.getElem_cons_succ])
                  go_simp
                (try simp only [List.getElem_toArray, List.getElem_cons_zero, List.getElem_cons_succ])
                (try simp only [Act.put, List.setIfInBounds_toArray, List.set_cons_zero, List.set_cons_succ])
                refine wpAnyH_take (i := 3) (oi := _) (v := .slice (some ⟨g o, 0, none⟩) (n + 1) (c o)) rfl (by kernel_rfl) (by kernel_rfl) (by kernel_rfl) (fun _ _ _ h => h) (Or.inl ⟨by rfl, ?_⟩) (by assumption) ?_
                · intro u' hSu
                  (try simp only [List.getElem_toArray, List.getElem_cons_zero, List.getElem_cons_succ])
                  obtain ⟨s0, s1⟩ := hSu
                  go_simp
                (try simp only [List.getElem_toArray, List.getElem_cons_zero, List.getElem_cons_succ])
                (try simp only [Act.put, List.setIfInBounds_toArray, List.set_cons_zero, List.set_cons_succ])
                refine wpAnyH_take (i := 4) (oi := _) (v := .slice (some ⟨G, 0, none⟩) n cG) rfl (by kernel_rfl) (by kernel_rfl) (by kernel_rfl) (fun _ _ _ h => h) (Or.inl ⟨by rfl, ?_⟩) (by assumption) ?_
                · intro u' hSu
                  (try simp only [List.getElem_toArray, List.getElem_cons_zero, List.getElem_cons_succ])
                  go_simp
                (try simp only [List.getElem_toArray, List.getElem_cons_zero, List.getElem_cons_succ])
                (try simp only [Act.put, List.setIfInBounds_toArray, List.set_cons_zero, List.set_cons_succ])
                refine wpAnyH_take (i := 5) (oi := _) (v := .int .i64 (k : Nat)) rfl (by kernel_rfl) (by kernel_rfl) (by kernel_rfl) (fun _ _ _ h => h) (Or.inl ⟨by rfl, ?_⟩) (by assumption) ?_
                · intro u' hSu
                  (try simp only [List.getElem_toArray, List.getElem_cons_zero, List.getElem_cons_succ])
                  go_simp
                (try simp only [List.getElem_toArray, List.getElem_cons_zero, List.getElem_cons_succ])
                (try simp only [Act.put, List.setIfInBounds_toArray, List.set_cons_zero, List.set_cons_succ])
                refine wpAnyH_take (i := 6) (oi := _) (v := .pointer (some ⟨G, k, none⟩)) rfl (by kernel_rfl) (by kernel_rfl) (by kernel_rfl) (fun _ _ _ h => h) (Or.inl ⟨by rfl, ?_⟩) (by assumption) ?_
                · intro u' hSu
                  (try simp only [List.getElem_toArray, List.getElem_cons_zero, List.getElem_cons_succ])
                  go_simp
                (try simp only [List.getElem_toArray, List.getElem_cons_zero, List.getElem_cons_succ])
                (try simp only [Act.put, List.setIfInBounds_toArray, List.set_cons_zero, List.set_cons_succ])
                refine wpAnyH_take (i := 7) (oi := _) (v := .slice (some ⟨g k, 0, none⟩) (n + 1) (c k)) rfl (by kernel_rfl) (by kernel_rfl) (by kernel_rfl) (fun _ _ _ h => h) (Or.inl ⟨by rfl, ?_⟩) (by assumption) ?_
                · intro u' hSu
                  (try simp only [List.getElem_toArray, List.getElem_cons_zero, List.getElem_cons_succ])
                  obtain ⟨s0, s1⟩ := hSu
                  go_simp
                (try simp only [List.getElem_toArray, List.getElem_cons_zero, List.getElem_cons_succ])
                (try simp only [Act.put, List.setIfInBounds_toArray, List.set_cons_zero, List.set_cons_succ])
                refine wpAnyH_take (i := 8) (oi := _) (v := .slice (some ⟨G, 0, none⟩) n cG) rfl (by kernel_rfl) (by kernel_rfl) (by kernel_rfl) (fun _ _ _ h => h) (Or.inl ⟨by rfl, ?_⟩) (by assumption) ?_
                · intro u' hSu
                  (try simp only [List.getElem_toArray, List.getElem_cons_zero, List.getElem_cons_succ])
                  go_simp
                (try simp only [List.getElem_toArray, List.getElem_cons_zero, List.getElem_cons_succ])
                (try simp only [Act.put, List.setIfInBounds_toArray, List.set_cons_zero, List.set_cons_succ])
                refine wpAnyH_take (i := 9) (oi := _) (v := .int .i64 (o : Nat)) rfl (by kernel_rfl) (by kernel_rfl) (by kernel_rfl) (fun _ _ _ h => h) (Or.inl ⟨by rfl, ?_⟩) (by assumption) ?_
                · intro u' hSu
                  (try simp only [List.getElem_toArray, List.getElem_cons_zero, List.getElem_cons_succ])
                  go_simp
                (try simp only [List.getElem_toArray, List.getElem_cons_zero, List.getElem_cons_succ])
                (try simp only [Act.put, List.setIfInBounds_toArray, List.set_cons_zero, List.set_cons_succ])
                refine wpAnyH_take (i := 10) (oi := _) (v := .pointer (some ⟨G, o, none⟩)) rfl (by kernel_rfl) (by kernel_rfl) (by kernel_rfl) (fun _ _ _ h => h) (Or.inl ⟨by rfl, ?_⟩) (by assumption) ?_
                · intro u' hSu
                  (try simp only [List.getElem_toArray, List.getElem_cons_zero, List.getElem_cons_succ])
                  go_simp
                (try simp only [List.getElem_toArray, List.getElem_cons_zero, List.getElem_cons_succ])
                (try simp only [Act.put, List.setIfInBounds_toArray, List.set_cons_zero, List.set_cons_succ])
                refine wpAnyH_take (i := 11) (oi := _) (v := .slice (some ⟨g o, 0, none⟩) (n + 1) (c o)) rfl (by kernel_rfl) (by kernel_rfl) (by kernel_rfl) (fun _ _ _ h => h) (Or.inl ⟨by rfl, ?_⟩) (by assumption) ?_
                · intro u' hSu
                  (try simp only [List.getElem_toArray, List.getElem_cons_zero, List.getElem_cons_succ])
                  obtain ⟨s0, s1⟩ := hSu
                  go_simp
                (try simp only [List.getElem_toArray, List.getElem_cons_zero, List.getElem_cons_succ])
                (try simp only [Act.put, List.setIfInBounds_toArray, List.set_cons_zero, List.set_cons_succ])
                refine wpAnyH_take (i := 12) (oi := _) (v := .int .i64 (k : Nat)) rfl (by kernel_rfl) (by kernel_rfl) (by kernel_rfl) (fun _ _ _ h => h) (Or.inl ⟨by rfl, ?_⟩) (by assumption) ?_
                · intro u' hSu
                  (try simp only [List.getElem_toArray, List.getElem_cons_zero, List.getElem_cons_succ])
                  go_simp
                (try simp only [List.getElem_toArray, List.getElem_cons_zero, List.getElem_cons_succ])
                (try simp only [Act.put, List.setIfInBounds_toArray, List.set_cons_zero, List.set_cons_succ])
                refine wpAnyH_take (i := 13) (oi := _) (v := .pointer (some ⟨g o, k * 3, none⟩)) rfl (by kernel_rfl) (by kernel_rfl) (by kernel_rfl) (fun _ _ _ h => h) (Or.inl ⟨by rfl, ?_⟩) (by assumption) ?_
                · intro u' hSu
                  (try simp only [List.getElem_toArray, List.getElem_cons_zero, List.getElem_cons_succ])
                  go_simp
                (try simp only [List.getElem_toArray, List.getElem_cons_zero, List.getElem_cons_succ])
                (try simp only [Act.put, List.setIfInBounds_toArray, List.set_cons_zero, List.set_cons_succ])
                refine wpAnyH_ready (rs := [14]) (by kernel_rfl) (by simp) (AllReadyH.cons rfl ?_ (AllReadyH.nil))
                · intro K' hK'
                  (try simp only [List.getElem_toArray, List.getElem_cons_zero, List.getElem_cons_succ])
                  go_simp
                  refine hK'.out _ _ ⟨HK.out.eq.slice hlo, HK.out.eq.slice hlt⟩ (fun hSe => ?_)
                  clear hK' K' hSd
                  have hSd := hSe
                  clear hSe
                  (try simp only [List.getElem_toArray, List.getElem_cons_zero, List.getElem_cons_succ])
                  (try simp only [Act.put, List.setIfInBounds_toArray, List.set_cons_zero, List.set_cons_succ])
                  refine wpAnyH_ready (rs := [15]) (by kernel_rfl) (by simp) (AllReadyH.cons rfl ?_ (AllReadyH.nil))
                  · intro K' hK'
                    (try simp only [List.getElem_toArray, List.getElem_cons_zero, List.getElem_cons_succ])
                    go_simp
                    refine (HTK.out _ (HK.out.eq.row o hlo) (HK.out.eq.row k hlt)).mono ?_
                    rintro e u1 ⟨rfl, hr, hg⟩
                    have HK1 := hid (HK.out.write hB hlo hg hr)
                    refine hK'.out _ _ ⟨HK1.out.eq.slice hlo, HK1.out.eq.slice hlt⟩ (fun hSe => wpAnyH_done (by kernel_rfl) ?_ _)
                    clear hK' K' hSd hSe k0 k1 k2 hr hg HK
                    have HK2 := hid (HK1.out.congr fun i _ => HNE.out i)
                    clear HK1
                    go_wp2
                    go_roundw
                    case rel => exact ⟨o + 1, by omega, by go_num, HK2⟩
                    case measure => simp [intOf]; omega
            · obtain rfl : o = n := by omega
              have HK3 := hid (HK.out.congr fun i hi => elmP_last hi)
              clear HK
              go_wp2
              go_roundw
              case rel => exact ⟨k + 1, by omega, by go_num, HK3⟩
              case measure => simp [intOf]; omega
    · obtain rfl : k = n := by omega
      clear HSVK
      go_upto_region 14 with fail
      go_loopw [56] (fun iv wr => ∃ i : Nat, i ≤ k ∧ iv = .int .i64 i ∧ Hid (SvS w B k G g c (elm M k) w.heap.size (partF FL i) wr)) (fun iv _ => k - (intOf iv).toNat)
      case atStart => exact ⟨0, Nat.zero_le _, rfl, HK⟩
      case round =>
        obtain ⟨i, hi, rfl, HK1⟩ := hrel
        clear HK
        by_cases hli : i < k
        · have r0 := HK1.out.eq.slice hli
          obtain ⟨c0, c1, c2⟩ := (HK1.out.eq.row i hli).cells (show k < k + 1 by omega)
          obtain ⟨k0, k1, k2⟩ := HK1.out.sol.cells i (by rw [partF_length _ (by omega)]; omega)
          have f0 := HK1.out.sol.fz (i * 3)
          have f1 := HK1.out.sol.fz (i * 3 + 1)
          have f2 := HK1.out.sol.fz (i * 3 + 2)
          generalize (partF FL i)[i]'(by rw [partF_length _ (by omega)]; omega) = z at *
          obtain ⟨zn, zx, zy⟩ := z
          simp only at k0 k1 k2
          obtain ⟨hd1, hd2⟩ := List.getElem?_eq_some_iff.1 (HFG.out i hli)
          have HPS := hid (partF_set FL hd1)
          rw [hd2] at HPS
          clear hd1 hd2
          have HPW := hid (HK1.out.put hB i (qF (elm M k i k)))
          rw [HPS.out] at HPW
          generalize qF (elm M k i k) = zz at *
          obtain ⟨an, ax, ay⟩ := zz
          simp only at c0 c1 c2 HPW
          clear HPS HK1
          go_wp2
          go_roundw
          case rel => exact ⟨i + 1, by omega, by go_num, HPW⟩
          case measure => simp [intOf]; omega
        · obtain rfl : i = k := by omega
          go_wp2
          go_ret
          refine ⟨w.heap.size, rfl, Nat.le_refl _, ?_, HK1.out.bel⟩
          have h9 := HK1.out.sol
          have e9 : partF FL i = FL := by rw [← hfl]; exact partF_all FL
          rw [e9] at h9
          exact h9
end Go.Proofs.YtbejijgelljeaaaGreatDoor
