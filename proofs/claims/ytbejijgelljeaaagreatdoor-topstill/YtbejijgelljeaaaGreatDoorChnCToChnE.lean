/- solve of package chain. -/
import Derived.Test.YtbejijgelljeaaaGreatDoorChnBOwn
import Derived.Test.YtbejijgelljeaaaGreatDoorNormBToMadC
import Derived.Test.YtbejijgelljeaaaGreatDoorConRToChnA
namespace Go.Proofs.YtbejijgelljeaaaGreatDoor
open Go.RowKit Go.Shelf

theorem grown_set (U : World) (S j : Nat) (v : Value) : U.grownBy (U.setCell ⟨S, j, none⟩ v) (some S) := ⟨rfl, rfl, rfl, by simp [World.setCell], fun k _ hk => Below.heap_setCell U ⟨S, j, none⟩ v k fun e => hk (by rw [e])⟩
/-- Equations under way, and the list that the solution is written into. -/
structure SvS (w : World) (B n G : Nat) (g c : Nat → Nat) (M : Nat → Nat → Rat) (S : Nat) (l : List Fr) (U : World) : Prop where
  eq : EqS B n (n + 1) G g c M U
  bel : Below B w U
  sol : RowF U S l
  far : ∀ k, k < n → g k ≠ S
theorem SvS.step {w U U' : World} {B n G S : Nat} {g c : Nat → Nat} {M : Nat → Nat → Rat} {l : List Fr} (h : SvS w B n G g c M S l U) (hB : B ≤ w.heap.size) (hb : Below U.heap.size U U') : SvS w B n G g c M S l U' := ⟨h.eq.step hb, h.bel.trans (hb.mono (Nat.le_trans hB h.bel.size)), h.sol.below hb h.sol.lt, h.far⟩
theorem SvS.drew {w U : World} {B n G S : Nat} {g c : Nat → Nat} {M : Nat → Nat → Rat} {l : List Fr} (h : SvS w B n G g c M S l U) (hB : B ≤ w.heap.size) : SvS w B n G g c M S l U.drew := h.step hB (Below.refl _ _).drew
theorem SvS.congr {w U : World} {B n G S : Nat} {g c : Nat → Nat} {M M' : Nat → Nat → Rat} {l : List Fr} (h : SvS w B n G g c M S l U) (e : ∀ i, i < n → M i = M' i) : SvS w B n G g c M' S l U := ⟨h.eq.congr e, h.bel, h.sol, h.far⟩
theorem SvS.write {w U U' : World} {B n G S : Nat} {g c : Nat → Nat} {M : Nat → Nat → Rat} {l : List Fr} (h : SvS w B n G g c M S l U) (hB : B ≤ w.heap.size) {k : Nat} {f : Nat → Rat} (hk : k < n) (hg : U.grownBy U' (some (g k))) (hr : EqR U' B (g k) (n + 1) (c k) f) : SvS w B n G g c (fun i => if i = k then f else M i) S l U' :=
  ⟨h.eq.write hk hg hr, h.bel.trans (h.eq.from hk hg (Nat.le_trans hB h.bel.size)), (hg.block S h.sol.lt fun e => h.far k hk (Option.some.inj e).symm).trans h.sol, h.far⟩
theorem SvS.put {w U : World} {B n G S : Nat} {g c : Nat → Nat} {M : Nat → Nat → Rat} {l : List Fr} (h : SvS w B n G g c M S l U) (hS : B ≤ S) (i : Nat) (f : Fr) : SvS w B n G g c M S (l.set i f) (((U.setCell ⟨S, i * 3, none⟩ (.bool f.1)).setCell ⟨S, i * 3 + 1, none⟩ (.string f.2.1)).setCell ⟨S, i * 3 + 2, none⟩ (.string f.2.2)) := by
  have hg := grown_then (grown_then (grown_set U S (i * 3) (.bool f.1)) (grown_set _ S (i * 3 + 1) (.string f.2.1))) (grown_set _ S (i * 3 + 2) (.string f.2.2))
  have hGS : G ≠ S := fun e => by
    have h1 := h.eq.top
    have h3 := h.sol
    rw [RowF, ← e] at h3
    rw [RowV, h3] at h1
    have h2 := Option.some.inj h1
    injection h2 with _ h4
    exact absurd h4 (by decide)
  exact ⟨⟨(hg.block G h.eq.top.lt fun e => hGS (Option.some.inj e)).trans h.eq.top, fun k hk => (h.eq.row k hk).kept hg (h.far k hk), h.eq.inj, h.eq.gl⟩, ((h.bel.setCell (p := ⟨S, i * 3, none⟩) hS _).setCell (p := ⟨S, i * 3 + 1, none⟩) hS _).setCell (p := ⟨S, i * 3 + 2, none⟩) hS _, h.sol.put i f, h.far⟩
/-- What the calls of the step k ask of the numbers. -/
structure SvK (n b k : Nat) (M : Nat → Nat → Rat) : Prop where
  piv : M k k ≠ 0
  row : ∀ i c, i < n → c ≤ n → qw (M i c) ≤ 40000
  quo : ∀ c, c ≤ n → qw (M k c / M k k) ≤ 40000
  tim : ∀ i c, i < n → c ≤ n → qw (M k c / M k k * M i k) ≤ 40000
theorem svK_of {n b : Nat} {M : Nat → Nat → Rat} (hb : ∀ i c, i < n → c ≤ n → Fits b (M i c)) (hp : ∀ j, j < n → elm M j j j ≠ 0) (hs : bE b n ≤ 10000) {k : Nat} (hk : k < n) : SvK n b k (elm M k) := by
  have h0 := elm_fits hb hp k (by omega)
  have hk1 : 4 * bE b k + 1 ≤ 10000 := Nat.le_trans (bE_mono b (show k + 1 ≤ n from hk)) hs
  refine ⟨hp k hk, fun i c hi hc => ?_, fun c hc => ?_, fun i c hi hc => ?_⟩
  · have := fits_qw (h0 i c hi hc); omega
  · have := fits_qw (fits_divq (h0 k c hk hc) (h0 k k hk (by omega)) (hp k hk)); omega
  · have := fits_qw (fits_tim (fits_divq (h0 k c hk hc) (h0 k k hk (by omega)) (hp k hk)) (h0 i k hi (by omega))); omega

theorem elmP_at {k o : Nat} {M : Nat → Nat → Rat} (h : ¬ o = k) : elmP k o M o = M o := by
  funext c
  show (if o = k then _ else if o < o then _ else _) = _
  rw [if_neg h, if_neg (Nat.lt_irrefl _)]
theorem elmP_piv {k o : Nat} {M : Nat → Nat → Rat} : elmP k o M k = fun c => M k c / M k k := by
  funext c
  show (if k = k then _ else _) = _
  rw [if_pos rfl]
set_option maxRecDepth 100000 in
set_option maxHeartbeats 4000000 in
theorem chSolve_any (B n G cG b : Nat) (g c : Nat → Nat) (M : Nat → Nat → Rat) (w : World) (h : EqS B n (n + 1) G g c M w) (hB : B ≤ w.heap.size) (hb : ∀ i c, i < n → c ≤ n → Fits b (M i c)) (hp : ∀ j, j < n → elm M j j j ≠ 0) (hs : bE b n ≤ 10000) (hn : n ≤ 10) :
    Calls Tryz.prog 61 #[.slice (some ⟨G, 0, none⟩) n cG] w fun e w' => ∃ S, e = .returned (.slice (some ⟨S, 0, none⟩) n n) ∧ w.heap.size ≤ S ∧ RowF w' S (lF n fun i => elm M n i n) ∧ Below B w w' := by
  obtain ⟨i0, hi0, hz0, hz1, hz2⟩ := info_parts Tryz.infoFrac
  have HSVK : Hid (∀ k, k < n → SvK n b k (elm M k)) := fun k hk => svK_of hb hp hs hk
  have HEQ := hid h
  have HIN := hid h.inj
  clear h hb hp hs
  have hfl := lF_length n fun i => elm M n i n
  have HFG := hid (fun i (hi : i < n) => lF_get? (f := fun i => elm M n i n) hi)
  generalize hFLe : (lF n fun i => elm M n i n) = FL at *
  clear hFLe
  go_enter Tryz.func61, Tryz.ntmps61
  go_upto_region 3 with (at_make; refine wpList_make_full _ rfl _ _ 27 rfl w.heap.size 33 i0 (.agg #[.bool false, .string ⟨#[]⟩, .string ⟨#[]⟩]) 3 Tryz.underlying27 hi0 hz0 hz1 .i64 .i64 _ _ n rfl rfl (by go_num) (by go_num) (by rw [hz2]; omega) (by unfold maxLen; omega) (Nat.le_refl _) ?_; intro w2 hown2 hgrow2)
  have hb2 := block_of_own3 hown2
  rw [made_frs] at hb2
  have hB2 : Below w.heap.size w w2 := (Below.refl _ w).grown hgrow2 (Nat.le_refl _) (fun k e => by cases e)
  have HK0 : Hid (SvS w B n G g c (elm M 0) w.heap.size (partF FL 0) w2) := ⟨HEQ.out.step hB2, hB2.mono hB, by rw [partF_zero, hfl]; exact hb2, fun k hk e => by have := (HEQ.out.row k hk).lt; omega⟩
  clear hown2 hgrow2 hb2 hB2 HEQ
  go_wp2_with fail
  go_loopw [13] (fun iv wr => ∃ k : Nat, k ≤ n ∧ iv = .int .i64 k ∧ Hid (SvS w B n G g c (elm M k) w.heap.size (partF FL 0) wr)) (fun iv _ => n - (intOf iv).toNat)
  case atStart => exact ⟨0, Nat.zero_le _, rfl, HK0⟩
  case round =>
    obtain ⟨k, hk, rfl, HK⟩ := hrel
    clear HK0
    by_cases hlt : k < n
    · have HSV := hid (HSVK.out k hlt)
      have hkb : ¬ ((n : Int) + 1 ≤ (k : Int)) := by omega
      have HDV : Hid (∀ U : World, EqR U B (g k) (n + 1) (c k) (elm M k k) → Calls Tryz.prog 86 #[.slice (some ⟨g k, 0, none⟩) (n + 1) (c k), .agg #[.bool (qF (elm M k k k)).1, .string (qF (elm M k k k)).2.1, .string (qF (elm M k k k)).2.2]] U fun e w' => e = .returned (.tuple #[]) ∧ EqR w' B (g k) (n + 1) (c k) (fun c => elm M k k c / elm M k k k) ∧ U.grownBy w' (some (g k))) := fun U hU => chDivide_any B (g k) (c k) (n + 1) (elm M k k) (elm M k k k) U hU HSV.out.piv (fun i hi => HSV.out.row k i hlt (by omega)) (HSV.out.row k k hlt (by omega)) (by omega)
      go_upto_region 5 with fail
      replace HK := hid (HK.out.drew hB)
      refine wp_region_held_drew (S := fun u => u.cell? ⟨G, k, none⟩ = some (.slice (some ⟨g k, 0, none⟩) (n + 1) (c k))) (by kernel_rfl) (HK.out.eq.slice hlt) (fun hSd => ?_)
      generalize wr.drew = u0 at *
      obtain ⟨k0, k1, k2⟩ := (HK.out.eq.row k hlt).cells (show k < n + 1 by omega)
      generalize hzz : qF (elm M k k k) = zz at *
      obtain ⟨an, ax, ay⟩ := zz
      simp only at k0 k1 k2 HDV
      refine wpAnyH_take (i := 0) (oi := _) (v := .slice (some ⟨G, 0, none⟩) n cG) rfl (by kernel_rfl) (by kernel_rfl) (by kernel_rfl) (fun _ _ _ h => h) (Or.inl ⟨by rfl, ?_⟩) (by assumption) ?_
      · intro u' hSu
        (try simp only [List.getElem_toArray, List.getElem_cons_zero])
        go_simp
      (try simp only [List.getElem_toArray, List.getElem_cons_zero])
      (try simp only [Act.put, List.setIfInBounds_toArray, List.set_cons_zero, List.set_cons_succ])
      refine wpAnyH_take (i := 1) (oi := _) (v := .int .i64 (k : Nat)) rfl (by kernel_rfl) (by kernel_rfl) (by kernel_rfl) (fun _ _ _ h => h) (Or.inl ⟨by rfl, ?_⟩) (by assumption) ?_
      · intro u' hSu
        (try simp only [List.getElem_toArray, List.getElem_cons_zero, List.getElem_cons_succ])
        go_simp
      (try simp only [List.getElem_toArray, List.getElem_cons_zero, List.getElem_cons_succ])
      (try simp only [Act.put, List.setIfInBounds_toArray, List.set_cons_zero, List.set_cons_succ])
      refine wpAnyH_take (i := 2) (oi := _) (v := .pointer (some ⟨G, k, none⟩)) rfl (by kernel_rfl) (by kernel_rfl) (by kernel_rfl) (fun _ _ _ h => h) (Or.inl ⟨by rfl, ?_⟩) (by assumption) ?_
      · intro u' hSu
        (try simp only [List.getElem_toArray, List.getElem_cons_zero, List.getElem_cons_succ])
        go_simp
      (try simp only [List.getElem_toArray, List.getElem_cons_zero, List.getElem_cons_succ])
      (try simp only [Act.put, List.setIfInBounds_toArray, List.set_cons_zero, List.set_cons_succ])
      refine wpAnyH_take (i := 3) (oi := _) (v := .slice (some ⟨g k, 0, none⟩) (n + 1) (c k)) rfl (by kernel_rfl) (by kernel_rfl) (by kernel_rfl) (fun _ _ _ h => h) (Or.inl ⟨by rfl, ?_⟩) (by assumption) ?_
      · intro u' hSu
        (try simp only [List.getElem_toArray, List.getElem_cons_zero, List.getElem_cons_succ])
        obtain s0 := hSu
        go_simp
      (try simp only [List.getElem_toArray, List.getElem_cons_zero, List.getElem_cons_succ])
      (try simp only [Act.put, List.setIfInBounds_toArray, List.set_cons_zero, List.set_cons_succ])
      refine wpAnyH_take (i := 4) (oi := _) (v := .slice (some ⟨G, 0, none⟩) n cG) rfl (by kernel_rfl) (by kernel_rfl) (by kernel_rfl) (fun _ _ _ h => h) (Or.inl ⟨by rfl, ?_⟩) (by assumption) ?_
      · intro u' hSu
        (try simp only [List.getElem_toArray, List.getElem_cons_zero, List.getElem_cons_succ])
        go_simp
      (try simp only [List.getElem_toArray, List.getElem_cons_zero, List.getElem_cons_succ])
      (try simp only [Act.put, List.setIfInBounds_toArray, List.set_cons_zero, List.set_cons_succ])
      refine wpAnyH_take (i := 5) (oi := _) (v := .int .i64 (k : Nat)) rfl (by kernel_rfl) (by kernel_rfl) (by kernel_rfl) (fun _ _ _ h => h) (Or.inl ⟨by rfl, ?_⟩) (by assumption) ?_
      · intro u' hSu
        (try simp only [List.getElem_toArray, List.getElem_cons_zero, List.getElem_cons_succ])
        go_simp
      (try simp only [List.getElem_toArray, List.getElem_cons_zero, List.getElem_cons_succ])
      (try simp only [Act.put, List.setIfInBounds_toArray, List.set_cons_zero, List.set_cons_succ])
      refine wpAnyH_take (i := 6) (oi := _) (v := .pointer (some ⟨G, k, none⟩)) rfl (by kernel_rfl) (by kernel_rfl) (by kernel_rfl) (fun _ _ _ h => h) (Or.inl ⟨by rfl, ?_⟩) (by assumption) ?_
      · intro u' hSu
        (try simp only [List.getElem_toArray, List.getElem_cons_zero, List.getElem_cons_succ])
        go_simp
      (try simp only [List.getElem_toArray, List.getElem_cons_zero, List.getElem_cons_succ])
      (try simp only [Act.put, List.setIfInBounds_toArray, List.set_cons_zero, List.set_cons_succ])
      refine wpAnyH_take (i := 7) (oi := _) (v := .slice (some ⟨g k, 0, none⟩) (n + 1) (c k)) rfl (by kernel_rfl) (by kernel_rfl) (by kernel_rfl) (fun _ _ _ h => h) (Or.inl ⟨by rfl, ?_⟩) (by assumption) ?_
      · intro u' hSu
        (try simp only [List.getElem_toArray, List.getElem_cons_zero, List.getElem_cons_succ])
        obtain s0 := hSu
        go_simp
      (try simp only [List.getElem_toArray, List.getElem_cons_zero, List.getElem_cons_succ])
      (try simp only [Act.put, List.setIfInBounds_toArray, List.set_cons_zero, List.set_cons_succ])
      refine wpAnyH_take (i := 8) (oi := _) (v := .int .i64 (k : Nat)) rfl (by kernel_rfl) (by kernel_rfl) (by kernel_rfl) (fun _ _ _ h => h) (Or.inl ⟨by rfl, ?_⟩) (by assumption) ?_
      · intro u' hSu
        (try simp only [List.getElem_toArray, List.getElem_cons_zero, List.getElem_cons_succ])
        go_simp
      (try simp only [List.getElem_toArray, List.getElem_cons_zero, List.getElem_cons_succ])
      (try simp only [Act.put, List.setIfInBounds_toArray, List.set_cons_zero, List.set_cons_succ])
      refine wpAnyH_take (i := 9) (oi := _) (v := .pointer (some ⟨g k, k * 3, none⟩)) rfl (by kernel_rfl) (by kernel_rfl) (by kernel_rfl) (fun _ _ _ h => h) (Or.inl ⟨by rfl, ?_⟩) (by assumption) ?_
      · intro u' hSu
        (try simp only [List.getElem_toArray, List.getElem_cons_zero, List.getElem_cons_succ])
        go_simp
      (try simp only [List.getElem_toArray, List.getElem_cons_zero, List.getElem_cons_succ])
      (try simp only [Act.put, List.setIfInBounds_toArray, List.set_cons_zero, List.set_cons_succ])
      refine wpAnyH_ready (rs := [10]) (by kernel_rfl) (by simp) (AllReadyH.cons rfl ?_ (AllReadyH.nil))
      · intro K' hK'
        (try simp only [List.getElem_toArray, List.getElem_cons_zero, List.getElem_cons_succ])
        go_simp
        refine hK'.out _ _ (HK.out.eq.slice hlt) (fun hSe => ?_)
        clear hK' K' hSd
        have hSd := hSe
        clear hSe
        (try simp only [List.getElem_toArray, List.getElem_cons_zero, List.getElem_cons_succ])
        (try simp only [Act.put, List.setIfInBounds_toArray, List.set_cons_zero, List.set_cons_succ])
        refine wpAnyH_ready (rs := [11]) (by kernel_rfl) (by simp) (AllReadyH.cons rfl ?_ (AllReadyH.nil))
        · intro K' hK'
          (try simp only [List.getElem_toArray, List.getElem_cons_zero, List.getElem_cons_succ])
          go_simp
          refine (HDV.out _ (HK.out.eq.row k hlt)).mono ?_
          rintro e u1 ⟨rfl, hr, hg⟩
          have HK1 := hid (HK.out.write hB hlt hg hr)
          refine hK'.out _ _ (HK1.out.eq.slice hlt) (fun hSe => wpAnyH_done (by kernel_rfl) ?_ _)
          clear hK' K' hSd hSe k0 k1 k2 hr hg HK
          have HK2 := hid (HK1.out.congr fun i _ => (elmP_zero (elm M k) i).symm)
          clear HK1
          go_upto_region 7 with fail
          go_loopw [30] (fun jv wr2 => ∃ o : Nat, o ≤ n ∧ jv = .int .i64 o ∧ Hid (SvS w B n G g c (elmP k o (elm M k)) w.heap.size (partF FL 0) wr2)) (fun jv _ => n - (intOf jv).toNat)
          case atStart => exact ⟨0, Nat.zero_le _, rfl, HK2⟩
          case round =>
            obtain ⟨o, ho, rfl, HK⟩ := hrel
            clear HK2
            by_cases hlo : o < n
            · by_cases hok : o = k
              · subst hok
                have HK3 := hid (HK.out.congr fun i _ => congrFun (elmP_skip o (elm M o)).symm i)
                clear HK
                go_wp2
                go_roundw
                case rel => exact ⟨o + 1, by omega, by go_num, HK3⟩
                case measure => simp [intOf]; omega
              · have HTK : Hid (∀ U : World, EqR U B (g o) (n + 1) (c o) (elmP k o (elm M k) o) → EqR U B (g k) (n + 1) (c k) (elmP k o (elm M k) k) → Calls Tryz.prog 87 #[.slice (some ⟨g o, 0, none⟩) (n + 1) (c o), .slice (some ⟨g k, 0, none⟩) (n + 1) (c k), .agg #[.bool (qF (elm M k o k)).1, .string (qF (elm M k o k)).2.1, .string (qF (elm M k o k)).2.2]] U fun e w' => e = .returned (.tuple #[]) ∧ EqR w' B (g o) (n + 1) (c o) (fun c => elm M k o c - elm M k k c / elm M k k k * elm M k o k) ∧ U.grownBy w' (some (g o))) := fun U h1 h2 => by
                  rw [elmP_at hok] at h1
                  rw [elmP_piv] at h2
                  exact chTake_any B (g o) (g k) (c o) (c k) (n + 1) _ _ (elm M k o k) U h1 h2 (fun e => hok (HIN.out k o hlt hlo e).symm) (fun i hi => ⟨HSV.out.row o i hlo (by omega), HSV.out.quo i (by omega), HSV.out.tim o i hlo (by omega)⟩) (HSV.out.row o k hlo (by omega)) (by omega)
                have HNE : Hid (∀ i, (if i = o then (fun c => elm M k o c - elm M k k c / elm M k k k * elm M k o k) else elmP k o (elm M k) i) = elmP k (o + 1) (elm M k) i) := fun i => (elmP_next (elm M k) hok i).symm
                have HAT : Hid (elmP k o (elm M k) o k = elm M k o k) := by show _ = _; rw [elmP_at hok]
                go_upto_region 10 with fail
                replace HK := hid (HK.out.drew hB)
                refine wp_region_held_drew (S := fun u => u.cell? ⟨G, o, none⟩ = some (.slice (some ⟨g o, 0, none⟩) (n + 1) (c o)) ∧ u.cell? ⟨G, k, none⟩ = some (.slice (some ⟨g k, 0, none⟩) (n + 1) (c k))) (by kernel_rfl) ⟨HK.out.eq.slice hlo, HK.out.eq.slice hlt⟩ (fun hSd => ?_)
                generalize wr.drew = u0 at *
                obtain ⟨k0, k1, k2⟩ := (HK.out.eq.row o hlo).cells (show k < n + 1 by omega)
                rw [HAT.out] at k0 k1 k2
                generalize hzz : qF (elm M k o k) = zz at *
                obtain ⟨an, ax, ay⟩ := zz
                simp only at k0 k1 k2 HTK
                refine wpAnyH_take (i := 0) (oi := _) (v := .slice (some ⟨G, 0, none⟩) n cG) rfl (by kernel_rfl) (by kernel_rfl) (by kernel_rfl) (fun _ _ _ h => h) (Or.inl ⟨by rfl, ?_⟩) (by assumption) ?_
                · intro u' hSu
                  (try simp only [List.getElem_toArray, List.getElem_cons_zero])
                  go_simp
                (try simp only [List.getElem_toArray, List.getElem_cons_zero])
                (try simp only [Act.put, List.setIfInBounds_toArray, List.set_cons_zero, List.set_cons_succ])
                refine wpAnyH_take (i := 1) (oi := _) (v := .int .i64 (o : Nat)) rfl (by kernel_rfl) (by kernel_rfl) (by kernel_rfl) (fun _ _ _ h => h) (Or.inl ⟨by rfl, ?_⟩) (by assumption) ?_
                · intro u' hSu
                  (try simp only [List.getElem_toArray, List.getElem_cons_zero, List.getElem_cons_succ])
                  go_simp
                (try simp only [List.getElem_toArray, List.getElem_cons_zero, List.getElem_cons_succ])
                (try simp only [Act.put, List.setIfInBounds_toArray, List.set_cons_zero, List.set_cons_succ])
                refine wpAnyH_take (i := 2) (oi := _) (v := .pointer (some ⟨G, o, none⟩)) rfl (by kernel_rfl) (by kernel_rfl) (by kernel_rfl) (fun _ _ _ h => h) (Or.inl ⟨by rfl, ?_⟩) (by assumption) ?_
                · intro u' hSu
                  (try simp only [List.getElem_toArray, List.getElem_cons_zero, List.getElem_cons_succ])
                  go_simp
                (try simp only [List.getElem_toArray, List.getElem_cons_zero, List.getElem_cons_succ])
                (try simp only [Act.put, List.setIfInBounds_toArray, List.set_cons_zero, List.set_cons_succ])
                refine wpAnyH_take (i := 3) (oi := _) (v := .slice (some ⟨g o, 0, none⟩) (n + 1) (c o)) rfl (by kernel_rfl) (by kernel_rfl) (by kernel_rfl) (fun _ _ _ h => h) (Or.inl ⟨by rfl, ?_⟩) (by assumption) ?_
                · intro u' hSu
                  (try simp only [List.getElem_toArray, List.getElem_cons_zero, List.getElem_cons_succ])
                  obtain ⟨s0, s1⟩ := hSu
                  go_simp
                (try simp only [List.getElem_toArray, List.getElem_cons_zero, List.getElem_cons_succ])
                (try simp only [Act.put, List.setIfInBounds_toArray, List.set_cons_zero, List.set_cons_succ])
                refine wpAnyH_take (i := 4) (oi := _) (v := .slice (some ⟨G, 0, none⟩) n cG) rfl (by kernel_rfl) (by kernel_rfl) (by kernel_rfl) (fun _ _ _ h => h) (Or.inl ⟨by rfl, ?_⟩) (by assumption) ?_
                · intro u' hSu
                  (try simp only [List.getElem_toArray, List.getElem_cons_zero, List.getElem_cons_succ])
                  go_simp
                (try simp only [List.getElem_toArray, List.getElem_cons_zero, List.getElem_cons_succ])
                (try simp only [Act.put, List.setIfInBounds_toArray, List.set_cons_zero, List.set_cons_succ])
                refine wpAnyH_take (i := 5) (oi := _) (v := .int .i64 (k : Nat)) rfl (by kernel_rfl) (by kernel_rfl) (by kernel_rfl) (fun _ _ _ h => h) (Or.inl ⟨by rfl, ?_⟩) (by assumption) ?_
                · intro u' hSu
                  (try simp only [List.getElem_toArray, List.getElem_cons_zero, List.getElem_cons_succ])
                  go_simp
                (try simp only [List.getElem_toArray, List.getElem_cons_zero, List.getElem_cons_succ])
                (try simp only [Act.put, List.setIfInBounds_toArray, List.set_cons_zero, List.set_cons_succ])
                refine wpAnyH_take (i := 6) (oi := _) (v := .pointer (some ⟨G, k, none⟩)) rfl (by kernel_rfl) (by kernel_rfl) (by kernel_rfl) (fun _ _ _ h => h) (Or.inl ⟨by rfl, ?_⟩) (by assumption) ?_
                · intro u' hSu
                  (try simp only [List.getElem_toArray, List.getElem_cons_zero, List.getElem_cons_succ])
                  go_simp
                (try simp only [List.getElem_toArray, List.getElem_cons_zero, List.getElem_cons_succ])
                (try simp only [Act.put, List.setIfInBounds_toArray, List.set_cons_zero, List.set_cons_succ])
                refine wpAnyH_take (i := 7) (oi := _) (v := .slice (some ⟨g k, 0, none⟩) (n + 1) (c k)) rfl (by kernel_rfl) (by kernel_rfl) (by kernel_rfl) (fun _ _ _ h => h) (Or.inl ⟨by rfl, ?_⟩) (by assumption) ?_
                · intro u' hSu
                  (try simp only [List.getElem_toArray, List.getElem_cons_zero, List.getElem_cons_succ])
                  obtain ⟨s0, s1⟩ := hSu
                  go_simp
                (try simp only [List.getElem_toArray, List.getElem_cons_zero, List.getElem_cons_succ])
                (try simp only [Act.put, List.setIfInBounds_toArray, List.set_cons_zero, List.set_cons_succ])
                refine wpAnyH_take (i := 8) (oi := _) (v := .slice (some ⟨G, 0, none⟩) n cG) rfl (by kernel_rfl) (by kernel_rfl) (by kernel_rfl) (fun _ _ _ h => h) (Or.inl ⟨by rfl, ?_⟩) (by assumption) ?_
                · intro u' hSu
                  (try simp only [List.getElem_toArray, List.getElem_cons_zero, List.getElem_cons_succ])
                  go_simp
                (try simp only [List.getElem_toArray, List.getElem_cons_zero, List.getElem_cons_succ])
                (try simp only [Act.put, List.setIfInBounds_toArray, List.set_cons_zero, List.set_cons_succ])
                refine wpAnyH_take (i := 9) (oi := _) (v := .int .i64 (o : Nat)) rfl (by kernel_rfl) (by kernel_rfl) (by kernel_rfl) (fun _ _ _ h => h) (Or.inl ⟨by rfl, ?_⟩) (by assumption) ?_
                · intro u' hSu
                  (try simp only [List.getElem_toArray, List.getElem_cons_zero, List.getElem_cons_succ])
                  go_simp
                (try simp only [List.getElem_toArray, List.getElem_cons_zero, List.getElem_cons_succ])
                (try simp only [Act.put, List.setIfInBounds_toArray, List.set_cons_zero, List.set_cons_succ])
                refine wpAnyH_take (i := 10) (oi := _) (v := .pointer (some ⟨G, o, none⟩)) rfl (by kernel_rfl) (by kernel_rfl) (by kernel_rfl) (fun _ _ _ h => h) (Or.inl ⟨by rfl, ?_⟩) (by assumption) ?_
                · intro u' hSu
                  (try simp only [List.getElem_toArray, List.getElem_cons_zero, List.getElem_cons_succ])
                  go_simp
                (try simp only [List.getElem_toArray, List.getElem_cons_zero, List.getElem_cons_succ])
                (try simp only [Act.put, List.setIfInBounds_toArray, List.set_cons_zero, List.set_cons_succ])
                refine wpAnyH_take (i := 11) (oi := _) (v := .slice (some ⟨g o, 0, none⟩) (n + 1) (c o)) rfl (by kernel_rfl) (by kernel_rfl) (by kernel_rfl) (fun _ _ _ h => h) (Or.inl ⟨by rfl, ?_⟩) (by assumption) ?_
                · intro u' hSu
                  (try simp only [List.getElem_toArray, List.getElem_cons_zero, List.getElem_cons_succ])
                  obtain ⟨s0, s1⟩ := hSu
                  go_simp
                (try simp only [List.getElem_toArray, List.getElem_cons_zero, List.getElem_cons_succ])
                (try simp only [Act.put, List.setIfInBounds_toArray, List.set_cons_zero, List.set_cons_succ])
                refine wpAnyH_take (i := 12) (oi := _) (v := .int .i64 (k : Nat)) rfl (by kernel_rfl) (by kernel_rfl) (by kernel_rfl) (fun _ _ _ h => h) (Or.inl ⟨by rfl, ?_⟩) (by assumption) ?_
                · intro u' hSu
                  (try simp only [List.getElem_toArray, List.getElem_cons_zero, List.getElem_cons_succ])
                  go_simp
                (try simp only [List.getElem_toArray, List.getElem_cons_zero, List.getElem_cons_succ])
                (try simp only [Act.put, List.setIfInBounds_toArray, List.set_cons_zero, List.set_cons_succ])
                refine wpAnyH_take (i := 13) (oi := _) (v := .pointer (some ⟨g o, k * 3, none⟩)) rfl (by kernel_rfl) (by kernel_rfl) (by kernel_rfl) (fun _ _ _ h => h) (Or.inl ⟨by rfl, ?_⟩) (by assumption) ?_
                · intro u' hSu
                  (try simp only [List.getElem_toArray, List.getElem_cons_zero, List.getElem_cons_succ])
                  go_simp
                (try simp only [List.getElem_toArray, List.getElem_cons_zero, List.getElem_cons_succ])
                (try simp only [Act.put, List.setIfInBounds_toArray, List.set_cons_zero, List.set_cons_succ])
                refine wpAnyH_ready (rs := [14]) (by kernel_rfl) (by simp) (AllReadyH.cons rfl ?_ (AllReadyH.nil))
                · intro K' hK'
                  (try simp only [List.getElem_toArray, List.getElem_cons_zero, List.getElem_cons_succ])
                  go_simp
                  refine hK'.out _ _ ⟨HK.out.eq.slice hlo, HK.out.eq.slice hlt⟩ (fun hSe => ?_)
                  clear hK' K' hSd
                  have hSd := hSe
                  clear hSe
                  (try simp only [List.getElem_toArray, List.getElem_cons_zero, List.getElem_cons_succ])
                  (try simp only [Act.put, List.setIfInBounds_toArray, List.set_cons_zero, List.set_cons_succ])
                  refine wpAnyH_ready (rs := [15]) (by kernel_rfl) (by simp) (AllReadyH.cons rfl ?_ (AllReadyH.nil))
                  · intro K' hK'
                    (try simp only [List.getElem_toArray, List.getElem_cons_zero, List.getElem_cons_succ])
                    go_simp
                    refine (HTK.out _ (HK.out.eq.row o hlo) (HK.out.eq.row k hlt)).mono ?_
                    rintro e u1 ⟨rfl, hr, hg⟩
                    have HK1 := hid (HK.out.write hB hlo hg hr)
                    refine hK'.out _ _ ⟨HK1.out.eq.slice hlo, HK1.out.eq.slice hlt⟩ (fun hSe => wpAnyH_done (by kernel_rfl) ?_ _)
                    clear hK' K' hSd hSe k0 k1 k2 hr hg HK
                    have HK2 := hid (HK1.out.congr fun i _ => HNE.out i)
                    clear HK1
                    go_wp2
                    go_roundw
                    case rel => exact ⟨o + 1, by omega, by go_num, HK2⟩
                    case measure => simp [intOf]; omega
            · obtain rfl : o = n := by omega
              have HK3 := hid (HK.out.congr fun i hi => elmP_last hi)
              clear HK
              go_wp2
              go_roundw
              case rel => exact ⟨k + 1, by omega, by go_num, HK3⟩
              case measure => simp [intOf]; omega
    · obtain rfl : k = n := by omega
      clear HSVK
      go_upto_region 14 with fail
      go_loopw [56] (fun iv wr => ∃ i : Nat, i ≤ k ∧ iv = .int .i64 i ∧ Hid (SvS w B k G g c (elm M k) w.heap.size (partF FL i) wr)) (fun iv _ => k - (intOf iv).toNat)
      case atStart => exact ⟨0, Nat.zero_le _, rfl, HK⟩
      case round =>
        obtain ⟨i, hi, rfl, HK1⟩ := hrel
        clear HK
        by_cases hli : i < k
        · have r0 := HK1.out.eq.slice hli
          obtain ⟨c0, c1, c2⟩ := (HK1.out.eq.row i hli).cells (show k < k + 1 by omega)
          obtain ⟨k0, k1, k2⟩ := HK1.out.sol.cells i (by rw [partF_length _ (by omega)]; omega)
          have f0 := HK1.out.sol.fz (i * 3)
          have f1 := HK1.out.sol.fz (i * 3 + 1)
          have f2 := HK1.out.sol.fz (i * 3 + 2)
          generalize (partF FL i)[i]'(by rw [partF_length _ (by omega)]; omega) = z at *
          obtain ⟨zn, zx, zy⟩ := z
          simp only at k0 k1 k2
          obtain ⟨hd1, hd2⟩ := List.getElem?_eq_some_iff.1 (HFG.out i hli)
          have HPS := hid (partF_set FL hd1)
          rw [hd2] at HPS
          clear hd1 hd2
          have HPW := hid (HK1.out.put hB i (qF (elm M k i k)))
          rw [HPS.out] at HPW
          generalize qF (elm M k i k) = zz at *
          obtain ⟨an, ax, ay⟩ := zz
          simp only at c0 c1 c2 HPW
          clear HPS HK1
          go_wp2
          go_roundw
          case rel => exact ⟨i + 1, by omega, by go_num, HPW⟩
          case measure => simp [intOf]; omega
        · obtain rfl : i = k := by omega
          go_wp2
          go_ret
          refine ⟨w.heap.size, rfl, Nat.le_refl _, ?_, HK1.out.bel⟩
          have h9 := HK1.out.sol
          have e9 : partF FL i = FL := by rw [← hfl]; exact partF_all FL
          rw [e9] at h9
          exact h9
end Go.Proofs.YtbejijgelljeaaaGreatDoor


/- The law's raw numbers: Less, Some. -/
namespace Go.Proofs.YtbejijgelljeaaaGreatDoor
open Go.RowKit Go.Shelf

/-- A list without what stands in another one. -/
def minusL (l M : List Int) : List Int := l.filter fun x => !inB x M
theorem minusL_take {l M : List Int} {i : Nat} (h : i < l.length) : minusL (l.take (i + 1)) M = minusL (l.take i) M ++ if inB l[i] M = true then [] else [l[i]] := by
  rw [List.take_succ_eq_append_getElem h, minusL, minusL, List.filter_append]
  congr 1
  cases e : inB l[i] M
  · simp [e]
  · simp [e]
theorem minusL_one (l : List Int) (v : Int) : minusL l [v] = lessN l v := by
  rw [minusL, lessN]
  refine List.filter_congr fun x _ => ?_
  congr 1
  rw [Bool.eq_iff_iff, inB_iff]
  simp

theorem up_nil (n : Nat) : Up [] n := up_iff.2 ⟨fun x hx => (by cases hx), List.Pairwise.nil⟩
theorem Up.wider {L : List Int} {i j : Nat} (h : Up L i) (hij : i ≤ j) : Up L j := up_iff.2 ⟨fun x hx => by have := (up_iff.1 h).1 x hx; omega, (up_iff.1 h).2⟩
theorem Up.snoc {L : List Int} {i : Nat} (h : Up L i) : Up (L ++ [(i : Int)]) (i + 1) := by
  refine up_iff.2 ⟨fun x hx => ?_, ?_⟩
  · rcases List.mem_append.1 hx with hx | hx
    · have := (up_iff.1 h).1 x hx; omega
    · have := List.mem_singleton.1 hx; omega
  · rw [List.pairwise_append]
    refine ⟨(up_iff.1 h).2, List.pairwise_singleton _ _, fun x hx y hy => ?_⟩
    have := (up_iff.1 h).1 x hx
    have := List.mem_singleton.1 hy
    omega

set_option maxRecDepth 100000 in
set_option maxHeartbeats 1000000 in
theorem rSome_any (a : Option Addr) (ca n : Nat) (l : List Int) (w : World) (hv : IntS w a l) (hr : ∀ x ∈ l, -9223372036854775808 ≤ x ∧ x ≤ 9223372036854775807) (hn : l.length ≤ 140737488355328) (hn0 : 1 ≤ n) (hn' : n ≤ 1000) :
    Calls Tryz.prog 9 #[.slice a l.length ca, .int .i64 (n : Nat)] w fun e w' => ∃ x L, e = .returned x ∧ RwI w' w.heap.size x L ∧ Up L n ∧ Below w.heap.size w w' := by
  obtain ⟨i0, hi0, hz0, hz1, hz2⟩ := info_parts Tryz.infoInt
  have HV := hid hv
  have HRG := hid hr
  clear hv hr
  go_enter Tryz.func9, Tryz.ntmps9
  go_wp2_with fail
  go_loopw [5, 6] (fun xv iv wr => ∃ (i : Nat) (L : List Int), i ≤ n ∧ iv = .int .i64 i ∧ Hid (Up L i) ∧ Hid (RwI wr w.heap.size xv L) ∧ Hid (Below w.heap.size w wr)) (fun _ iv _ => n - (intOf iv).toNat)
  case atStart => exact ⟨0, [], Nat.zero_le _, rfl, up_nil 0, ⟨rfl, .inl ⟨rfl, rfl⟩⟩, Below.refl _ _⟩
  case round =>
    obtain ⟨i, L, hi, rfl, HU, HR, HB⟩ := hrel
    by_cases hlt : i < n
    · go_wp2_with fail
      have HI0 : Hid (RwI wr w.heap.size u5 L) := HR
      go_loopw [7, 8] (fun bv jv wq => ∃ (j : Nat) (b : Bool), j ≤ l.length ∧ jv = .int .i64 j ∧ bv = .bool b ∧ Hid (RwI wq w.heap.size u5 L) ∧ Hid (Below w.heap.size w wq)) (fun _ jv _ => l.length - (intOf jv).toNat)
      case atStart => exact ⟨0, false, Nat.zero_le _, rfl, rfl, HR, HB⟩
      case round =>
        obtain ⟨j, b, hj, rfl, rfl, HR', HB'⟩ := hrel
        clear HR HB HI0
        by_cases hjl : j < l.length
        · cases b with
          | true =>
            go_wp2
            go_roundw
            case rel => exact ⟨j + 1, true, by omega, by go_num, rfl, HR', HB'⟩
            case measure => simp [intOf]; omega
          | false =>
            obtain ⟨g, o, rfl, hg, c0⟩ := (HV.out.below HB'.out) j hjl
            have hrr := HRG.out l[j] (List.getElem_mem hjl)
            generalize l[j] = z at *
            go_wp2_with fail
            refine (rPick_any z n _ hrr.1 hrr.2 (by omega) (by omega)).mono ?_
            rintro e w1 ⟨rfl, hb1⟩
            generalize pickN z n = P at *
            have HR1 := hid (HR'.out.below hb1)
            have HB1 := hid (HB'.out.trans (hb1.mono HB'.out.size))
            clear HR' HB' hb1 c0
            go_wp2
            go_roundw
            case rel => exact ⟨j + 1, _, by omega, by go_num, rfl, HR1, HB1⟩
            case measure => simp [intOf]; omega
        · obtain rfl : j = l.length := by omega
          cases b with
          | false =>
            go_wp2
            go_roundw
            case rel => exact ⟨i + 1, L, by omega, by go_num, HU.out.wider (by omega), HR', HB'⟩
            case measure => simp [intOf]; omega
          | true =>
            have hle := HU.out.length
            have HOWN := hid HR'.out.own
            have HRA : Hid (RwI (wr.alloc (.cells #[.int .i64 (i : Nat)] 3)) w.heap.size _ L) := World.ownsRow.alloc HR'.out _
            have HBA := hid (HB'.out.alloc HB'.out.size (.cells #[.int .i64 (i : Nat)] 3))
            have HIA := hid (new_int wr (i : Nat))
            go_wp2_with (at_builtin; refine wpList_append_ints rfl _ _ rfl w.heap.size _ L [((i : Nat) : Int)] rfl HRA.out (some ⟨wr.heap.size, 0, none⟩) 1 rfl HIA.out (fun e => by cases e) (by simp; omega) HBA.out.size ?_; intro v' w3 hr3 hg3)
            have HR3 := hid hr3
            have HB3 := hid (HBA.out.grown hg3 HBA.out.size HOWN.out)
            clear hr3 hg3
            go_roundw
            case rel => exact ⟨i + 1, _, by omega, by go_num, HU.out.snoc, HR3, HB3⟩
            case measure => simp [intOf]; omega
    · obtain rfl : i = n := by omega
      go_wp2
      go_ret
      exact ⟨_, L, rfl, HR.out, HU.out, HB.out⟩
end Go.Proofs.YtbejijgelljeaaaGreatDoor


/- rises, comingTo, lessSame of package chain. -/
namespace Go.Proofs.YtbejijgelljeaaaGreatDoor
open Go.RowKit Go.Shelf

theorem iL_get {S : List Nat} {i : Nat} (h : i < S.length) (h' : i < (iL S).length) : (iL S)[i] = ((S[i] : Nat) : Int) := by simp [iL]
set_option maxRecDepth 100000 in
set_option maxHeartbeats 1000000 in
theorem chRises_yes (a : Option Addr) (ca n : Nat) (S : List Nat) (w : World) (h : IntS w a (iL S)) (hr : S.Pairwise (· < ·)) (hb : ∀ x ∈ S, x < n) (hn : n ≤ 1000) (hl : S.length ≤ 1000) :
    Calls Tryz.prog 31 #[.slice a S.length ca, .int .i64 (n : Nat)] w fun e w' => e = .returned (.bool true) ∧ Below w.heap.size w w' := by
  have HV := hid h
  have HR := hid hr
  have HB := hid hb
  clear h hr hb
  go_enter Tryz.func31, Tryz.ntmps31
  go_wp2_with fail
  go_loopw [5, 10] (fun lv iv wr => ∃ i least : Nat, i ≤ S.length ∧ iv = .int .i64 i ∧ lv = .int .i64 least ∧ least ≤ n ∧ Hid (∀ h : i < S.length, least ≤ S[i]) ∧ Hid (Below w.heap.size w wr)) (fun _ iv _ => S.length - (intOf iv).toNat)
  case atStart => exact ⟨0, 0, Nat.zero_le _, rfl, rfl, Nat.zero_le _, fun _ => Nat.zero_le _, Below.refl _ _⟩
  case round =>
    obtain ⟨i, least, hi, rfl, rfl, hle, HL, HW⟩ := hrel
    by_cases hlt : i < S.length
    · have hi' : i < (iL S).length := by rw [iL_length]; exact hlt
      obtain ⟨g, o, rfl, hg, c0⟩ := (HV.out.below HW.out) i hi'
      rw [iL_get hlt] at c0
      have h1 := HL.out hlt
      have h2 := HB.out S[i] (List.getElem_mem hlt)
      have HN : Hid (∀ h : i + 1 < S.length, S[i] + 1 ≤ S[i + 1]) := fun h => List.pairwise_iff_getElem.1 HR.out i (i + 1) hlt h (Nat.lt_succ_self i)
      generalize S[i] = x at *
      have e1 : ¬ ((x : Int) < (least : Int)) := by omega
      have e2 : ¬ ((n : Int) ≤ (x : Int)) := by omega
      go_wp2
      go_roundw
      case rel => exact ⟨i + 1, x + 1, by omega, by go_num, by go_num, by omega, HN, HW⟩
      case measure => simp [intOf]; omega
    · obtain rfl : i = S.length := by omega
      go_wp2
      go_ret
      exact ⟨rfl, HW.out⟩
/-- The states that are none of S, but come to one of it. -/
def opB (e : Nat → Nat → Bool) (S : List Nat) (i : Nat) : Bool := S.any (e i) && !S.any fun j => decide (i = j)
def opN (n : Nat) (e : Nat → Nat → Bool) (S : List Nat) : List Nat := (List.range n).filter (opB e S)
theorem opN_succ (i : Nat) (e : Nat → Nat → Bool) (S : List Nat) : opN (i + 1) e S = opN i e S ++ if opB e S i then [i] else [] := by
  rw [opN, List.range_succ, List.filter_append]
  congr 1
  by_cases h : opB e S i
  · rw [if_pos h]; simp [h]
  · rw [if_neg h]; simp [h]
theorem any_take {p : Nat → Bool} {S : List Nat} {j : Nat} (h : j < S.length) : (S.take (j + 1)).any p = ((S.take j).any p || p S[j]) := by
  rw [List.take_succ_eq_append_getElem h, List.any_append]
  simp
theorem opN_le (n : Nat) (e : Nat → Nat → Bool) (S : List Nat) : (opN n e S).length ≤ n := Nat.le_trans (List.length_filter_le _ _) (by simp)
set_option maxRecDepth 100000 in
set_option maxHeartbeats 2000000 in
theorem chComing_any (B G n cb : Nat) (Rw : Nat → Nat) (e : Nat → Nat → Bool) (b : Option Addr) (S : List Nat) (w : World) (hM : BMt w B G n n Rw e) (hS : IntS w b (iL S)) (hs : ∀ x ∈ S, x < n) (hn : n ≤ 10) (hl : S.length ≤ 1000) :
    Calls Tryz.prog 32 #[.slice (some ⟨G, 0, none⟩) n n, .slice b S.length cb] w fun e' w' => ∃ x, e' = .returned x ∧ RwI w' w.heap.size x (iL (opN n e S)) ∧ Below w.heap.size w w' := by
  have HM := hid hM
  have HV := hid hS
  have HB := hid hs
  clear hM hS hs
  go_enter Tryz.func32, Tryz.ntmps32
  go_wp2_with fail
  go_loopw [5, 13] (fun xv iv wr => ∃ i : Nat, i ≤ n ∧ iv = .int .i64 i ∧ Hid (RwI wr w.heap.size xv (iL (opN i e S))) ∧ Hid (Below w.heap.size w wr)) (fun _ iv _ => n - (intOf iv).toNat)
  case atStart => exact ⟨0, Nat.zero_le _, rfl, ⟨rfl, .inl ⟨rfl, rfl⟩⟩, Below.refl _ _⟩
  case round =>
    obtain ⟨i, hi, rfl, HR, HW⟩ := hrel
    by_cases hlt : i < n
    · go_wp2_with fail
      go_loopw [7, 8, 18] (fun pv qv jv wq => ∃ j : Nat, j ≤ S.length ∧ jv = .int .i64 j ∧ pv = .bool ((S.take j).any (e i)) ∧ qv = .bool ((S.take j).any fun k => decide (i = k)) ∧ Hid (RwI wq w.heap.size u5 (iL (opN i e S))) ∧ Hid (Below w.heap.size w wq)) (fun _ _ jv _ => S.length - (intOf jv).toNat)
      case atStart => exact ⟨0, Nat.zero_le _, rfl, rfl, rfl, HR, HW⟩
      case round =>
        obtain ⟨j, hj, rfl, rfl, rfl, HR', HW'⟩ := hrel
        clear HR HW
        by_cases hlj : j < S.length
        · have hj' : j < (iL S).length := by rw [iL_length]; exact hlj
          obtain ⟨g, o, rfl, hg, c0⟩ := (HV.out.below HW'.out) j hj'
          rw [iL_get hlj] at c0
          have hx := HB.out S[j] (List.getElem_mem hlj)
          have m0 := (HM.out.below HW'.out).slice hlt hlt
          have m1 := (HM.out.below HW'.out).cell hlt hlt hx
          have HA1 := hid (any_take (p := e i) hlj)
          have HA2 := hid (any_take (p := fun k => decide (i = k)) hlj)
          generalize S[j] = x at *
          generalize (S.take j).any (e i) = p at *
          generalize ((S.take j).any fun k => decide (i = k)) = q at *
          generalize e i x = y at *
          by_cases hix : i = x
          · subst hix
            cases p <;> cases q <;>
            · go_wp2
              go_roundw
              case rel => exact ⟨j + 1, by omega, by go_num, by rw [HA1.out]; simp, by rw [HA2.out]; simp, HR', HW'⟩
              case measure => simp [intOf]; omega
          · have hii : ¬ ((i : Int) = (x : Int)) := by omega
            cases p <;> cases q <;>
            · go_wp2
              go_roundw
              case rel => exact ⟨j + 1, by omega, by go_num, by rw [HA1.out]; simp, by rw [HA2.out]; first | (simp; done) | (simp [hix]; exact hii), HR', HW'⟩
              case measure => simp [intOf]; omega
        · obtain rfl : j = S.length := by omega
          have HT : Hid (opN (i + 1) e S = opN i e S ++ if opB e S i then [i] else []) := opN_succ i e S
          have HOB : Hid (opB e S i = ((S.take S.length).any (e i) && !(S.take S.length).any fun k => decide (i = k))) := by show _ = _; rw [List.take_length]; rfl
          generalize (S.take S.length).any (e i) = p at *
          generalize ((S.take S.length).any fun k => decide (i = k)) = q at *
          have hle := opN_le i e S
          by_cases hpq : p = true ∧ q = false
          · obtain ⟨rfl, rfl⟩ := hpq
            have HT2 : Hid (iL (opN (i + 1) e S) = iL (opN i e S) ++ [((i : Nat) : Int)]) := by show _ = _; rw [HT.out, HOB.out, iL_append]; rfl
            have HOWN := hid HR'.out.own
            have HRA : Hid (RwI (wr.alloc (.cells #[.int .i64 (i : Nat)] 3)) w.heap.size _ (iL (opN i e S))) := World.ownsRow.alloc HR'.out _
            have HBA := hid (HW'.out.alloc HW'.out.size (.cells #[.int .i64 (i : Nat)] 3))
            have HIA := hid (new_int wr (i : Nat))
            clear HT HOB
            go_wp2_with (at_builtin; refine wpList_append_ints rfl _ _ rfl w.heap.size _ (iL (opN i e S)) [((i : Nat) : Int)] rfl HRA.out (some ⟨wr.heap.size, 0, none⟩) 1 rfl HIA.out (fun e => by cases e) (by rw [iL_length]; simp; omega) HBA.out.size ?_; intro v' w3 hr3 hg3)
            have HR3 := hid hr3
            have HB3 := hid (HBA.out.grown hg3 HBA.out.size HOWN.out)
            clear hr3 hg3
            go_roundw
            case rel => exact ⟨i + 1, by omega, by go_num, by rw [HT2.out]; exact HR3, HB3⟩
            case measure => simp [intOf]; omega
          · have HT2 : Hid (iL (opN (i + 1) e S) = iL (opN i e S)) := by
              show _ = _
              rw [HT.out, HOB.out]
              cases p <;> cases q <;> simp at hpq ⊢
            clear HT HOB
            cases p <;> cases q <;> (try (exact absurd ⟨rfl, rfl⟩ hpq)) <;>
            · go_wp2
              go_roundw
              case rel => exact ⟨i + 1, by omega, by go_num, by rw [HT2.out]; exact HR', HW'⟩
              case measure => simp [intOf]; omega
    · obtain rfl : i = n := by omega
      go_wp2
      go_ret
      exact ⟨_, rfl, HR.out, HW.out⟩
/-- The rows of a chain, in lowest terms. -/
def mR (n : Nat) (P : Nat → Nat → Rat) : List (List Fr) := (List.range n).map fun i => lF n (P i)
theorem mR_length (n : Nat) (P : Nat → Nat → Rat) : (mR n P).length = n := by simp [mR]
theorem mR_get {n : Nat} {P : Nat → Nat → Rat} {i : Nat} (h : i < (mR n P).length) : (mR n P)[i] = lF n (P i) := by simp [mR]
theorem FsS.at {w : World} {a : Option Addr} {n : Nat} {P : Nat → Nat → Rat} (h : FsS w a (mR n P)) {i j : Nat} (hi : i < n) (hj : j < n) : ∃ g o gr or_ cr, a = some ⟨g, o, none⟩ ∧ g < w.heap.size ∧ gr < w.heap.size ∧ w.cell? ⟨g, o + i, none⟩ = some (.slice (some ⟨gr, or_, none⟩) n cr) ∧ w.cell? ⟨gr, or_ + j * 3, none⟩ = some (.bool (qF (P i j)).1) ∧ w.cell? ⟨gr, or_ + j * 3 + 1, none⟩ = some (.string (qF (P i j)).2.1) ∧ w.cell? ⟨gr, or_ + j * 3 + 2, none⟩ = some (.string (qF (P i j)).2.2) := by
  have hi' : i < (mR n P).length := by rw [mR_length]; exact hi
  obtain ⟨g, o, b, c, h1, h2, h3, h4, h5⟩ := h i hi'
  have hl : (mR n P)[i].length = n := by rw [mR_get, lF_length]
  have hj' : j < (mR n P)[i].length := by rw [hl]; exact hj
  obtain ⟨gr, or_, e1, e2, e3, e4, e5⟩ := h4 j hj'
  have e : (mR n P)[i][j] = qF (P i j) := by simp [mR, lF]
  rw [e] at e3 e4 e5
  subst e1
  exact ⟨g, o, gr, or_, c, h1, h2, e2, by rw [h3, hl], e3, e4, e5⟩

set_option maxRecDepth 100000 in
set_option maxHeartbeats 2000000 in
theorem chLess_any (a : Option Addr) (ca n i j : Nat) (P : Nat → Nat → Rat) (w : World) (hR : FsS w a (mR n P)) (hq : qw (P i j) ≤ 40000) (hi : i < n) (hj : j < n) :
    Calls Tryz.prog 58 #[.slice a n ca, .int .i64 (i : Nat), .int .i64 (j : Nat)] w fun e w' => e = .returned (frV (qF (P i j - if i = j then 1 else 0))) ∧ Below w.heap.size w w' := by
  obtain ⟨g, o, gr, or_, cr, rfl, hg, hgr, c0, c1, c2, c3⟩ := hR.at hi hj
  have hsz : (nu (P i j)).size + (de (P i j)).size ≤ 100000 := by rw [own_size]; omega
  have HO1 := hid (fun V : World => fOf_q (k := 1) (w := V) 1 1 rfl (by decide) (by rfl))
  have HSUB : Hid (∀ V : World, Calls Tryz.prog 59 #[.agg #[.bool (qF (P i j)).1, .string (qF (P i j)).2.1, .string (qF (P i j)).2.2], .agg #[.bool (sgn 1), .string (nu 1), .string (de 1)]] V fun e w' => e = .returned (.agg #[.bool (qF (P i j - 1)).1, .string (qF (P i j - 1)).2.1, .string (qF (P i j - 1)).2.2]) ∧ Below V.heap.size V w') := fun V => fSub_q (P i j - 1) (val_own (P i j)) (val_own 1) rfl hsz (by have h1 : qw 1 ≤ 2 := qw_one2; rw [own_size]; omega)
  clear hR hq hsz
  have hA := (Below.refl w.heap.size w).alloc (Nat.le_refl _) (FC false ⟨#[]⟩ ⟨#[]⟩)
  have hX := Box.new w false ⟨#[]⟩ ⟨#[]⟩
  by_cases hij : i = j
  · subst hij
    rw [if_pos rfl]
    show Calls _ _ _ _ fun e w' => e = .returned (.agg #[.bool (qF (P i i - 1)).1, .string (qF (P i i - 1)).2.1, .string (qF (P i i - 1)).2.2]) ∧ _
    generalize hz1 : qF (P i i) = z1 at *
    obtain ⟨an, ax, ay⟩ := z1
    generalize hz2 : qF (P i i - 1) = z2 at *
    obtain ⟨qn, qx, qy⟩ := z2
    simp only at c1 c2 c3 HSUB
    have HSB := HSUB
    clear HSUB hz1 hz2
    generalize sgn 1 = on at *
    generalize nu 1 = ox at *
    generalize de 1 = oy at *
    go_enter Tryz.func58, Tryz.ntmps58
    go_upto_region 3 with fail
    generalize (w.alloc (FC false ⟨#[]⟩ ⟨#[]⟩)) = W at *
    have HW : Hid (Below w.heap.size w W.drew) := hA.drew
    have HX : Hid (Box W.drew w.heap.size false ⟨#[]⟩ ⟨#[]⟩) := hX
    have HELD : Hid (∀ u, Below w.heap.size w u → u.cell? ⟨g, o + i, none⟩ = some (.slice (some ⟨gr, or_, none⟩) n cr) ∧ u.cell? ⟨gr, or_ + i * 3, none⟩ = some (.bool an) ∧ u.cell? ⟨gr, or_ + i * 3 + 1, none⟩ = some (.string ax) ∧ u.cell? ⟨gr, or_ + i * 3 + 2, none⟩ = some (.string ay)) := fun u h => ⟨(h.cell (p := ⟨g, _, none⟩) hg).trans c0, (h.cell (p := ⟨gr, _, none⟩) hgr).trans c1, (h.cell (p := ⟨gr, _, none⟩) hgr).trans c2, (h.cell (p := ⟨gr, _, none⟩) hgr).trans c3⟩
    clear hA hX c0 c1 c2 c3
    refine wp_region_held_drew (S := fun u => u.cell? ⟨g, o + i, none⟩ = some (.slice (some ⟨gr, or_, none⟩) n cr) ∧ u.cell? ⟨gr, or_ + i * 3, none⟩ = some (.bool an) ∧ u.cell? ⟨gr, or_ + i * 3 + 1, none⟩ = some (.string ax) ∧ u.cell? ⟨gr, or_ + i * 3 + 2, none⟩ = some (.string ay)) (by kernel_rfl) (HELD.out _ HW.out) (fun hSd => ?_)
    generalize W.drew = u0 at *
    refine wpAnyH_take (i := 0) (oi := _) (v := .slice (some ⟨g, o, none⟩) n ca) rfl (by kernel_rfl) (by kernel_rfl) (by kernel_rfl) (fun _ _ _ h => h) (Or.inl ⟨by rfl, ?_⟩) (by assumption) ?_
    · intro u' hSu
      (try simp only [List.getElem_toArray, List.getElem_cons_zero])
      go_simp
    (try simp only [List.getElem_toArray, List.getElem_cons_zero])
    (try simp only [Act.put, List.setIfInBounds_toArray, List.set_cons_zero, List.set_cons_succ])
    refine wpAnyH_take (i := 1) (oi := _) (v := .int .i64 (i : Nat)) rfl (by kernel_rfl) (by kernel_rfl) (by kernel_rfl) (fun _ _ _ h => h) (Or.inl ⟨by rfl, ?_⟩) (by assumption) ?_
    · intro u' hSu
      (try simp only [List.getElem_toArray, List.getElem_cons_zero, List.getElem_cons_succ])
      go_simp
    (try simp only [List.getElem_toArray, List.getElem_cons_zero, List.getElem_cons_succ])
    (try simp only [Act.put, List.setIfInBounds_toArray, List.set_cons_zero, List.set_cons_succ])
    refine wpAnyH_take (i := 2) (oi := _) (v := .pointer (some ⟨g, o + i, none⟩)) rfl (by kernel_rfl) (by kernel_rfl) (by kernel_rfl) (fun _ _ _ h => h) (Or.inl ⟨by rfl, ?_⟩) (by assumption) ?_
    · intro u' hSu
      (try simp only [List.getElem_toArray, List.getElem_cons_zero, List.getElem_cons_succ])
      go_simp
    (try simp only [List.getElem_toArray, List.getElem_cons_zero, List.getElem_cons_succ])
    (try simp only [Act.put, List.setIfInBounds_toArray, List.set_cons_zero, List.set_cons_succ])
    refine wpAnyH_take (i := 3) (oi := _) (v := .slice (some ⟨gr, or_, none⟩) n cr) rfl (by kernel_rfl) (by kernel_rfl) (by kernel_rfl) (fun _ _ _ h => h) (Or.inl ⟨by rfl, ?_⟩) (by assumption) ?_
    · intro u' hSu
      (try simp only [List.getElem_toArray, List.getElem_cons_zero, List.getElem_cons_succ])
      obtain ⟨s0, s1, s2, s3⟩ := hSu
      go_simp
    (try simp only [List.getElem_toArray, List.getElem_cons_zero, List.getElem_cons_succ])
    (try simp only [Act.put, List.setIfInBounds_toArray, List.set_cons_zero, List.set_cons_succ])
    refine wpAnyH_take (i := 4) (oi := _) (v := .int .i64 (i : Nat)) rfl (by kernel_rfl) (by kernel_rfl) (by kernel_rfl) (fun _ _ _ h => h) (Or.inl ⟨by rfl, ?_⟩) (by assumption) ?_
    · intro u' hSu
      (try simp only [List.getElem_toArray, List.getElem_cons_zero, List.getElem_cons_succ])
      go_simp
    (try simp only [List.getElem_toArray, List.getElem_cons_zero, List.getElem_cons_succ])
    (try simp only [Act.put, List.setIfInBounds_toArray, List.set_cons_zero, List.set_cons_succ])
    refine wpAnyH_take (i := 5) (oi := _) (v := .pointer (some ⟨gr, or_ + i * 3, none⟩)) rfl (by kernel_rfl) (by kernel_rfl) (by kernel_rfl) (fun _ _ _ h => h) (Or.inl ⟨by rfl, ?_⟩) (by assumption) ?_
    · intro u' hSu
      (try simp only [List.getElem_toArray, List.getElem_cons_zero, List.getElem_cons_succ])
      go_simp
    (try simp only [List.getElem_toArray, List.getElem_cons_zero, List.getElem_cons_succ])
    (try simp only [Act.put, List.setIfInBounds_toArray, List.set_cons_zero, List.set_cons_succ])
    refine wpAnyH_take (i := 6) (oi := _) (v := .agg #[.bool an, .string ax, .string ay]) rfl (by kernel_rfl) (by kernel_rfl) (by kernel_rfl) (fun _ _ _ h => h) (Or.inl ⟨by rfl, ?_⟩) (by assumption) ?_
    · intro u' hSu
      (try simp only [List.getElem_toArray, List.getElem_cons_zero, List.getElem_cons_succ])
      obtain ⟨s0, s1, s2, s3⟩ := hSu
      go_simp
    (try simp only [List.getElem_toArray, List.getElem_cons_zero, List.getElem_cons_succ])
    (try simp only [Act.put, List.setIfInBounds_toArray, List.set_cons_zero, List.set_cons_succ])
    refine wpAnyH_ready (rs := [7]) (by kernel_rfl) (by simp) (AllReadyH.cons rfl ?_ (AllReadyH.nil))
    · intro K' hK'
      (try simp only [List.getElem_toArray, List.getElem_cons_zero, List.getElem_cons_succ])
      go_simp
      refine (HO1.out _).mono ?_
      rintro e u1 ⟨rfl, hb⟩
      replace HX := hid (HX.out.below hb HX.out.lt)
      replace HW := hid (HW.out.trans (hb.mono HW.out.size))
      refine hK'.out _ _ (HELD.out _ HW.out) (fun hSe => ?_)
      clear hK' K' hSd hb
      have hSd := hSe
      clear hSe
      (try simp only [List.getElem_toArray, List.getElem_cons_zero, List.getElem_cons_succ])
      (try simp only [Act.put, List.setIfInBounds_toArray, List.set_cons_zero, List.set_cons_succ])
      refine wpAnyH_ready (rs := [8]) (by kernel_rfl) (by simp) (AllReadyH.cons rfl ?_ (AllReadyH.nil))
      · intro K' hK'
        (try simp only [List.getElem_toArray, List.getElem_cons_zero, List.getElem_cons_succ])
        go_simp
        refine (HSB.out _).mono ?_
        rintro e u2 ⟨rfl, hb⟩
        replace HX := hid (HX.out.below hb HX.out.lt)
        replace HW := hid (HW.out.trans (hb.mono HW.out.size))
        refine hK'.out _ _ (HELD.out _ HW.out) (fun hSe => ?_)
        clear hK' K' hSd hb
        have hSd := hSe
        clear hSe
        (try simp only [List.getElem_toArray, List.getElem_cons_zero, List.getElem_cons_succ])
        (try simp only [Act.put, List.setIfInBounds_toArray, List.set_cons_zero, List.set_cons_succ])
        have x0 := HX.out.c0
        have x1 := HX.out.c1
        have x2 := HX.out.c2
        have y0 := HX.out.fz 0
        have y1 := HX.out.fz 1
        have y2 := HX.out.fz 2
        refine wpAnyH_ready (rs := [9]) (by kernel_rfl) (by simp) (AllReadyH.cons rfl ?_ (AllReadyH.nil))
        · intro K' hK'
          (try simp only [List.getElem_toArray, List.getElem_cons_zero, List.getElem_cons_succ])
          go_simp
          have HX9 := hid (HX.out.put qn qx qy)
          have HW9 := hid (((HW.out.setCell (p := ⟨w.heap.size, 0, none⟩) (Nat.le_refl _) (.bool qn)).setCell (p := ⟨w.heap.size, 1, none⟩) (Nat.le_refl _) (.string qx)).setCell (p := ⟨w.heap.size, 2, none⟩) (Nat.le_refl _) (.string qy))
          refine hK'.out _ _ (HELD.out _ HW9.out) (fun _ => wpAnyH_done (by kernel_rfl) ?_ _)
          clear hK' K' hSd x0 x1 x2 y0 y1 y2 HX HW
          go_wp2
          refine bodyPost_ret (HX9.out.result rfl _ rfl) rfl ?_
          exact ⟨rfl, HW9.out⟩
  · rw [if_neg hij, show P i j - 0 = P i j by grind]
    show Calls _ _ _ _ fun e w' => e = .returned (.agg #[.bool (qF (P i j)).1, .string (qF (P i j)).2.1, .string (qF (P i j)).2.2]) ∧ _
    generalize hz1 : qF (P i j) = z1 at *
    obtain ⟨an, ax, ay⟩ := z1
    simp only at c1 c2 c3
    clear HSUB HO1 hz1
    have hne : ((i : Int) != (j : Int)) = true := by simp; omega
    have hii : ¬ ((i : Int) = (j : Int)) := by omega
    have d0 := (hA.cell (p := ⟨g, _, none⟩) hg).trans c0
    have d1 := (hA.cell (p := ⟨gr, _, none⟩) hgr).trans c1
    have d2 := (hA.cell (p := ⟨gr, _, none⟩) hgr).trans c2
    have d3 := (hA.cell (p := ⟨gr, _, none⟩) hgr).trans c3
    have HX9 := hid (Box.new w an ax ay)
    have HW9 := hid ((Below.refl w.heap.size w).alloc (Nat.le_refl _) (FC an ax ay))
    have x0 := hX.c0
    have x1 := hX.c1
    have x2 := hX.c2
    have y0 := hX.fz 0
    have y1 := hX.fz 1
    have y2 := hX.fz 2
    clear c0 c1 c2 c3 hA hX
    go_enter Tryz.func58, Tryz.ntmps58
    go_wp2
    refine bodyPost_ret (HX9.out.result rfl _ rfl) rfl ?_
    exact ⟨rfl, HW9.out⟩
end Go.Proofs.YtbejijgelljeaaaGreatDoor

