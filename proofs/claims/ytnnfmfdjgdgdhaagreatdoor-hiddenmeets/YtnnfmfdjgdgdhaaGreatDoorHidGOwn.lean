/- Likely, Forward, Backward of package hidden. -/
import Derived.Test.YtnnfmfdjgdgdhaaGreatDoorHidFOwn
namespace Go.Proofs.YtnnfmfdjgdgdhaaGreatDoor
open Go.RowKit Go.Shelf

theorem HidV.okn {h : HC} {m n : Nat} {l : List Fr} {R1 R2 : List (List Fr)} {Q : List Nat} (v : HidV h m l R1 R2 Q) (hsn : h.s = n) : HidOK n m l R1 R2 := by
  have h1 := v.ok
  rwa [hsn] at h1
/-- What is behind a step, by the step. -/
def HC.behind (h : HC) (t i : Nat) : Rat := h.bet (h.L - 1 - t) i
def HC.best (h : HC) (t i : Nat) : Rat := h.gam (h.L - 1 - t) i
theorem HC.behind_last (h : HC) (i : Nat) : h.behind (h.L - 1) i = 1 := by rw [HC.behind, Nat.sub_self]; rfl
theorem HC.best_last (h : HC) (i : Nat) : h.best (h.L - 1) i = 1 := by rw [HC.best, Nat.sub_self]; rfl
theorem HC.behind_step (h : HC) {t i : Nat} (ht : t + 1 < h.L) : h.behind t i = sumR (fun j => h.mv i j * h.sh (t + 1) j * h.behind (t + 1) j) h.s := by
  rw [HC.behind, show h.L - 1 - t = (h.L - 1 - (t + 1)) + 1 by omega, HC.bet, show h.L - 1 - (h.L - 1 - (t + 1)) = t + 1 by omega]
  rfl
theorem HC.best_step (h : HC) {t i : Nat} (ht : t + 1 < h.L) : h.best t i = (fun f : Nat → Rat => f (bstR f (h.s - 1))) fun j => h.mv i j * h.sh (t + 1) j * h.best (t + 1) j := by
  rw [HC.best, show h.L - 1 - t = (h.L - 1 - (t + 1)) + 1 by omega, HC.gam, show h.L - 1 - (h.L - 1 - (t + 1)) = t + 1 by omega]
  rfl
theorem HC.Sml.behind {h : HC} (v : h.Sml) {t i : Nat} (ht : t < h.L) (hi : i < h.s) : Sm 21 (h.behind t i) := (v.bet (h.L - 1 - t) i (by omega) hi).up (by have := v.L8; omega)
theorem HC.Sml.best {h : HC} (v : h.Sml) (h1 : 1 ≤ h.s) {t i : Nat} (ht : t < h.L) (hi : i < h.s) : Sm 21 (h.best t i) := (v.gam h1 (h.L - 1 - t) i (by omega) hi).up (by have := v.L8; omega)
/-- How likely what is seen is. -/
def HC.seen (h : HC) : Rat := if h.L = 0 then 1 else h.all

set_option maxRecDepth 100000 in
theorem hiBackSum (a b c d : Option Addr) (ca cb cc cd n L m : Nat) (l : List Fr) (R1 R2 : List (List Fr)) (Q : List Nat) (h : HC) (w : World) (hI : HidI w a b c n m l R1 R2) (hV : HidV h m l R1 R2 Q) (hsn : h.s = n) (hL : h.L = L) (hQ : IntS w d (iL Q)) :
    Calls Tryz.prog 21 #[.agg #[.slice a n ca, .slice b n cb, .slice c n cc], .slice d L cd, .func (.func 19) #[] #[]] w fun e w' => ∃ G, e = .returned (.slice (some ⟨G, 0, none⟩) L L) ∧ w.heap.size ≤ G ∧ FsS w' (some ⟨G, 0, none⟩) ((List.range L).map fun t => lF n (h.behind t)) ∧ Below w.heap.size w w' := by
  have hs4 := hV.sm.s4
  refine hiBackward_any a b c d ca cb cc cd n L m 19 l R1 R2 Q h h.behind (fun f => sumR f n) w hI hV hsn hL hQ (enters_of Tryz.func19 (by kernel_rfl) rfl) ?_ ?_ ?_ ?_ ?_
  · intro i _; rw [← hL]; exact h.behind_last i
  · intro t i ht _; rw [← hsn]; exact h.behind_step (by omega)
  · intro t i ht hi; exact (hV.sm.behind (by omega) (by omega)).qw (by omega)
  · intro t i j ht hi hj
    have h1 := (hV.sm.mv i (by omega) j (by omega)).mul (hV.sm.sh (t + 1) (by omega) j (by omega))
    exact ⟨h1.qw (by omega), (h1.mul (hV.sm.behind (t := t + 1) (by omega) (by omega))).qw (by omega)⟩
  · intro f U g k hf hU
    have hl := Lst.mk' hf
    have h9 := fSum_any (some ⟨g, 0, none⟩) k (lF n f) U hU (hl.fw (by omega)) (by rw [lF_length]; omega)
    rw [lF_length, hl.fsum] at h9
    exact h9
set_option maxRecDepth 100000 in
theorem hiBackBest (a b c d : Option Addr) (ca cb cc cd n L m : Nat) (l : List Fr) (R1 R2 : List (List Fr)) (Q : List Nat) (h : HC) (w : World) (hI : HidI w a b c n m l R1 R2) (hV : HidV h m l R1 R2 Q) (hsn : h.s = n) (hL : h.L = L) (hQ : IntS w d (iL Q)) :
    Calls Tryz.prog 21 #[.agg #[.slice a n ca, .slice b n cb, .slice c n cc], .slice d L cd, .func (.func 28) #[] #[]] w fun e w' => ∃ G, e = .returned (.slice (some ⟨G, 0, none⟩) L L) ∧ w.heap.size ≤ G ∧ FsS w' (some ⟨G, 0, none⟩) ((List.range L).map fun t => lF n (h.best t)) ∧ Below w.heap.size w w' := by
  have hs4 := hV.sm.s4
  have hs1 := hV.ok.n1
  refine hiBackward_any a b c d ca cb cc cd n L m 28 l R1 R2 Q h h.best (fun f => f (bstR f (n - 1))) w hI hV hsn hL hQ (enters_of Tryz.func28 (by kernel_rfl) rfl) ?_ ?_ ?_ ?_ ?_
  · intro i _; rw [← hL]; exact h.best_last i
  · intro t i ht _; rw [← hsn]; exact h.best_step (by omega)
  · intro t i ht hi; exact (hV.sm.best hs1 (by omega) (by omega)).qw (by omega)
  · intro t i j ht hi hj
    have h1 := (hV.sm.mv i (by omega) j (by omega)).mul (hV.sm.sh (t + 1) (by omega) j (by omega))
    exact ⟨h1.qw (by omega), (h1.mul (hV.sm.best hs1 (t := t + 1) (by omega) (by omega))).qw (by omega)⟩
  · intro f U g k hf hU
    exact hGreat_any (some ⟨g, 0, none⟩) k n (lF n f) f U hU (Lst.mk' hf) (fun i hi => lF_get hi) (by omega) (by omega)

set_option maxRecDepth 100000 in
set_option maxHeartbeats 1000000 in
theorem hiForward_yes (a b c d : Option Addr) (ca cb cc cd n L m : Nat) (l : List Fr) (R1 R2 : List (List Fr)) (Q : List Nat) (h : HC) (w : World) (hI : HidI w a b c n m l R1 R2) (hV : HidV h m l R1 R2 Q) (hsn : h.s = n) (hL : h.L = L) (hb0 : b = none → cb = 0) (hc0 : c = none → cc = 0) (hQ : IntS w d (iL Q)) :
    Calls Tryz.prog 8 #[.agg #[.slice a n ca, .slice b n cb, .slice c n cc], .slice d L cd] w fun e w' => ∃ G, e = .returned (.tuple #[.slice (some ⟨G, 0, none⟩) L L, .int .i64 0]) ∧ w.heap.size ≤ G ∧ FsS w' (some ⟨G, 0, none⟩) ((List.range L).map fun t => lF n (h.alp t)) ∧ Below w.heap.size w w' := by
  have hqL := hV.L
  rw [hL] at hqL
  have hA := (Below.refl w.heap.size w).alloc (Nat.le_refl _) (HC3 (.slice a n ca) (.slice b n cb) (.slice c n cc))
  have hHB := HBox.new w (.slice a n ca) (.slice b n cb) (.slice c n cc)
  have HCK : Hid (Calls Tryz.prog 17 #[.agg #[.slice a n ca, .slice b n cb, .slice c n cc], .slice d L cd] (w.alloc (HC3 (.slice a n ca) (.slice b n cb) (.slice c n cc))) fun e w' => e = .returned (.int .i64 0) ∧ Below (w.alloc (HC3 (.slice a n ca) (.slice b n cb) (.slice c n cc))).heap.size (w.alloc (HC3 (.slice a n ca) (.slice b n cb) (.slice c n cc))) w') := by
    have h9 := hiCheck2_yes a b c d ca cb cc cd n m l R1 R2 Q (w.alloc (HC3 (.slice a n ca) (.slice b n cb) (.slice c n cc))) (hI.below hA) (hV.okn hsn) hb0 hc0 (hQ.below hA) hV.q (by rw [hqL, ← hL]; exact hV.sm.L8)
    rwa [hqL] at h9
  have HFW := hid (fun (U : World) (hU : Below w.heap.size w U) => hiForward_any a b c d ca cb cc cd n L m l R1 R2 Q h U (hI.below hU) hV hsn hL (hQ.below hU))
  have HH := hid hHB
  have HA := hid hA
  obtain ⟨e0, e1, e2⟩ := hHB.cells
  clear hI hV hsn hL hb0 hc0 hQ hqL hA hHB
  go_enter Tryz.func8, Tryz.ntmps8
  go_wp2_with fail
  generalize (w.alloc (HC3 (.slice a n ca) (.slice b n cb) (.slice c n cc))) = W at *
  refine HCK.out.mono ?_
  rintro e w1 ⟨rfl, hb1⟩
  have HB1 := hid (HA.out.trans (hb1.mono HA.out.size))
  have hH1 := HH.out.below hb1 HH.out.lt
  clear hb1 e0 e1 e2
  obtain ⟨e0, e1, e2⟩ := hH1.cells
  go_wp2_with fail
  refine (HFW.out _ HB1.out).mono ?_
  rintro e w2 ⟨G, rfl, hG, hr, hb2⟩
  have HR := hid hr
  have HB2 := hid (HB1.out.trans (hb2.mono HB1.out.size))
  have hGw : w.heap.size ≤ G := Nat.le_trans HB1.out.size hG
  clear hr hb2 hG hH1 e0 e1 e2
  go_wp2
  go_ret2
  exact ⟨G, rfl, hGw, HR.out, HB2.out⟩

set_option maxRecDepth 100000 in
set_option maxHeartbeats 1000000 in
theorem hiBackward_yes (a b c d : Option Addr) (ca cb cc cd n L m : Nat) (l : List Fr) (R1 R2 : List (List Fr)) (Q : List Nat) (h : HC) (w : World) (hI : HidI w a b c n m l R1 R2) (hV : HidV h m l R1 R2 Q) (hsn : h.s = n) (hL : h.L = L) (hb0 : b = none → cb = 0) (hc0 : c = none → cc = 0) (hQ : IntS w d (iL Q)) :
    Calls Tryz.prog 9 #[.agg #[.slice a n ca, .slice b n cb, .slice c n cc], .slice d L cd] w fun e w' => ∃ G, e = .returned (.tuple #[.slice (some ⟨G, 0, none⟩) L L, .int .i64 0]) ∧ w.heap.size ≤ G ∧ FsS w' (some ⟨G, 0, none⟩) ((List.range L).map fun t => lF n (h.behind t)) ∧ Below w.heap.size w w' := by
  have hqL := hV.L
  rw [hL] at hqL
  have hA := (Below.refl w.heap.size w).alloc (Nat.le_refl _) (HC3 (.slice a n ca) (.slice b n cb) (.slice c n cc))
  have hHB := HBox.new w (.slice a n ca) (.slice b n cb) (.slice c n cc)
  have HCK : Hid (Calls Tryz.prog 17 #[.agg #[.slice a n ca, .slice b n cb, .slice c n cc], .slice d L cd] (w.alloc (HC3 (.slice a n ca) (.slice b n cb) (.slice c n cc))) fun e w' => e = .returned (.int .i64 0) ∧ Below (w.alloc (HC3 (.slice a n ca) (.slice b n cb) (.slice c n cc))).heap.size (w.alloc (HC3 (.slice a n ca) (.slice b n cb) (.slice c n cc))) w') := by
    have h9 := hiCheck2_yes a b c d ca cb cc cd n m l R1 R2 Q (w.alloc (HC3 (.slice a n ca) (.slice b n cb) (.slice c n cc))) (hI.below hA) (hV.okn hsn) hb0 hc0 (hQ.below hA) hV.q (by rw [hqL, ← hL]; exact hV.sm.L8)
    rwa [hqL] at h9
  have HFW := hid (fun (U : World) (hU : Below w.heap.size w U) => hiBackSum a b c d ca cb cc cd n L m l R1 R2 Q h U (hI.below hU) hV hsn hL (hQ.below hU))
  have HH := hid hHB
  have HA := hid hA
  obtain ⟨e0, e1, e2⟩ := hHB.cells
  clear hI hV hsn hL hb0 hc0 hQ hqL hA hHB
  go_enter Tryz.func9, Tryz.ntmps9
  go_wp2_with fail
  generalize (w.alloc (HC3 (.slice a n ca) (.slice b n cb) (.slice c n cc))) = W at *
  refine HCK.out.mono ?_
  rintro e w1 ⟨rfl, hb1⟩
  have HB1 := hid (HA.out.trans (hb1.mono HA.out.size))
  have hH1 := HH.out.below hb1 HH.out.lt
  clear hb1 e0 e1 e2
  obtain ⟨e0, e1, e2⟩ := hH1.cells
  go_wp2_with fail
  refine (HFW.out _ HB1.out).mono ?_
  rintro e w2 ⟨G, rfl, hG, hr, hb2⟩
  have HR := hid hr
  have HB2 := hid (HB1.out.trans (hb2.mono HB1.out.size))
  have hGw : w.heap.size ≤ G := Nat.le_trans HB1.out.size hG
  clear hr hb2 hG hH1 e0 e1 e2
  go_wp2
  go_ret2
  exact ⟨G, rfl, hGw, HR.out, HB2.out⟩

set_option maxRecDepth 100000 in
set_option maxHeartbeats 1000000 in
theorem hiLikely_yes (a b c d : Option Addr) (ca cb cc cd n L m : Nat) (l : List Fr) (R1 R2 : List (List Fr)) (Q : List Nat) (h : HC) (w : World) (hI : HidI w a b c n m l R1 R2) (hV : HidV h m l R1 R2 Q) (hsn : h.s = n) (hL : h.L = L) (hb0 : b = none → cb = 0) (hc0 : c = none → cc = 0) (hQ : IntS w d (iL Q)) :
    Calls Tryz.prog 7 #[.agg #[.slice a n ca, .slice b n cb, .slice c n cc], .slice d L cd] w fun e w' => e = .returned (.tuple #[frV (qF h.seen), .int .i64 0]) ∧ Below w.heap.size w w' := by
  have hqL := hV.L
  rw [hL] at hqL
  have hA0 := (Below.refl w.heap.size w).alloc (Nat.le_refl _) (HC3 (.slice a n ca) (.slice b n cb) (.slice c n cc))
  have hHB0 := HBox.new w (.slice a n ca) (.slice b n cb) (.slice c n cc)
  have hA := hA0.alloc hA0.size (FC false ⟨#[]⟩ ⟨#[]⟩)
  have hst := (Below.refl (w.alloc (HC3 (.slice a n ca) (.slice b n cb) (.slice c n cc))).heap.size (w.alloc (HC3 (.slice a n ca) (.slice b n cb) (.slice c n cc)))).alloc (Nat.le_refl _) (FC false ⟨#[]⟩ ⟨#[]⟩)
  have hHB := hHB0.below hst hHB0.lt
  have hX : Box ((w.alloc (HC3 (.slice a n ca) (.slice b n cb) (.slice c n cc))).alloc (FC false ⟨#[]⟩ ⟨#[]⟩)) (w.heap.size + 1) false ⟨#[]⟩ ⟨#[]⟩ := by
    have h9 := Box.new (w.alloc (HC3 (.slice a n ca) (.slice b n cb) (.slice c n cc))) false ⟨#[]⟩ ⟨#[]⟩
    rwa [World.size_alloc] at h9
  have HCK : Hid (Calls Tryz.prog 17 #[.agg #[.slice a n ca, .slice b n cb, .slice c n cc], .slice d L cd] ((w.alloc (HC3 (.slice a n ca) (.slice b n cb) (.slice c n cc))).alloc (FC false ⟨#[]⟩ ⟨#[]⟩)) fun e w' => e = .returned (.int .i64 0) ∧ Below ((w.alloc (HC3 (.slice a n ca) (.slice b n cb) (.slice c n cc))).alloc (FC false ⟨#[]⟩ ⟨#[]⟩)).heap.size ((w.alloc (HC3 (.slice a n ca) (.slice b n cb) (.slice c n cc))).alloc (FC false ⟨#[]⟩ ⟨#[]⟩)) w') := by
    have h9 := hiCheck2_yes a b c d ca cb cc cd n m l R1 R2 Q _ (hI.below hA) (hV.okn hsn) hb0 hc0 (hQ.below hA) hV.q (by rw [hqL, ← hL]; exact hV.sm.L8)
    rwa [hqL] at h9
  have HFW := hid (fun (U : World) (hU : Below w.heap.size w U) => hiForward_any a b c d ca cb cc cd n L m l R1 R2 Q h U (hI.below hU) hV hsn hL (hQ.below hU))
  have hn4 := hV.sm.s4
  have hL8 := hV.sm.L8
  rw [hsn] at hn4
  rw [hL] at hL8
  have HSE : Hid (∀ k, k + 1 = L → h.seen = sumR (h.alp k) n) := fun k hk => by
    rw [HC.seen, if_neg (by omega), HC.all, hsn, show h.L - 1 = k by omega]
  have HSZ : Hid (L = 0 → h.seen = 1) := fun e => by rw [HC.seen, if_pos (by omega)]
  have HAL : Hid (∀ k, k + 1 = L → Lst n (h.alp k) (lF n (h.alp k))) := fun k hk => by
    have h9 := hV.alps k (by omega)
    rwa [hsn] at h9
  have HO1 := hid (fun V : World => fOf_q (k := 1) (w := V) 1 1 rfl (by decide) (by rfl))
  have HH := hid hHB
  have HX := hid hX
  have HA := hid hA
  obtain ⟨e0, e1, e2⟩ := hHB.cells
  clear hI hV hsn hL hb0 hc0 hQ hqL hA hHB hA0 hHB0 hst hX
  generalize h.seen = q at *
  go_enter Tryz.func7, Tryz.ntmps7
  go_wp2_with fail
  generalize ((w.alloc (HC3 (.slice a n ca) (.slice b n cb) (.slice c n cc))).alloc (FC false ⟨#[]⟩ ⟨#[]⟩)) = W at *
  refine HCK.out.mono ?_
  rintro e w1 ⟨rfl, hb1⟩
  have HB1 := hid (HA.out.trans (hb1.mono HA.out.size))
  have hH1 := HH.out.below hb1 HH.out.lt
  replace HX := hid (HX.out.below hb1 HX.out.lt)
  clear hb1 e0 e1 e2
  obtain ⟨e0, e1, e2⟩ := hH1.cells
  by_cases hL0 : L = 0
  · have HQ1 := hid (HSZ.out hL0)
    have hli : (L : Int) = 0 := by omega
    clear hL0
    go_wp2_with fail
    refine (HO1.out _).mono ?_
    rintro e w2 ⟨rfl, hb2⟩
    replace HX := hid (HX.out.below hb2 HX.out.lt)
    have HB2 := hid (HB1.out.trans (hb2.mono HB1.out.size))
    obtain ⟨k0, k1, k2, f0, f1, f2⟩ := HX.out.facts
    clear hb2 hH1 e0 e1 e2
    go_wp2
    refine bodyPost_ret ((HX.out.put _ _ _).result2 rfl _ rfl) rfl ?_
    exact ⟨by rw [HQ1.out]; rfl, below_put HB2.out (by omega) _ _ _⟩
  · obtain ⟨k, hk⟩ : ∃ k, k + 1 = L := ⟨L - 1, by omega⟩
    have hli : ¬ (L : Int) = 0 := by omega
    have hlb : ((L : Int) == 0) = false := by simpa using hli
    have hk1 : (L : Int) - 1 = (k : Int) := by omega
    have hkL : k < L := by omega
    have HQ2 := hid (HSE.out k hk)
    have HAK := hid (HAL.out k hk)
    clear hk hL0
    go_wp2_with fail
    refine (HFW.out _ HB1.out).mono ?_
    rintro e w2 ⟨G, rfl, hG, hr, hb2⟩
    replace HX := hid (HX.out.below hb2 HX.out.lt)
    have HB2 := hid (HB1.out.trans (hb2.mono HB1.out.size))
    obtain ⟨g', o', b', c', e', hg', r0, r1, -⟩ := hr k (by simpa using hkL)
    cases e'
    have er : ((List.range L).map fun t => lF n (h.alp t))[k]'(by simpa using hkL) = lF n (h.alp k) := by simp
    rw [er, lF_length, Nat.zero_add] at r0
    rw [er] at r1
    have HSU : Hid (Calls Tryz.prog 19 #[.slice b' n c'] w2 fun e w' => e = .returned (.agg #[.bool (sgn q), .string (nu q), .string (de q)]) ∧ Below w2.heap.size w2 w') := by
      have h9 := fSum_any b' c' (lF n (h.alp k)) w2 r1 (HAK.out.fw hn4) (by rw [lF_length]; omega)
      rw [lF_length, HAK.out.fsum, ← HQ2.out] at h9
      exact h9
    clear hr hb2 hG hH1 e0 e1 e2 er r1
    go_wp2_with fail
    refine HSU.out.mono ?_
    rintro e w3 ⟨rfl, hb3⟩
    replace HX := hid (HX.out.below hb3 HX.out.lt)
    have HB3 := hid (HB2.out.trans (hb3.mono HB2.out.size))
    obtain ⟨k0, k1, k2, f0, f1, f2⟩ := HX.out.facts
    clear hb3 r0
    go_wp2
    refine bodyPost_ret ((HX.out.put _ _ _).result2 rfl _ rfl) rfl ?_
    exact ⟨rfl, below_put HB3.out (by omega) _ _ _⟩
end Go.Proofs.YtnnfmfdjgdgdhaaGreatDoor

