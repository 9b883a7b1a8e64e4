/- Classes of package chain. -/
import Derived.Test.YtbejijgelljeaaaGreatDoorStlAPwStlB
namespace Go.Proofs.YtbejijgelljeaaaGreatDoor
open Go.RowKit Go.Shelf
theorem wpList_append_lr {w : World} {ops : Array Oper} {rest : List Oper} {o : Oper} {a : Act} {Q : Exit → Act → World → Prop} (hgd : o.guard = none) (s x : Operand)
    (ho : o.op = .call { callee := .builtin .append, args := #[s, x], argTypes := #[42, 42] }) (base : Nat) (v : Value) (P : List PL) (q : Value) (hq : SlV q) (hs : a.eval s = v) (hown : w.ownsRow base 22 1 v P.length (P.map (·.1))) (g : Nat) (hx : a.eval x = .slice (some ⟨g, 0, none⟩) 1 1) (hg : w.cell? ⟨g, 0, none⟩ = some q) (hlen : P.length + 1 ≤ 100000) (hbase : base ≤ w.heap.size)
    (h : ∀ v' w', w'.ownsRow base 22 1 v' (P.length + 1) (P.map (·.1) ++ [q]) → w.grownBy w' v.ownBlock → wpList Tryz.prog ops Q rest (a.put o.dst v') w') : wpList Tryz.prog ops Q (o :: rest) a w := by
  obtain ⟨i0, hi0, hz0, hz1, hz2⟩ := info_parts Tryz.infoInts
  refine wpList_append_own _ hgd s x 42 ho base 22 i0 (.slice none 0 0) 1 24 Tryz.underlying42 hi0 hz0 hz1 hz2 rfl (by decide) v P.length _ hs hown ⟨g, 0, none⟩ 1 1 [q] hx rfl ?_ ?_ (by unfold maxLen; omega) (by omega) hbase ?_
  · intro j u hj
    match j, hj with
    | 0, hj => cases hj; exact hg
    | j + 1, hj => simp at hj
  · intro u hu
    simp only [List.mem_cons, List.not_mem_nil, or_false] at hu
    subst hu
    obtain ⟨_, _, _, rfl⟩ := hq
    rfl
  · intro v' w' h1 h2 _
    exact h v' w' h1 h2
/-- A row of bools that a call owns. -/
def RwB' (w : World) (B : Nat) (v : Value) (l : List Bool) : Prop := w.ownsRow B 4 1 v l.length (l.map Value.bool)
theorem RwB'.empty (w : World) (B : Nat) : RwB' w B (.slice none 0 0) [] := ⟨rfl, .inl ⟨rfl, rfl⟩⟩
theorem RwB'.bos {w : World} {B : Nat} {v : Value} {l : List Bool} (h : RwB' w B v l) : ∃ d cd, v = .slice d l.length cd ∧ BoS' w d l ∧ l.length ≤ cd := by
  rcases h.2 with ⟨h1, h2⟩ | ⟨g, cap, cur, h1, h2, h3, h4, h5, h6, h7⟩
  · exact ⟨none, 0, by rw [h1, h2], fun k hk => absurd hk (by omega), by omega⟩
  · refine ⟨_, cap, h1, fun k hk => ⟨g, 0, rfl, (Array.getElem?_eq_some_iff.1 h3).1, ?_⟩, h4⟩
    have h8 := h
    rw [h1] at h8
    rw [Nat.zero_add, World.ownsRow.cellAt h8 k (by omega)]
    simp [hk]
theorem wpList_append_bo {w : World} {ops : Array Oper} {rest : List Oper} {o : Oper} {a : Act} {Q : Exit → Act → World → Prop} (hgd : o.guard = none) (s x : Operand)
    (ho : o.op = .call { callee := .builtin .append, args := #[s, x], argTypes := #[43, 43] }) (base : Nat) (v : Value) (l : List Bool) (q : Bool) (hs : a.eval s = v) (hown : RwB' w base v l) (g : Nat) (hx : a.eval x = .slice (some ⟨g, 0, none⟩) 1 1) (hg : w.cell? ⟨g, 0, none⟩ = some (.bool q)) (hlen : l.length + 1 ≤ 100000) (hbase : base ≤ w.heap.size)
    (h : ∀ v' w', RwB' w' base v' (l ++ [q]) → w.grownBy w' v.ownBlock → wpList Tryz.prog ops Q rest (a.put o.dst v') w') : wpList Tryz.prog ops Q (o :: rest) a w := by
  obtain ⟨i0, hi0, hz0, hz1, hz2⟩ := info_parts Tryz.infoBoolc
  refine wpList_append_own _ hgd s x 43 ho base 4 i0 (.bool false) 1 1 Tryz.underlying43 hi0 hz0 hz1 hz2 rfl (by decide) v l.length _ hs hown ⟨g, 0, none⟩ 1 1 [.bool q] hx rfl ?_ ?_ (by unfold maxLen; omega) (by omega) hbase ?_
  · intro j u hj
    match j, hj with
    | 0, hj => cases hj; exact hg
    | j + 1, hj => simp at hj
  · intro u hu
    simp only [List.mem_cons, List.not_mem_nil, or_false] at hu
    subst hu
    rfl
  · intro v' w' h1 h2 _
    refine h v' w' ?_ h2
    rw [RwB', List.length_append, List.map_append]
    exact h1
/-- The least states of classes. -/
def lstN (n : Nat) (e : Nat → Nat → Bool) (i : Nat) : List Nat := (List.range i).filter fun k => decide ((clN n e k).head? = some k)
theorem lstN_succ (n : Nat) (e : Nat → Nat → Bool) (i : Nat) : lstN n e (i + 1) = lstN n e i ++ if (clN n e i).head? = some i then [i] else [] := by
  rw [lstN, List.range_succ, List.filter_append]
  congr 1
  by_cases h : (clN n e i).head? = some i
  · rw [if_pos h]; simp [h]
  · rw [if_neg h]; simp [h]
theorem lstN_le (n : Nat) (e : Nat → Nat → Bool) (i : Nat) : (lstN n e i).length ≤ i := Nat.le_trans (List.length_filter_le _ _) (by simp)
/-- Classes under way. -/
structure ClS (B n : Nat) (e : Nat → Nat → Bool) (i : Nat) (x y : Value) (Q : List PL) (U : World) : Prop where
  row : OwL U B x Q
  cl : RwB' U B y ((lstN n e i).map (stB n e))
  val : Q.map (·.2) = (lstN n e i).map fun k => iL (clN n e k)
theorem ClS.step {U U' : World} {B n i : Nat} {e : Nat → Nat → Bool} {x y : Value} {Q : List PL} (h : ClS B n e i x y Q U) (hb : Below U.heap.size U U') : ClS B n e i x y Q U' := ⟨h.row.keep (KeepT.below hb) (KeepT.below hb), owns_keep h.cl (KeepT.below hb), h.val⟩
theorem ClS.len {U : World} {B n i : Nat} {e : Nat → Nat → Bool} {x y : Value} {Q : List PL} (h : ClS B n e i x y Q U) : Q.length = (lstN n e i).length := by
  have := congrArg List.length h.val
  simpa using this
/-- A class more, ahead of its bool. -/
theorem ClS.push {U U' : World} {B n i : Nat} {e : Nat → Nat → Bool} {x y v' q : Value} {Q : List PL} {r : List Int} (h : ClS B n e i x y Q U) (hr : U'.ownsRow B 22 1 v' (Q.length + 1) (Q.map (·.1) ++ [q])) (hg : U.grownBy U' x.ownBlock) (hq : RwI U B q r) : OwL U' B v' (Q ++ [(q, r)]) ∧ RwB' U' B y ((lstN n e i).map (stB n e)) := by
  have hk : KeepT 3 U U' := KeepT.grown hg (owns_typed h.row.1) (by decide)
  refine ⟨⟨by rw [List.length_append, List.map_append]; exact hr, fun p hp => ?_⟩, owns_keep h.cl (KeepT.grown hg (owns_typed h.row.1) (by decide))⟩
  rcases List.mem_append.1 hp with hp | hp
  · exact owns_keep (h.row.2 p hp) hk
  · rw [List.mem_singleton.1 hp]
    exact owns_keep hq hk
theorem ClS.done {U U' : World} {B n i : Nat} {e : Nat → Nat → Bool} {x y v' : Value} {Q : List PL} {q : Value} (hx : OwL U B x (Q ++ [(q, iL (clN n e i))])) (hy : RwB' U B y ((lstN n e i).map (stB n e))) (hv : Q.map (·.2) = (lstN n e i).map fun k => iL (clN n e k)) (hs : lstN n e (i + 1) = lstN n e i ++ [i]) (hr : RwB' U' B v' ((lstN n e i).map (stB n e) ++ [stB n e i])) (hg : U.grownBy U' y.ownBlock) : ClS B n e (i + 1) x v' (Q ++ [(q, iL (clN n e i))]) U' :=
  ⟨hx.keep (KeepT.grown hg (owns_typed hy) (by decide)) (KeepT.grown hg (owns_typed hy) (by decide)), by rw [hs, List.map_append]; exact hr, by rw [hs, List.map_append, List.map_append, hv]; rfl⟩
set_option maxRecDepth 100000 in
set_option maxHeartbeats 4000000 in
theorem chClasses_any (a : Option Addr) (ca n : Nat) (P : Nat → Nat → Rat) (w : World) (hR : FsS w a (mR n P)) {F : Nat} (hm : ChK F n P) :
    Calls Tryz.prog 19 #[.slice a n ca] w fun e' w' => ∃ x y Q B, e' = .returned (.tuple #[x, y, .int .i64 0]) ∧ w.heap.size ≤ B ∧ ClS B n (cmsB n P) n x y Q w' ∧ Below w.heap.size w w' := by
  have h1 := hm.one
  have h5 := hm.five
  have HCK := hid (fun (U : World) (hU : FsS U a (mR n P)) => chCheck_yes a ca n (mR n P) U hU hm.ok h1 (by omega))
  have HCO := hid (fun (U : World) (hU : FsS U a (mR n P)) => chComes_any a ca n (mR n P) P U hU (mR_length n P) hm.lst (by omega))
  have HME : Hid (∀ i, i < n → i ∈ clN n (cmsB n P) i) := fun i hi => List.mem_filter.2 ⟨List.mem_range.2 hi, by rw [cms_self]; rfl⟩
  have HR := hid hR
  clear hR hm
  generalize cmsB n P = e at *
  go_enter Tryz.func19, Tryz.ntmps19
  go_wp2_with fail
  refine (HCK.out _ HR.out).mono ?_
  rintro e1 w1 ⟨rfl, hb1⟩
  have HB1 := hid hb1
  clear hb1 HCK
  go_wp2_with fail
  refine (HCO.out _ (HR.out.below HB1.out)).mono ?_
  rintro e1 w3 ⟨G, Rw, rfl, hm3, hb3⟩
  have HB3 := hid (HB1.out.trans (hb3.mono HB1.out.size))
  have HM3 := hid hm3
  clear hb3 hm3 HCO
  have HK0 : Hid (ClS w3.heap.size n e 0 (.slice none 0 0) (.slice none 0 0) [] w3) := ⟨OwL.nil _ _, RwB'.empty _ _, rfl⟩
  go_wp2_with fail
  go_loopw [2, 3, 19] (fun xv yv iv wr => ∃ (i : Nat) (Q : List PL), i ≤ n ∧ iv = .int .i64 i ∧ Hid (ClS w3.heap.size n e i xv yv Q wr) ∧ Hid (Below w3.heap.size w3 wr)) (fun _ _ iv _ => n - (intOf iv).toNat)
  case atStart => exact ⟨0, [], Nat.zero_le _, rfl, HK0, Below.refl _ _⟩
  case round =>
    obtain ⟨i, Q, hi, rfl, HK, HB⟩ := hrel
    clear HK0
    by_cases hlt : i < n
    · have HCL := hid (chClass_any _ G n i Rw e wr (HM3.out.below HB.out) hlt (by omega))
      go_wp2_with fail
      refine HCL.out.mono ?_
      rintro e1 w4 ⟨v, rfl, hr4, hb4⟩
      have hsz := HB.out.size
      replace HK := hid (HK.out.step hb4)
      replace HB := hid (HB.out.trans (hb4.mono HB.out.size))
      have HR4 : Hid (RwI w4 w3.heap.size v (iL (clN n e i))) := hr4.lower hsz
      clear hr4 hb4 HCL hsz
      have hm := HME.out i hlt
      have hpos := List.length_pos_of_mem hm
      obtain ⟨dv, cv, rfl, hiv⟩ := RwI.ints HR4.out
      have hk0 : 0 < (iL (clN n e i)).length := by rw [iL_length]; exact hpos
      obtain ⟨gv, ov, rfl, hgv, c0⟩ := hiv 0 hk0
      rw [iL_get hpos, Nat.add_zero] at c0
      have HHD : Hid ((clN n e i).head? = some (clN n e i)[0]) := by show _ = _; rw [List.head?_eq_getElem?, List.getElem?_eq_getElem hpos]
      have HST := hid (lstN_succ n e i)
      have HQL := hid HK.out.len
      have hql := lstN_le n e i
      rw [iL_length] at HR4 ⊢
      generalize (clN n e i)[0] = f0 at *
      obtain ⟨m, hcl⟩ : ∃ m, (clN n e i).length = m := ⟨_, rfl⟩
      rw [hcl] at HR4 hpos
      simp only [hcl]
      clear hcl hiv hm hk0
      by_cases hf : f0 = i
      · subst hf
        have HLS : Hid (lstN n e (f0 + 1) = lstN n e f0 ++ [f0]) := by show _ = _; rw [HST.out, if_pos HHD.out]
        obtain ⟨dx, cx, rfl, -⟩ := owns_slice HK.out.row.1
        obtain ⟨dy, cy, hye, -, -⟩ := HK.out.cl.bos
        obtain ⟨BL, hBL⟩ : ∃ BL, (lstN n e f0).map (stB n e) = BL := ⟨_, rfl⟩
        rw [hBL] at hye
        have HBLE := hid hBL
        have hBLl : BL.length ≤ n := by rw [← hBL, List.length_map]; omega
        clear hBL
        subst hye
        have hAL := (Below.refl w4.heap.size w4).alloc (Nat.le_refl _) (.cells #[.slice (some ⟨gv, ov, none⟩) m cv] 22)
        have hone : (w4.alloc (.cells #[.slice (some ⟨gv, ov, none⟩) m cv] 22)).heap[w4.heap.size]? = some (.cells #[.slice (some ⟨gv, ov, none⟩) m cv] 22 (0, 0)) := heap_alloc_new w4 _
        have HC1 : Hid ((w4.alloc (.cells #[.slice (some ⟨gv, ov, none⟩) m cv] 22)).cell? ⟨w4.heap.size, 0, none⟩ = some (.slice (some ⟨gv, ov, none⟩) m cv)) := by
          show _ = _
          rw [cell_of_row _ _ _ _ _ (0, 0) hone]
          rfl
        have HK5 := hid (HK.out.step hAL)
        have HR5 := hid (HR4.out.below hAL)
        have HB5 := hid (HB.out.trans (hAL.mono HB.out.size))
        have HV5 := hid HK.out.val
        have hQ : Q.length + 1 ≤ 100000 := by have := HQL.out; omega
        have HLL : Hid (BL.length + 1 ≤ 100000) := by show _ ≤ _; omega
        have HSLV : Hid (SlV (.slice (some ⟨gv, ov, none⟩) m cv)) := ⟨_, _, _, rfl⟩
        clear hAL hone HK HB HR4 HHD HST
        generalize hbv : stB n e f0 = bv at *
        have HBV := hid hbv
        clear hbv
        go_wp2_with (first
          | (at_builtin; refine wpList_append_lr rfl _ _ rfl w3.heap.size (.slice dx Q.length cx) Q (.slice (some ⟨gv, ov, none⟩) m cv) HSLV.out rfl HK5.out.row.1 w4.heap.size rfl HC1.out hQ HB5.out.size ?_; intro v6 w6 hr6 hg6; obtain ⟨h6a, h6b⟩ := HK5.out.push hr6 hg6 HR5.out; have HB6 := hid (HB5.out.grown hg6 HB5.out.size (fun k e => owns_from HK5.out.row.1 k e)); have HX7 := hid (h6a.keep (KeepT.below ((Below.refl w6.heap.size w6).alloc (Nat.le_refl _) (.cells #[.bool bv] 4))) (KeepT.below ((Below.refl w6.heap.size w6).alloc (Nat.le_refl _) (.cells #[.bool bv] 4)))); have HY7 : Hid (RwB' (w6.alloc (.cells #[.bool bv] 4)) w3.heap.size (.slice dy BL.length cy) BL) := (by rw [HBLE.out] at h6b; exact owns_keep h6b (KeepT.below ((Below.refl w6.heap.size w6).alloc (Nat.le_refl _) (.cells #[.bool bv] 4)))); have HB7 := hid (HB6.out.alloc HB6.out.size (.cells #[.bool bv] 4)); have HC7 : Hid ((w6.alloc (.cells #[.bool bv] 4)).cell? ⟨w6.heap.size, 0, none⟩ = some (.bool bv)) := (by show _ = _; rw [cell_of_row _ _ _ _ _ (0, 0) (heap_alloc_new w6 (.cells #[.bool bv] 4))]; rfl); clear h6a h6b hr6 hg6)
          | (at_builtin; refine wpList_append_bo rfl _ _ rfl w3.heap.size (.slice dy BL.length cy) BL bv rfl HY7.out w6.heap.size rfl HC7.out HLL.out HB7.out.size ?_; intro v8 w8 hr8 hg8; have HK8 : Hid (ClS w3.heap.size n e (f0 + 1) v6 v8 (Q ++ [(.slice (some ⟨gv, ov, none⟩) m cv, iL (clN n e f0))]) w8) := ClS.done HX7.out (by rw [HBLE.out]; exact HY7.out) HV5.out HLS.out (by rw [HBLE.out, HBV.out]; exact hr8) hg8; have HB8 := hid (HB7.out.grown hg8 HB7.out.size (fun k e => owns_from HY7.out k e)); clear hr8 hg8))
        go_roundw
        case rel => exact ⟨f0 + 1, _, by omega, by go_num, HK8, HB8⟩
        case measure => simp [intOf]; omega
      · have hne : ¬ ((f0 : Int) = (i : Int)) := by omega
        have HLS : Hid (lstN n e (i + 1) = lstN n e i) := by
          show _ = _
          rw [HST.out, if_neg (by rw [HHD.out]; exact fun e => hf (Option.some.inj e)), List.append_nil]
        have HKN : Hid (ClS w3.heap.size n e (i + 1) u2 u3 Q w4) := ⟨HK.out.row, by rw [HLS.out]; exact HK.out.cl, by rw [HLS.out]; exact HK.out.val⟩
        go_wp2
        go_roundw
        case rel => exact ⟨i + 1, Q, by omega, by go_num, HKN, HB⟩
        case measure => simp [intOf]; omega
    · obtain rfl : n = i := by omega
      have HBF := hid (HB3.out.trans (HB.out.mono HB3.out.size))
      go_wp2
      go_ret3
      exact ⟨_, _, Q, _, rfl, HB3.out.size, HK.out, HBF.out⟩
end Go.Proofs.YtbejijgelljeaaaGreatDoor

/- Chains, plainly: classes that nothing leaves; one there is. -/
namespace Go.Proofs.YtbejijgelljeaaaGreatDoor
theorem clN_mem {n : Nat} {e : Nat → Nat → Bool} {i j : Nat} : j ∈ clN n e i ↔ j < n ∧ e i j = true ∧ e j i = true := by
  rw [clN, List.mem_filter, List.mem_range, Bool.and_eq_true]
theorem clN_nodup (n : Nat) (e : Nat → Nat → Bool) (i : Nat) : (clN n e i).Nodup := List.Pairwise.filter _ List.nodup_range
theorem stB_iff {n : Nat} {e : Nat → Nat → Bool} {i : Nat} : stB n e i = true ↔ ∀ j, j < n → e i j = true → e j i = true := by
  rw [stB, List.all_eq_true]
  constructor
  · intro h j hj hp
    have := h j (List.mem_range.2 hj)
    rw [hp] at this
    simpa using this
  · intro h j hj
    cases hp : e i j with
    | false => rfl
    | true => rw [h j (List.mem_range.1 hj) hp]; rfl
theorem cls_of {n : Nat} {P : Nat → Nat → Rat} {i : Nat} (hi : i < n) (h : stB n (cmsB n P) i = true) : Cls n P (clN n (cmsB n P) i) := by
  have hs := stB_iff.1 h
  refine ⟨clN_nodup _ _ _, fun x hx => (clN_mem.1 hx).1, List.length_pos_of_mem (clN_mem.2 ⟨hi, cms_self _ _ _, cms_self _ _ _⟩), fun x hx y hy hp => ?_, fun x hx y hy => ?_⟩
  · obtain ⟨h1, h2, h3⟩ := clN_mem.1 hx
    have h4 := cms_trans h1 h2 (cms_step n P hp)
    exact clN_mem.2 ⟨hy, h4, hs y hy h4⟩
  · obtain ⟨h1, h2, h3⟩ := clN_mem.1 hx
    obtain ⟨q1, q2, q3⟩ := clN_mem.1 hy
    exact cms_trans hi h3 q2
/-- Of the same class. -/
theorem clN_same {n : Nat} {P : Nat → Nat → Rat} {i j : Nat} (hi : i < n) (hj : j ∈ clN n (cmsB n P) i) : clN n (cmsB n P) j = clN n (cmsB n P) i := by
  obtain ⟨h1, h2, h3⟩ := clN_mem.1 hj
  refine List.filter_congr fun x hx => ?_
  have hxn := List.mem_range.1 hx
  have e1 : cmsB n P j x = cmsB n P i x := by
    cases q : cmsB n P i x with
    | true => exact cms_trans hi h3 q
    | false =>
      cases q2 : cmsB n P j x with
      | false => rfl
      | true => rw [cms_trans h1 h2 q2] at q; cases q
  have e2 : cmsB n P x j = cmsB n P x i := by
    cases q : cmsB n P x i with
    | true => exact cms_trans hi q h2
    | false =>
      cases q2 : cmsB n P x j with
      | false => rfl
      | true => rw [cms_trans h1 q2 h3] at q; cases q
  rw [e1, e2]
theorem stB_same {n : Nat} {P : Nat → Nat → Rat} {i j : Nat} (hi : i < n) (hj : j ∈ clN n (cmsB n P) i) (h : stB n (cmsB n P) i = true) : stB n (cmsB n P) j = true := by
  obtain ⟨h1, h2, h3⟩ := clN_mem.1 hj
  refine stB_iff.2 fun x hx hp => ?_
  exact cms_trans hi (stB_iff.1 h x hx (cms_trans h1 h2 hp)) h2
/-- There is a closed one. -/
theorem stB_some {n : Nat} {P : Nat → Nat → Rat} : ∀ (c i : Nat), i < n → ((List.range n).filter (cmsB n P i)).length ≤ c → ∃ j, j < n ∧ stB n (cmsB n P) j = true
  | c, i, hi, hc => by
    by_cases h : stB n (cmsB n P) i = true
    · exact ⟨i, hi, h⟩
    · have hx : ∃ x, x < n ∧ cmsB n P i x = true ∧ cmsB n P x i = false := by
        refine Classical.byContradiction fun hno => h (stB_iff.2 fun x hxn hp => ?_)
        cases q : cmsB n P x i with
        | true => rfl
        | false => exact absurd ⟨x, hxn, hp, q⟩ hno
      obtain ⟨x, hxn, h1, h2⟩ := hx
      have hlt : ((List.range n).filter (cmsB n P x)).length < ((List.range n).filter (cmsB n P i)).length := by
        have hsub : ((List.range n).filter (cmsB n P x) ++ [i]).length ≤ ((List.range n).filter (cmsB n P i)).length := by
          have hnd : ((List.range n).filter (cmsB n P x) ++ [i]).Nodup := by
            rw [List.nodup_append]
            refine ⟨List.Pairwise.filter _ List.nodup_range, by simp, fun a ha b hb e => ?_⟩
            rw [List.mem_singleton.1 hb] at e
            subst e
            rw [(List.mem_filter.1 ha).2] at h2
            cases h2
          exact List.Nodup.length_le_of_subset hnd fun a ha => by
            rcases List.mem_append.1 ha with ha | ha
            · exact List.mem_filter.2 ⟨(List.mem_filter.1 ha).1, cms_trans hxn h1 (List.mem_filter.1 ha).2⟩
            · rw [List.mem_singleton.1 ha]
              exact List.mem_filter.2 ⟨List.mem_range.2 hi, cms_self _ _ _⟩
        rw [List.length_append] at hsub
        simp at hsub
        omega
      match c with
      | 0 => omega
      | c + 1 => exact stB_some c x hxn (by omega)
theorem lstN_mem {n : Nat} {e : Nat → Nat → Bool} {k : Nat} : k ∈ lstN n e n ↔ k < n ∧ (clN n e k).head? = some k := by
  rw [lstN, List.mem_filter, List.mem_range, decide_eq_true_iff]
/-- The least of a class. -/
theorem lst_of {n : Nat} {P : Nat → Nat → Rat} {i : Nat} (hi : i < n) : ∃ k, k ∈ lstN n (cmsB n P) n ∧ k ∈ clN n (cmsB n P) i := by
  have hm : i ∈ clN n (cmsB n P) i := clN_mem.2 ⟨hi, cms_self _ _ _, cms_self _ _ _⟩
  have hpos := List.length_pos_of_mem hm
  have h0 : (clN n (cmsB n P) i)[0] ∈ clN n (cmsB n P) i := List.getElem_mem hpos
  refine ⟨(clN n (cmsB n P) i)[0], lstN_mem.2 ⟨(clN_mem.1 h0).1, ?_⟩, h0⟩
  rw [clN_same hi h0, List.head?_eq_getElem?, List.getElem?_eq_getElem hpos]
end Go.Proofs.YtbejijgelljeaaaGreatDoor
