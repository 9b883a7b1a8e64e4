/- rises, comingTo, lessSame of package chain. -/
import Derived.Test.YtbejijgelljeaaaGreatDoorMadCPwChnA
import Derived.Test.YtbejijgelljeaaaGreatDoorNetDPwMadB
namespace Go.Proofs.YtbejijgelljeaaaGreatDoor
open Go.RowKit Go.Shelf
theorem iL_get {S : List Nat} {i : Nat} (h : i < S.length) (h' : i < (iL S).length) : (iL S)[i] = ((S[i] : Nat) : Int) := by simp [iL]
/-- The rows of a chain, in lowest terms. -/
def mR (n : Nat) (P : Nat → Nat → Rat) : List (List Fr) := (List.range n).map fun i => lF n (P i)
theorem mR_length (n : Nat) (P : Nat → Nat → Rat) : (mR n P).length = n := by simp [mR]
theorem mR_get {n : Nat} {P : Nat → Nat → Rat} {i : Nat} (h : i < (mR n P).length) : (mR n P)[i] = lF n (P i) := by simp [mR]
theorem FsS.at {w : World} {a : Option Addr} {n : Nat} {P : Nat → Nat → Rat} (h : FsS w a (mR n P)) {i j : Nat} (hi : i < n) (hj : j < n) : ∃ g o gr or_ cr, a = some ⟨g, o, none⟩ ∧ g < w.heap.size ∧ gr < w.heap.size ∧ w.cell? ⟨g, o + i, none⟩ = some (.slice (some ⟨gr, or_, none⟩) n cr) ∧ w.cell? ⟨gr, or_ + j * 3, none⟩ = some (.bool (qF (P i j)).1) ∧ w.cell? ⟨gr, or_ + j * 3 + 1, none⟩ = some (.string (qF (P i j)).2.1) ∧ w.cell? ⟨gr, or_ + j * 3 + 2, none⟩ = some (.string (qF (P i j)).2.2) := by
  have hi' : i < (mR n P).length := by rw [mR_length]; exact hi
  obtain ⟨g, o, b, c, h1, h2, h3, h4, h5⟩ := h i hi'
  have hl : (mR n P)[i].length = n := by rw [mR_get, lF_length]
  have hj' : j < (mR n P)[i].length := by rw [hl]; exact hj
  obtain ⟨gr, or_, e1, e2, e3, e4, e5⟩ := h4 j hj'
  have e : (mR n P)[i][j] = qF (P i j) := by simp [mR, lF]
  rw [e] at e3 e4 e5
  subst e1
  exact ⟨g, o, gr, or_, c, h1, h2, e2, by rw [h3, hl], e3, e4, e5⟩
set_option maxRecDepth 100000 in
set_option maxHeartbeats 2000000 in
theorem chLess_any (a : Option Addr) (ca n i j : Nat) (P : Nat → Nat → Rat) (w : World) (hR : FsS w a (mR n P)) (hq : qw (P i j) ≤ 40000) (hi : i < n) (hj : j < n) :
    Calls Tryz.prog 58 #[.slice a n ca, .int .i64 (i : Nat), .int .i64 (j : Nat)] w fun e w' => e = .returned (frV (qF (P i j - if i = j then 1 else 0))) ∧ Below w.heap.size w w' := by
  obtain ⟨g, o, gr, or_, cr, rfl, hg, hgr, c0, c1, c2, c3⟩ := hR.at hi hj
  have hsz : (nu (P i j)).size + (de (P i j)).size ≤ 100000 := by rw [own_size]; omega
  have HO1 := hid (fun V : World => fOf_q (k := 1) (w := V) 1 1 rfl (by decide) (by rfl))
  have HSUB : Hid (∀ V : World, Calls Tryz.prog 59 #[.agg #[.bool (qF (P i j)).1, .string (qF (P i j)).2.1, .string (qF (P i j)).2.2], .agg #[.bool (sgn 1), .string (nu 1), .string (de 1)]] V fun e w' => e = .returned (.agg #[.bool (qF (P i j - 1)).1, .string (qF (P i j - 1)).2.1, .string (qF (P i j - 1)).2.2]) ∧ Below V.heap.size V w') := fun V => fSub_q (P i j - 1) (val_own (P i j)) (val_own 1) rfl hsz (by have h1 : qw 1 ≤ 2 := qw_one2; rw [own_size]; omega)
  clear hR hq hsz
  have hA := (Below.refl w.heap.size w).alloc (Nat.le_refl _) (FC false ⟨#[]⟩ ⟨#[]⟩)
  have hX := Box.new w false ⟨#[]⟩ ⟨#[]⟩
  by_cases hij : i = j
  · subst hij
    rw [if_pos rfl]
    show Calls _ _ _ _ fun e w' => e = .returned (.agg #[.bool (qF (P i i - 1)).1, .string (qF (P i i - 1)).2.1, .string (qF (P i i - 1)).2.2]) ∧ _
    generalize hz1 : qF (P i i) = z1 at *
    obtain ⟨an, ax, ay⟩ := z1
    generalize hz2 : qF (P i i - 1) = z2 at *
    obtain ⟨qn, qx, qy⟩ := z2
    simp only at c1 c2 c3 HSUB
    have HSB := HSUB
    clear HSUB hz1 hz2
    generalize sgn 1 = on at *
    generalize nu 1 = ox at *
    generalize de 1 = oy at *
    go_enter Tryz.func58, Tryz.ntmps58
    go_upto_region 3 with fail
    generalize (w.alloc (FC false ⟨#[]⟩ ⟨#[]⟩)) = W at *
    have HW : Hid (Below w.heap.size w W.drew) := hA.drew
    have HX : Hid (Box W.drew w.heap.size false ⟨#[]⟩ ⟨#[]⟩) := hX
    have HELD : Hid (∀ u, Below w.heap.size w u → u.cell? ⟨g, o + i, none⟩ = some (.slice (some ⟨gr, or_, none⟩) n cr) ∧ u.cell? ⟨gr, or_ + i * 3, none⟩ = some (.bool an) ∧ u.cell? ⟨gr, or_ + i * 3 + 1, none⟩ = some (.string ax) ∧ u.cell? ⟨gr, or_ + i * 3 + 2, none⟩ = some (.string ay)) := fun u h => ⟨(h.cell (p := ⟨g, _, none⟩) hg).trans c0, (h.cell (p := ⟨gr, _, none⟩) hgr).trans c1, (h.cell (p := ⟨gr, _, none⟩) hgr).trans c2, (h.cell (p := ⟨gr, _, none⟩) hgr).trans c3⟩
    clear hA hX c0 c1 c2 c3
    refine wp_region_held_drew (S := fun u => u.cell? ⟨g, o + i, none⟩ = some (.slice (some ⟨gr, or_, none⟩) n cr) ∧ u.cell? ⟨gr, or_ + i * 3, none⟩ = some (.bool an) ∧ u.cell? ⟨gr, or_ + i * 3 + 1, none⟩ = some (.string ax) ∧ u.cell? ⟨gr, or_ + i * 3 + 2, none⟩ = some (.string ay)) (by kernel_rfl) (HELD.out _ HW.out) (fun hSd => ?_)
    generalize W.drew = u0 at *
    refine wpAnyH_take (i := 0) (oi := _) (v := .slice (some ⟨g, o, none⟩) n ca) rfl (by kernel_rfl) (by kernel_rfl) (by kernel_rfl) (fun _ _ _ h => h) (Or.inl ⟨by rfl, ?_⟩) (by assumption) ?_
    · intro u' hSu
      (try simp only [List.getElem_toArray, List.getElem_cons_zero])
      go_simp
    (try simp only [List.getElem_toArray, List.getElem_cons_zero])
    (try simp only [Act.put, List.setIfInBounds_toArray, List.set_cons_zero, List.set_cons_succ])
    refine wpAnyH_take (i := 1) (oi := _) (v := .int .i64 (i : Nat)) rfl (by kernel_rfl) (by kernel_rfl) (by kernel_rfl) (fun _ _ _ h => h) (Or.inl ⟨by rfl, ?_⟩) (by assumption) ?_
    · intro u' hSu
      (try simp only [List.getElem_toArray, List.getElem_cons_zero, List.getElem_cons_succ])
      go_simp
    (try simp only [List.getElem_toArray, List.getElem_cons_zero, List.getElem_cons_succ])
    (try simp only [Act.put, List.setIfInBounds_toArray, List.set_cons_zero, List.set_cons_succ])
    refine wpAnyH_take (i := 2) (oi := _) (v := .pointer (some ⟨g, o + i, none⟩)) rfl (by kernel_rfl) (by kernel_rfl) (by kernel_rfl) (fun _ _ _ h => h) (Or.inl ⟨by rfl, ?_⟩) (by assumption) ?_
    · intro u' hSu
      (try simp only [List.getElem_toArray, List.getElem_cons_zero, List.getElem_cons_succ])
      go_simp
    (try simp only [List.getElem_toArray, List.getElem_cons_zero, List.getElem_cons_succ])
    (try simp only [Act.put, List.setIfInBounds_toArray, List.set_cons_zero, List.set_cons_succ])
    refine wpAnyH_take (i := 3) (oi := _) (v := .slice (some ⟨gr, or_, none⟩) n cr) rfl (by kernel_rfl) (by kernel_rfl) (by kernel_rfl) (fun _ _ _ h => h) (Or.inl ⟨by rfl, ?_⟩) (by assumption) ?_
    · intro u' hSu
      (try simp only [List.getElem_toArray, List.getElem_cons_zero, List.getElem_cons_succ])
      obtain ⟨s0, s1, s2, s3⟩ := hSu
      go_simp
    (try simp only [List.getElem_toArray, List.getElem_cons_zero, List.getElem_cons_succ])
    (try simp only [Act.put, List.setIfInBounds_toArray, List.set_cons_zero, List.set_cons_succ])
    refine wpAnyH_take (i := 4) (oi := _) (v := .int .i64 (i : Nat)) rfl (by kernel_rfl) (by kernel_rfl) (by kernel_rfl) (fun _ _ _ h => h) (Or.inl ⟨by rfl, ?_⟩) (by assumption) ?_
    · intro u' hSu
      (try simp only [List.getElem_toArray, List.getElem_cons_zero, List.getElem_cons_succ])
      go_simp
    (try simp only [List.getElem_toArray, List.getElem_cons_zero, List.getElem_cons_succ])
    (try simp only [Act.put, List.setIfInBounds_toArray, List.set_cons_zero, List.set_cons_succ])
    refine wpAnyH_take (i := 5) (oi := _) (v := .pointer (some ⟨gr, or_ + i * 3, none⟩)) rfl (by kernel_rfl) (by kernel_rfl) (by kernel_rfl) (fun _ _ _ h => h) (Or.inl ⟨by rfl, ?_⟩) (by assumption) ?_
    · intro u' hSu
      (try simp only [List.getElem_toArray, List.getElem_cons_zero, List.getElem_cons_succ])
      go_simp
    (try simp only [List.getElem_toArray, List.getElem_cons_zero, List.getElem_cons_succ])
    (try simp only [Act.put, List.setIfInBounds_toArray, List.set_cons_zero, List.set_cons_succ])
    refine wpAnyH_take (i := 6) (oi := _) (v := .agg #[.bool an, .string ax, .string ay]) rfl (by kernel_rfl) (by kernel_rfl) (by kernel_rfl) (fun _ _ _ h => h) (Or.inl ⟨by rfl, ?_⟩) (by assumption) ?_
    · intro u' hSu
      (try simp only [List.getElem_toArray, List.getElem_cons_zero, List.getElem_cons_succ])
      obtain ⟨s0, s1, s2, s3⟩ := hSu
      go_simp
    (try simp only [List.getElem_toArray, List.getElem_cons_zero, List.getElem_cons_succ])
    (try simp only [Act.put, List.setIfInBounds_toArray, List.set_cons_zero, List.set_cons_succ])
    refine wpAnyH_ready (rs := [7]) (by kernel_rfl) (by simp) (AllReadyH.cons rfl ?_ (AllReadyH.nil))
    · intro K' hK'
      (try simp only [List.getElem_toArray, List.getElem_cons_zero, List.getElem_cons_succ])
      go_simp
      refine (HO1.out _).mono ?_
      rintro e u1 ⟨rfl, hb⟩
      replace HX := hid (HX.out.below hb HX.out.lt)
      replace HW := hid (HW.out.trans (hb.mono HW.out.size))
      refine hK'.out _ _ (HELD.out _ HW.out) (fun hSe => ?_)
      clear hK' K' hSd hb
      have hSd := hSe
      clear hSe
      (try simp only [List.getElem_toArray, List.getElem_cons_zero, List.getElem_cons_succ])
      (try simp only [Act.put, List.setIfInBounds_toArray, List.set_cons_zero, List.set_cons_succ])
      refine wpAnyH_ready (rs := [8]) (by kernel_rfl) (by simp) (AllReadyH.cons rfl ?_ (AllReadyH.nil))
      · intro K' hK'
        (try simp only [List.getElem_toArray, List.getElem_cons_zero, List.getElem_cons_succ])
        go_simp
        refine (HSB.out _).mono ?_
        rintro e u2 ⟨rfl, hb⟩
        replace HX := hid (HX.out.below hb HX.out.lt)
        replace HW := hid (HW.out.trans (hb.mono HW.out.size))
        refine hK'.out _ _ (HELD.out _ HW.out) (fun hSe => ?_)
        clear hK' K' hSd hb
        have hSd := hSe
        clear hSe
        (try simp only [List.getElem_toArray, List.getElem_cons_zero, List.getElem_cons_succ])
        (try simp only [Act.put, List.setIfInBounds_toArray, List.set_cons_zero, List.set_cons_succ])
        have x0 := HX.out.c0
        have x1 := HX.out.c1
        have x2 := HX.out.c2
        have y0 := HX.out.fz 0
        have y1 := HX.out.fz 1
        have y2 := HX.out.fz 2
        refine wpAnyH_ready (rs := [9]) (by kernel_rfl) (by simp) (AllReadyH.cons rfl ?_ (AllReadyH.nil))
        · intro K' hK'
          (try simp only [List.getElem_toArray, List.getElem_cons_zero, List.getElem_cons_succ])
          go_simp
          have HX9 := hid (HX.out.put qn qx qy)
          have HW9 := hid (((HW.out.setCell (p := ⟨w.heap.size, 0, none⟩) (Nat.le_refl _) (.bool qn)).setCell (p := ⟨w.heap.size, 1, none⟩) (Nat.le_refl _) (.string qx)).setCell (p := ⟨w.heap.size, 2, none⟩) (Nat.le_refl _) (.string qy))
          refine hK'.out _ _ (HELD.out _ HW9.out) (fun _ => wpAnyH_done (by kernel_rfl) ?_ _)
          clear hK' K' hSd x0 x1 x2 y0 y1 y2 HX HW
          go_wp2
          refine bodyPost_ret (HX9.out.result rfl _ rfl) rfl ?_
          exact ⟨rfl, HW9.out⟩
  · rw [if_neg hij, show P i j - 0 = P i j by grind]
    show Calls _ _ _ _ fun e w' => e = .returned (.agg #[.bool (qF (P i j)).1, .string (qF (P i j)).2.1, .string (qF (P i j)).2.2]) ∧ _
    generalize hz1 : qF (P i j) = z1 at *
    obtain ⟨an, ax, ay⟩ := z1
    simp only at c1 c2 c3
    clear HSUB HO1 hz1
    have hne : ((i : Int) != (j : Int)) = true := by simp; omega
    have hii : ¬ ((i : Int) = (j : Int)) := by omega
    have d0 := (hA.cell (p := ⟨g, _, none⟩) hg).trans c0
    have d1 := (hA.cell (p := ⟨gr, _, none⟩) hgr).trans c1
    have d2 := (hA.cell (p := ⟨gr, _, none⟩) hgr).trans c2
    have d3 := (hA.cell (p := ⟨gr, _, none⟩) hgr).trans c3
    have HX9 := hid (Box.new w an ax ay)
    have HW9 := hid ((Below.refl w.heap.size w).alloc (Nat.le_refl _) (FC an ax ay))
    have x0 := hX.c0
    have x1 := hX.c1
    have x2 := hX.c2
    have y0 := hX.fz 0
    have y1 := hX.fz 1
    have y2 := hX.fz 2
    clear c0 c1 c2 c3 hA hX
    go_enter Tryz.func58, Tryz.ntmps58
    go_wp2
    refine bodyPost_ret (HX9.out.result rfl _ rfl) rfl ?_
    exact ⟨rfl, HW9.out⟩
end Go.Proofs.YtbejijgelljeaaaGreatDoor

/- slices.Repeat of one fraction; noughts and spread of package chain. -/
namespace Go.Proofs.YtbejijgelljeaaaGreatDoor
open Go.RowKit Go.Shelf
theorem run_copy_rowS {P : Program} (w : World) (dT sT ty elem : TypeId) (g o dLen dCap : Nat) (a : Addr) (sLen sCap k sz : Nat) (cur : Array Value) (t : TypeId) (cs : List Value)
    (hu : P.underlying dT = some (.slice elem)) (hs : (P.info? elem).map (·.size) = some sz)
    (hg : w.heap[g]? = some (.cells cur t (0, 0))) (hk : Nat.min sLen dLen = k) (hn : cs.length = k * sz)
    (hsrc : ∀ j v, cs[j]? = some v → w.cell? (a.add j) = some v) (hfit : o + cs.length ≤ cur.size) (h1 : ∀ v ∈ cs, v.oneCell' = true) :
    (Builtin.copy_ #[dT, sT] ty #[.slice (some ⟨g, o, none⟩) dLen dCap, .slice (some a) sLen sCap]).run P w =
      .ok (goInt k) (w.setRow g (cur.toList.take o ++ cs ++ cur.toList.drop (o + cs.length)).toArray) := by
  have hst := run_storeCells_at P g o t cs 0 cur w hg (by simpa using hfit) h1
  cases hq : P.info? elem with
  | none => simp [hq] at hs
  | some i =>
    have hi : i.size = sz := by simpa [hq] using hs
    have hl := run_firstCells_some (P := P) w sz k a sLen sCap cs hn hsrc
    simp [Builtin.copy_, run_underlying hu, Builtin.lenOf, sizeOf, typeInfo, hq, hi, hk, hl, hst]
theorem wp_copy_rowS {P : Program} {w : World} {o : Oper} {a : Act} {K : Act → World → Prop} {Q : Exit → Act → World → Prop} (d s : Operand) (dT sT : TypeId)
    (ho : o.op = .call { callee := .builtin .copy, args := #[d, s], argTypes := #[dT, sT] }) (elem : TypeId) (sz : Nat) (hu : P.underlying dT = some (.slice elem)) (hsz : (P.info? elem).map (·.size) = some sz)
    (g off dLen dCap : Nat) (ad : Addr) (sLen sCap k : Nat) (hd : a.eval d = .slice (some ⟨g, off, none⟩) dLen dCap) (hs : a.eval s = .slice (some ad) sLen sCap)
    (cur : Array Value) (t : TypeId) (hg : w.heap[g]? = some (.cells cur t (0, 0))) (cs : List Value) (hk : Nat.min sLen dLen = k) (hn : cs.length = k * sz)
    (hsrc : ∀ j v, cs[j]? = some v → w.cell? (ad.add j) = some v) (hfit : off + cs.length ≤ cur.size) (h1 : ∀ v ∈ cs, v.oneCell' = true)
    (h : ∀ w', w' = w.setRow g (cur.toList.take off ++ cs ++ cur.toList.drop (off + cs.length)).toArray → K (a.put o.dst (goInt k)) w') : o.wp P a w K Q := by
  have hrun := run_copy_rowS (P := P) w dT sT o.type elem g off dLen dCap ad sLen sCap k sz cur t cs hu hsz hg hk hn hsrc hfit h1
  unfold Oper.wp execOp
  simp only [ho, resolve, invoke, builtin, Sem.run_bind, Sem.run_pure, Result.andThen_ok, List.map_toArray, List.map_cons, List.map_nil, hd, hs, hrun]
  exact h _ rfl
theorem wpList_copy_rowS {P : Program} {w : World} {ops : Array Oper} {rest : List Oper} {o : Oper} {a : Act} {Q : Exit → Act → World → Prop} (hgd : o.guard = none) (d s : Operand) (dT sT : TypeId)
    (ho : o.op = .call { callee := .builtin .copy, args := #[d, s], argTypes := #[dT, sT] }) (elem : TypeId) (sz : Nat) (hu : P.underlying dT = some (.slice elem)) (hsz : (P.info? elem).map (·.size) = some sz)
    (g off dLen dCap : Nat) (ad : Addr) (sLen sCap k : Nat) (hd : a.eval d = .slice (some ⟨g, off, none⟩) dLen dCap) (hs : a.eval s = .slice (some ad) sLen sCap)
    (cur : Array Value) (t : TypeId) (hg : w.heap[g]? = some (.cells cur t (0, 0))) (cs : List Value) (hk : Nat.min sLen dLen = k) (hn : cs.length = k * sz)
    (hsrc : ∀ j v, cs[j]? = some v → w.cell? (ad.add j) = some v) (hfit : off + cs.length ≤ cur.size) (h1 : ∀ v ∈ cs, v.oneCell' = true)
    (h : ∀ w', w' = w.setRow g (cur.toList.take off ++ cs ++ cur.toList.drop (off + cs.length)).toArray → wpList P ops Q rest (a.put o.dst (goInt k)) w') : wpList P ops Q (o :: rest) a w :=
  wpList_plain hgd fun _ hK => wp_copy_rowS d s dT sT ho elem sz hu hsz g off dLen dCap ad sLen sCap k hd hs cur t hg cs hk hn hsrc hfit h1 fun w' e => hK _ _ (h w' e)
/-- The first k of n are f. -/
def rpF (n k : Nat) (f : Fr) : List Fr := List.replicate k f ++ List.replicate (n - k) frZ
theorem rpF_length {n k : Nat} (f : Fr) (h : k ≤ n) : (rpF n k f).length = n := by simp [rpF]; omega
theorem rpF_all (n : Nat) (f : Fr) : rpF n n f = List.replicate n f := by simp [rpF]
theorem frC_take : ∀ (l : List Fr) (k : Nat), (frC l).take (k * 3) = frC (l.take k)
  | [], k => by simp [frC]
  | f :: l, 0 => by simp [frC]
  | f :: l, k + 1 => by
    rw [show (k + 1) * 3 = k * 3 + 1 + 1 + 1 by omega]
    simp only [frC, List.take_succ_cons, frC_take l k]
theorem frC_drop : ∀ (l : List Fr) (k : Nat), (frC l).drop (k * 3) = frC (l.drop k)
  | [], k => by simp [frC]
  | f :: l, 0 => by simp [frC]
  | f :: l, k + 1 => by
    rw [show (k + 1) * 3 = k * 3 + 1 + 1 + 1 by omega]
    simp only [frC, List.drop_succ_cons, frC_drop l k]
theorem frC_ones : ∀ (l : List Fr), ∀ v ∈ frC l, v.oneCell' = true
  | [], v, h => by cases h
  | f :: l, v, h => by
    simp only [frC, List.mem_cons] at h
    rcases h with rfl | rfl | rfl | h
    · rfl
    · rfl
    · rfl
    · exact frC_ones l v h
/-- c more of them. -/
theorem rpF_more {n k c : Nat} (f : Fr) (h : k + c ≤ n) : (frC (rpF n k f)).take (k * 3) ++ frC (List.replicate c f) ++ (frC (rpF n k f)).drop (k * 3 + (frC (List.replicate c f)).length) = frC (rpF n (k + c) f) := by
  rw [frC_length, List.length_replicate, show k * 3 + 3 * c = (k + c) * 3 by omega, frC_take, frC_drop, ← frC_append, ← frC_append]
  congr 1
  rw [rpF, rpF, List.take_append_of_le_length (by simp), List.take_of_length_le (by simp), List.drop_append, List.drop_eq_nil_of_le (by simp), List.nil_append, List.drop_replicate, List.length_replicate, List.replicate_append_replicate]
  congr 2
  omega
theorem rpF_src {w : World} {G n k c : Nat} {f : Fr} (h : RowF w G (rpF n k f)) (hc : c ≤ k) : ∀ j v, (frC (List.replicate c f))[j]? = some v → w.cell? ((⟨G, 0, none⟩ : Addr).add j) = some v := fun j v hj => by
  have hadd : (⟨G, 0, none⟩ : Addr).add j = ⟨G, j, none⟩ := by unfold Addr.add; split <;> simp_all
  rw [hadd, cell_of_row w G j _ _ (0, 0) h]
  have e : rpF n k f = List.replicate c f ++ (List.replicate (k - c) f ++ List.replicate (n - k) frZ) := by
    rw [rpF, ← List.append_assoc, List.replicate_append_replicate]
    congr 2
    omega
  rw [e, frC_append, List.getElem?_toArray, List.getElem?_append_left (by
    rcases Nat.lt_or_ge j (frC (List.replicate c f)).length with h | h
    · exact h
    · rw [List.getElem?_eq_none h] at hj; cases hj)]
  exact hj
theorem rpF_row {w : World} {G n k c : Nat} {f : Fr} (h : RowF w G (rpF n k f)) (hc : k + c ≤ n) : RowF (w.setRow G ((frC (rpF n k f)).toArray.toList.take (k * 3) ++ frC (List.replicate c f) ++ (frC (rpF n k f)).toArray.toList.drop (k * 3 + (frC (List.replicate c f)).length)).toArray) G (rpF n (k + c) f) := by
  rw [List.toList_toArray, rpF_more f hc]
  exact setRow_heap w G _ _ _ _ h
set_option maxRecDepth 100000 in
set_option maxHeartbeats 2000000 in
theorem slRepeat_one (g n : Nat) (f : Fr) (w : World) (hx : Box w g f.1 f.2.1 f.2.2) (h1 : 1 ≤ n) (hn : n ≤ 1000) :
    Calls Tryz.prog 72 #[.slice (some ⟨g, 0, none⟩) 1 1, .int .i64 (n : Nat)] w fun e w' => ∃ G, e = .returned (.slice (some ⟨G, 0, none⟩) n n) ∧ w.heap.size ≤ G ∧ RowF w' G (List.replicate n f) ∧ Below w.heap.size w w' := by
  obtain ⟨i0, hi0, hz0, hz1, hz2⟩ := info_parts Tryz.infoFrac
  have HSZ : Hid ((Tryz.prog.info? 33).map (·.size) = some 3) := by show _ = _; rw [hi0, Option.map_some, hz1]
  have HX := hid hx
  clear hx
  have hm1 : 1 * n / 18446744073709551616 = 0 := Nat.div_eq_of_lt (by omega)
  have hm2 : 1 * n % 18446744073709551616 = n := by rw [Nat.one_mul]; exact Nat.mod_eq_of_lt (by omega)
  have HMU : Hid (∀ V : World, Calls Tryz.prog 94 #[.int .u64 1, .int .u64 (n : Nat)] V fun e w' => e = .returned (.tuple #[.int .u64 0, .int .u64 (n : Nat)]) ∧ w' = V) := fun V => by
    have h := Tryz.bits_Mul 1 n (by omega) (by omega) V
    rw [hm1, hm2] at h
    exact h
  clear hm1 hm2
  go_enter Tryz.func72, Tryz.ntmps72
  go_wp2_with fail
  refine (HMU.out _).mono ?_
  rintro e w1 ⟨rfl, rfl⟩
  have hgt : ¬ ((9223372036854775807 : Int) < (n : Int)) := by omega
  go_upto_region 7 with (first | (at_make; refine wpList_make_full _ rfl _ _ 27 rfl w1.heap.size 33 i0 (.agg #[.bool false, .string ⟨#[]⟩, .string ⟨#[]⟩]) 3 Tryz.underlying27 hi0 hz0 hz1 .i64 .i64 _ _ n rfl rfl (by go_num) (by go_num) (by rw [hz2]; omega) (by unfold maxLen; omega) (Nat.le_refl _) ?_; intro w2 hown2 hgrow2))
  have hb2 := block_of_own3 hown2
  rw [made_frs] at hb2
  have hB2 : Below w1.heap.size w1 w2 := (Below.refl _ _).grown hgrow2 (Nat.le_refl _) (fun k e => by cases e)
  have HR0 : Hid (RowF w2 w1.heap.size (rpF n 0 f)) := by
    show RowF _ _ _
    rw [rpF, List.replicate_zero, List.nil_append, Nat.sub_zero]
    exact hb2
  have HX2 := hid (HX.out.below hB2 HX.out.lt)
  have HMIN : Hid (Nat.min 1 n = 1) := Nat.min_eq_left h1
  have HSRC : Hid (∀ j v, (frC (List.replicate 1 f))[j]? = some v → w2.cell? ((⟨g, 0, none⟩ : Addr).add j) = some v) := fun j v hj => by
    have hadd : (⟨g, 0, none⟩ : Addr).add j = ⟨g, j, none⟩ := by unfold Addr.add; split <;> simp_all
    rw [hadd]
    match j, hj with
    | 0, hj => cases hj; exact HX2.out.c0
    | 1, hj => cases hj; exact HX2.out.c1
    | 2, hj => cases hj; exact HX2.out.c2
    | j + 3, hj => simp [frC] at hj
  clear hown2 hgrow2 hb2
  obtain ⟨G, hGe⟩ : ∃ G, G = w1.heap.size := ⟨_, rfl⟩
  have HGL : Hid (w1.heap.size ≤ G) := by rw [hGe]; exact Nat.le_refl _
  have HB2 := hid hB2
  simp only [← hGe] at HR0 ⊢
  clear hGe hB2
  have HFIT : Hid (0 * 3 + (frC (List.replicate 1 f)).length ≤ (frC (rpF n 0 f)).toArray.size) := by
    show _ ≤ _
    rw [List.size_toArray, frC_length, frC_length, rpF_length f (Nat.zero_le _)]
    simp
    omega
  go_upto_region 8 with (first | (refine wpList_copy_rowS rfl (.tmp 31) (.tmp 32) 27 27 rfl 33 3 Tryz.underlying27 HSZ.out G (0 * 3) n n ⟨g, 0, none⟩ 1 1 1 rfl rfl (frC (rpF n 0 f)).toArray 33 HR0.out (frC (List.replicate 1 f)) HMIN.out rfl HSRC.out HFIT.out (frC_ones _) ?_; intro w3 e3; have HK0 : Hid (RowF w3 G (rpF n (0 + 1) f) ∧ Below w1.heap.size w1 w3) := (by rw [e3]; exact ⟨rpF_row HR0.out (by omega), below_setRow HB2.out HGL.out _⟩); clear e3))
  rw [Nat.zero_add] at HK0
  clear HR0 HX2 HMIN HSRC HB2 HFIT
  go_loopw [8] (fun kv wr => ∃ k : Nat, 1 ≤ k ∧ k ≤ n ∧ kv = .int .i64 k ∧ Hid (RowF wr G (rpF n k f) ∧ Below w1.heap.size w1 wr)) (fun kv _ => n - (intOf kv).toNat)
  case atStart => exact ⟨1, Nat.le_refl _, h1, rfl, HK0⟩
  case round =>
    obtain ⟨k, hk1, hkn, rfl, HK⟩ := hrel
    clear HK0
    by_cases hlt : k < n
    · obtain ⟨c, hc⟩ : ∃ c, Nat.min k (n - k) = c := ⟨_, rfl⟩
      have HMIN := hid hc
      have HCK : Hid (c ≤ k) := by rw [← hc]; exact Nat.min_le_left _ _
      have HCN : Hid (k + c ≤ n) := by have h9 : Nat.min k (n - k) ≤ n - k := Nat.min_le_right _ _; show _ ≤ _; omega
      have HCP : Hid (1 ≤ c) := by
        show 1 ≤ c
        rw [← hc]
        exact Nat.le_min.2 ⟨hk1, by omega⟩
      have HKC1 : Hid (1 ≤ k + c) := by show _ ≤ _; omega
      have HKB : Hid (k + c ≤ 1000) := Nat.le_trans HCN.out hn
      clear hc
      have hnk : ¬ n = k := by omega
      have hwk : IntKind.i64.wrap ((k : Int) + (c : Int)) = (k : Int) + (c : Int) := by rw [IntKind.wrap_i64]; have := HKB.out; omega
      go_upto_region 9 with fail
      replace HK : Hid (RowF wr.drew G (rpF n k f) ∧ Below w1.heap.size w1 wr.drew) := ⟨HK.out.1, HK.out.2.drew⟩
      refine wp_region_held_drew (S := fun _ => True) (by kernel_rfl) trivial (fun hSd => ?_)
      generalize wr.drew = u0 at *
      refine wpAnyH_take (i := 0) (oi := _) (v := .int .i64 (k : Nat)) rfl (by kernel_rfl) (by kernel_rfl) (by kernel_rfl) (fun _ _ _ h => h) (Or.inl ⟨by rfl, ?_⟩) (by assumption) ?_
      · intro u' hSu
        (try simp only [List.getElem_toArray, List.getElem_cons_zero])
        go_simp
      (try simp only [List.getElem_toArray, List.getElem_cons_zero])
      (try simp only [Act.put, List.setIfInBounds_toArray, List.set_cons_zero, List.set_cons_succ])
      refine wpAnyH_take (i := 1) (oi := _) (v := .slice (some ⟨G, 0, none⟩) n n) rfl (by kernel_rfl) (by kernel_rfl) (by kernel_rfl) (fun _ _ _ h => h) (Or.inl ⟨by rfl, ?_⟩) (by assumption) ?_
      · intro u' hSu
        (try simp only [List.getElem_toArray, List.getElem_cons_zero, List.getElem_cons_succ])
        go_simp
      (try simp only [List.getElem_toArray, List.getElem_cons_zero, List.getElem_cons_succ])
      (try simp only [Act.put, List.setIfInBounds_toArray, List.set_cons_zero, List.set_cons_succ])
      refine wpAnyH_take (i := 2) (oi := _) (v := .int .i64 (k : Nat)) rfl (by kernel_rfl) (by kernel_rfl) (by kernel_rfl) (fun _ _ _ h => h) (Or.inl ⟨by rfl, ?_⟩) (by assumption) ?_
      · intro u' hSu
        (try simp only [List.getElem_toArray, List.getElem_cons_zero, List.getElem_cons_succ])
        go_simp
      (try simp only [List.getElem_toArray, List.getElem_cons_zero, List.getElem_cons_succ])
      (try simp only [Act.put, List.setIfInBounds_toArray, List.set_cons_zero, List.set_cons_succ])
      refine wpAnyH_take (i := 3) (oi := _) (v := .slice (some ⟨G, k * 3, none⟩) (n - k) (n - k)) rfl (by kernel_rfl) (by kernel_rfl) (by kernel_rfl) (fun _ _ _ h => h) (Or.inl ⟨by rfl, ?_⟩) (by assumption) ?_
      · intro u' hSu
        (try simp only [List.getElem_toArray, List.getElem_cons_zero, List.getElem_cons_succ])
        go_simp
      (try simp only [List.getElem_toArray, List.getElem_cons_zero, List.getElem_cons_succ])
      (try simp only [Act.put, List.setIfInBounds_toArray, List.set_cons_zero, List.set_cons_succ])
      refine wpAnyH_take (i := 4) (oi := _) (v := .slice (some ⟨G, 0, none⟩) n n) rfl (by kernel_rfl) (by kernel_rfl) (by kernel_rfl) (fun _ _ _ h => h) (Or.inl ⟨by rfl, ?_⟩) (by assumption) ?_
      · intro u' hSu
        (try simp only [List.getElem_toArray, List.getElem_cons_zero, List.getElem_cons_succ])
        go_simp
      (try simp only [List.getElem_toArray, List.getElem_cons_zero, List.getElem_cons_succ])
      (try simp only [Act.put, List.setIfInBounds_toArray, List.set_cons_zero, List.set_cons_succ])
      refine wpAnyH_take (i := 5) (oi := _) (v := .int .i64 (k : Nat)) rfl (by kernel_rfl) (by kernel_rfl) (by kernel_rfl) (fun _ _ _ h => h) (Or.inl ⟨by rfl, ?_⟩) (by assumption) ?_
      · intro u' hSu
        (try simp only [List.getElem_toArray, List.getElem_cons_zero, List.getElem_cons_succ])
        go_simp
      (try simp only [List.getElem_toArray, List.getElem_cons_zero, List.getElem_cons_succ])
      (try simp only [Act.put, List.setIfInBounds_toArray, List.set_cons_zero, List.set_cons_succ])
      refine wpAnyH_take (i := 6) (oi := _) (v := .slice (some ⟨G, 0, none⟩) k n) rfl (by kernel_rfl) (by kernel_rfl) (by kernel_rfl) (fun _ _ _ h => h) (Or.inl ⟨by rfl, ?_⟩) (by assumption) ?_
      · intro u' hSu
        (try simp only [List.getElem_toArray, List.getElem_cons_zero, List.getElem_cons_succ])
        go_simp
      (try simp only [List.getElem_toArray, List.getElem_cons_zero, List.getElem_cons_succ])
      (try simp only [Act.put, List.setIfInBounds_toArray, List.set_cons_zero, List.set_cons_succ])
      refine wpAnyH_ready (rs := [7]) (by kernel_rfl) (by simp) (AllReadyH.cons rfl ?_ (AllReadyH.nil))
      · intro K' hK'
        rw [if_pos (by rfl)]
        refine wp_copy_rowS (.tmp 41) (.tmp 44) 27 27 rfl 33 3 Tryz.underlying27 HSZ.out G (k * 3) (n - k) (n - k) ⟨G, 0, none⟩ k n c rfl rfl (frC (rpF n k f)).toArray 33 HK.out.1 (frC (List.replicate c f)) HMIN.out (by rw [frC_length, List.length_replicate]; omega) (rpF_src HK.out.1 HCK.out) (by rw [frC_length, List.length_replicate]; simp [frC_length, rpF_length f (by omega : k ≤ n)]; have := HCN.out; omega) (frC_ones _) ?_
        intro u1 e1
        have HK9 : Hid (RowF u1 G (rpF n (k + c) f) ∧ Below w1.heap.size w1 u1) := by
          rw [e1]
          exact ⟨rpF_row HK.out.1 HCN.out, below_setRow HK.out.2 HGL.out _⟩
        clear e1
        refine hK'.out _ _ trivial (fun hSe => ?_)
        clear hK' K' hSd HK
        have hSd := hSe
        clear hSe
        (try simp only [List.getElem_toArray, List.getElem_cons_zero, List.getElem_cons_succ])
        (try simp only [Act.put, List.setIfInBounds_toArray, List.set_cons_zero, List.set_cons_succ])
        refine wpAnyH_take (i := 8) (oi := _) (v := .int .i64 ((k + c : Nat) : Int)) rfl (by kernel_rfl) (by kernel_rfl) (by kernel_rfl) (fun _ _ _ h => h) (Or.inl ⟨by rfl, ?_⟩) (by assumption) ?_
        · intro u' hSu
          (try simp only [List.getElem_toArray, List.getElem_cons_zero, List.getElem_cons_succ])
          go_simp
        (try simp only [List.getElem_toArray, List.getElem_cons_zero, List.getElem_cons_succ])
        (try simp only [Act.put, List.setIfInBounds_toArray, List.set_cons_zero, List.set_cons_succ])
        refine wpAnyH_take (i := 9) (oi := _) (v := .int .i64 ((k + c : Nat) : Int)) rfl (by kernel_rfl) (by kernel_rfl) (by kernel_rfl) (fun _ _ _ h => h) (Or.inl ⟨by rfl, ?_⟩) (by assumption) ?_
        · intro u' hSu
          (try simp only [List.getElem_toArray, List.getElem_cons_zero, List.getElem_cons_succ])
          go_simp
        (try simp only [List.getElem_toArray, List.getElem_cons_zero, List.getElem_cons_succ])
        (try simp only [Act.put, List.setIfInBounds_toArray, List.set_cons_zero, List.set_cons_succ])
        refine wpAnyH_done (by kernel_rfl) ?_ _
        go_wp2
        go_roundw
        case rel => exact ⟨k + c, HKC1.out, HCN.out, rfl, HK9⟩
        case measure => simp [intOf]; have := HCP.out; omega
    · obtain rfl : n = k := by omega
      go_wp2
      go_ret
      refine ⟨G, rfl, HGL.out, ?_, HK.out.2⟩
      have h9 := HK.out.1
      rw [rpF_all] at h9
      exact h9
set_option maxRecDepth 100000 in
set_option maxHeartbeats 1000000 in
theorem chNoughts_any (n : Nat) (w : World) (h1 : 1 ≤ n) (hn : n ≤ 1000) :
    Calls Tryz.prog 57 #[.int .i64 (n : Nat)] w fun e w' => ∃ G, e = .returned (.slice (some ⟨G, 0, none⟩) n n) ∧ w.heap.size ≤ G ∧ RowF w' G (lF n fun _ => 0) ∧ Below w.heap.size w w' := by
  have HO0 := hid (fun V : World => fOf_q (k := 0) (w := V) 0 0 rfl (by decide) (by rfl))
  have HRP := hid (fun (g : Nat) (V : World) (hx : Box V g (sgn 0) (nu 0) (de 0)) => slRepeat_one g n (qF 0) V hx h1 hn)
  have HE : Hid (List.replicate n (qF 0) = lF n fun _ => 0) := by
    show _ = _
    refine List.ext_getElem (by rw [lF_length]; simp) fun i h1 h2 => ?_
    rw [lF_get]
    simp
  rw [HE.out] at HRP
  generalize sgn 0 = zn at *
  generalize nu 0 = zx at *
  generalize de 0 = zy at *
  go_enter Tryz.func57, Tryz.ntmps57
  go_wp2_with fail
  refine (HO0.out _).mono ?_
  rintro e w0 ⟨rfl, hb0⟩
  have HB0 := hid (hb0.alloc hb0.size (FC zn zx zy))
  have HX0 := hid (Box.new w0 zn zx zy)
  clear hb0
  go_wp2_with fail
  refine (HRP.out w0.heap.size _ HX0.out).mono ?_
  rintro e w1 ⟨G, rfl, hG, hr, hb⟩
  have HR := hid hr
  have HB := hid (HB0.out.trans (hb.mono HB0.out.size))
  have HG : Hid (w.heap.size ≤ G) := Nat.le_trans HB0.out.size hG
  clear hr hb hG
  go_wp2
  go_ret
  exact ⟨G, rfl, HG.out, HR.out, HB.out⟩
/-- Numbers for some of so many states; 0 for the others. -/
def sprQ (l : List Nat) (x : Nat → Rat) : Nat → Nat → Rat
  | 0, _ => 0
  | k + 1, i => if i = l.getD k 0 then x k else sprQ l x k i
set_option maxRecDepth 100000 in
set_option maxHeartbeats 1000000 in
theorem chSpread_any (a b : Option Addr) (ca cb n m : Nat) (l : List Nat) (x : Nat → Rat) (w : World) (ha : IntS w a (iL l)) (hb : FrS w b (lF m x)) (hm : l.length = m) (hl : ∀ y ∈ l, y < n) (h1 : 1 ≤ n) (hn : n ≤ 1000) (hm1 : m ≤ 1000) :
    Calls Tryz.prog 34 #[.int .i64 (n : Nat), .slice a m ca, .slice b m cb] w fun e w' => ∃ G, e = .returned (.slice (some ⟨G, 0, none⟩) n n) ∧ w.heap.size ≤ G ∧ RowF w' G (lF n (sprQ l x m)) ∧ Below w.heap.size w w' := by
  have HN := hid (chNoughts_any n w h1 hn)
  have HV := hid ha
  have HF := hid hb
  have HL := hid hl
  have HM := hid hm
  clear ha hb hl hm
  go_enter Tryz.func34, Tryz.ntmps34
  go_wp2_with fail
  refine HN.out.mono ?_
  rintro e w1 ⟨G, rfl, hG, hr, hb⟩
  have HK0 : Hid (MF w G (lF n (sprQ l x 0)) w1) := ⟨hr, hb⟩
  have HG := hid hG
  clear hr hb hG HN
  go_wp2_with fail
  go_loopw [14] (fun iv wr => ∃ k : Nat, k ≤ m ∧ iv = .int .i64 k ∧ Hid (MF w G (lF n (sprQ l x k)) wr)) (fun iv _ => m - (intOf iv).toNat)
  case atStart => exact ⟨0, Nat.zero_le _, rfl, HK0⟩
  case round =>
    obtain ⟨k, hk, rfl, HK⟩ := hrel
    clear HK0
    by_cases hlt : k < m
    · have hkl : k < l.length := by rw [HM.out]; exact hlt
      have hki : k < (iL l).length := by rw [iL_length]; exact hkl
      have hkf : k < (lF m x).length := by rw [lF_length]; exact hlt
      obtain ⟨g, o, rfl, hg, c0⟩ := (HV.out.below HK.out.bel) k hki
      rw [iL_get hkl] at c0
      obtain ⟨g2, o2, rfl, hg2, d0, d1, d2⟩ := (HF.out.below HK.out.bel) k hkf
      rw [lF_get] at d0 d1 d2
      have hy := HL.out l[k] (List.getElem_mem hkl)
      have HE : Hid ((lF n (sprQ l x k)).set l[k] (qF (x k)) = lF n (sprQ l x (k + 1))) := by
        show _ = _
        rw [lF_set]
        refine lF_congr fun j _ => ?_
        show _ = if j = l.getD k 0 then x k else sprQ l x k j
        rw [List.getD_eq_getElem?_getD, List.getElem?_eq_getElem hkl]
        rfl
      have HPW := hid (HK.out.put HG.out l[k] (qF (x k)))
      rw [HE.out] at HPW
      obtain ⟨k0, k1, k2⟩ := HK.out.row.cells l[k] (by rw [lF_length]; exact hy)
      have f0 := HK.out.row.fz (l[k] * 3)
      have f1 := HK.out.row.fz (l[k] * 3 + 1)
      have f2 := HK.out.row.fz (l[k] * 3 + 2)
      generalize (lF n (sprQ l x k))[l[k]]'(by rw [lF_length]; exact hy) = z at *
      obtain ⟨zn, zx, zy⟩ := z
      simp only at k0 k1 k2
      generalize l[k] = y at *
      generalize qF (x k) = zz at *
      obtain ⟨an, ax, ay⟩ := zz
      simp only at d0 d1 d2 HPW
      clear HE HK
      go_wp2
      go_roundw
      case rel => exact ⟨k + 1, by omega, by go_num, HPW⟩
      case measure => simp [intOf]; omega
    · obtain rfl : m = k := by omega
      go_wp2
      go_ret
      exact ⟨G, rfl, HG.out, HK.out.row, HK.out.bel⟩
end Go.Proofs.YtbejijgelljeaaaGreatDoor

/- backward of package hidden. -/
namespace Go.Proofs.YtbejijgelljeaaaGreatDoor
open Go.RowKit Go.Shelf
theorem RwF.some' {w : World} {B : Nat} {v : Value} {l : List Fr} (h : RwF w B v l) (h1 : 1 ≤ l.length) : ∃ g cd, v = .slice (some ⟨g, 0, none⟩) l.length cd ∧ g < w.heap.size ∧ l.length ≤ cd ∧ FrS w (some ⟨g, 0, none⟩) l := by
  obtain ⟨d, cd, e, hf⟩ := h.fr
  rcases h.2 with ⟨_, h2⟩ | ⟨g, cap, cur, e1, h2, h3, h4, _⟩
  · omega
  · rw [e] at e1
    cases e1
    exact ⟨g, cd, e, (Array.getElem?_eq_some_iff.1 h3).1, h4, hf⟩
end Go.Proofs.YtbejijgelljeaaaGreatDoor
