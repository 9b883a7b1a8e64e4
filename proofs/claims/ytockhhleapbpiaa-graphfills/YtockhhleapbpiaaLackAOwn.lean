/- Package graph: lacking. -/
import Derived.Test.YtockhhleapbpiaaSetDOwn
import Derived.Test.YtockhhleapbpiaaIterBToJoinD
namespace Go.Proofs.Ytockhhleapbpiaa
open Go.RowKit Go.Shelf

attribute [local go_sem] Oper.semAt_some

theorem boxed_offB {W : World} {B : Nat} {t : TypeId} {v : Value} (h : Boxed W B t v) (b j : Nat) (y : Value) (hne : B ≠ b) : Boxed (W.setCell ⟨b, j, none⟩ y) B t v := (Below.heap_setCell W ⟨b, j, none⟩ y B hne).trans h
theorem boxed_at {W W' : World} {B b : Nat} {t : TypeId} {v : Value} (h : Boxed W B t v) (hb : Below b W W') (hB : B < b) : Boxed W' B t v := (hb.block B hB).trans h
theorem keeps_of_below {V V' : World} (h : Below V.heap.size V V') : KeepsOthers V V' := ⟨h.size, fun k _ hk _ => (h.block k (Array.getElem?_eq_some_iff.1 hk).1).trans hk⟩

theorem keeps_drewN {V U : World} (h : KeepsOthers V U) (k : Nat) : KeepsOthers V (U.drewN k) := ⟨h.1, h.2⟩

set_option maxRecDepth 100000 in
set_option maxHeartbeats 2000000 in
theorem lacking_any (G n c v : Nat) (P : List (List Nat)) (w : World) (hn : P.length = n) (h8 : n ≤ 8) (hU : RowU w G (P.map mskN)) (hP : ∀ p ∈ P, ∀ u ∈ p, u < n) (hv : v < n) :
    Calls Try.prog 89 #[.slice (some ⟨G, 0, none⟩) n c, .int .i64 (v : Nat)] w fun e w' => e = .returned (.int .i64 (lackN P v : Nat)) ∧ Below w.heap.size w w' := by
  refine (callsIn_wide (n := 6)).1 ?_
  have hP8 : ∀ p ∈ P, ∀ u ∈ p, u < 8 := fun p hp u hu => by have := hP p hp u hu; omega
  have hs := getD_small hP8 v
  have hGl := hU.lt
  have kv := hU.cell v (by rw [List.length_map]; omega)
  rw [mapU_get (by omega)] at kv
  have HKV := hid kv
  have HKU : Hid (∀ u, u < n → w.cell? ⟨G, u, none⟩ = some (.int .u32 (mskN (P.getD u []) : Nat))) := fun u hu => by
    have := hU.cell u (by rw [List.length_map]; omega)
    rwa [mapU_get (by omega)] at this
  have HMN : Hid (∀ k, k ∈ P.getD v [] → k < n) := fun k hk => by
    rw [List.getD_eq_getElem?_getD, List.getElem?_eq_getElem (by omega)] at hk
    exact hP _ (List.getElem_mem _) k hk
  have HGS := hid (fun u => getD_small hP8 u)
  have HEY := hid (fun k h => endsN_yes (B := P) (v := v) (k := k) h)
  have HEN := hid (fun k h => endsN_no (B := P) (v := v) (k := k) h)
  have HEL := hid (fun k => endsN_le P v k)
  have HLE := hid (fun u => lackE_le P v u)
  have HWO := hid (fun (u : Nat) (hu : u < 8) (U : World) => sWithout_any ((P.getD v []).filter fun x => decide (¬ x ∈ P.getD u [])) u U (fil_small hs _) hu)
  have HCN := hid (fun (u : Nat) (U : World) => sCount_any (((P.getD v []).filter fun x => decide (¬ x ∈ P.getD u [])).filter fun x => decide (x ≠ u)) U (fil_small (fil_small hs _) _))
  have HAN := hid (fun (u : Nat) => bits_andNot (P.getD v []) (P.getD u []) hs (getD_small hP8 u))
  have HLD : Hid (∀ u, (memU (((P.getD v []).filter fun x => decide (¬ x ∈ P.getD u [])).filter fun x => decide (x ≠ u)) 8).length = lackE P v u) := fun u => rfl
  have HRES : Hid ((endsN P v 8 : Int).tdiv 2 = (lackN P v : Nat)) := by
    show _ = _
    rw [lackN]
    exact (Int.natCast_ediv _ _).symm ▸ rfl
  have hw0 : G < w.heap.size := hGl
  have e64 := endsN_le P v 8
  generalize lackN P v = res at *
  generalize hbv : P.getD v [] = bv at *
  clear hU hP hP8 kv hbv
  refine callsIn_of_wp_marks Try.func89 rfl trivial ?_ rfl
  simp only [Try.ntmps89, List.size_toArray, List.length_cons, List.length_nil, Nat.reduceAdd, Nat.reduceSub, Array.replicate_succ, Array.replicate_zero, List.push_toArray, List.append_toArray, List.nil_append, List.cons_append]
  obtain ⟨W0, hW0⟩ : ∃ W0, W0 = ((w.alloc (.cells #[.slice (some ⟨G, 0, none⟩) n c] 52)).alloc (.cells #[.int .i64 (v : Nat)] 3)).alloc (.cells #[.int .i64 0] 3) := ⟨_, rfl⟩
  have b0 : Boxed W0 w.heap.size 52 (.slice (some ⟨G, 0, none⟩) n c) := by rw [hW0]; exact ((Boxed.new w _ _).alloc _).alloc _
  have b1 : Boxed W0 (w.heap.size + 1) 3 (.int .i64 (v : Nat)) := by
    have h := (Boxed.new (w.alloc (.cells #[.slice (some ⟨G, 0, none⟩) n c] 52)) 3 (.int .i64 (v : Nat))).alloc (.cells #[.int .i64 0] 3)
    rw [World.size_alloc] at h
    rw [hW0]; exact h
  have b2 : Boxed W0 (w.heap.size + 1 + 1) 3 (.int .i64 (endsN P v 0 : Nat)) := by
    have h := Boxed.new ((w.alloc (.cells #[.slice (some ⟨G, 0, none⟩) n c] 52)).alloc (.cells #[.int .i64 (v : Nat)] 3)) 3 (.int .i64 0)
    rw [World.size_alloc, World.size_alloc] at h
    rw [hW0]; exact h
  have hB0 : Below w.heap.size w W0 := by
    rw [hW0]
    exact (((Below.refl _ w).alloc (Nat.le_refl _) _).alloc (by simp) _).alloc (by simp; omega) _
  have k0 := b0.cell
  have k1 := b1.cell
  have kG := (hB0.cell (p := ⟨G, v, none⟩) hw0).trans HKV.out
  rw [hW0] at k0 k1 kG
  gi_wp2
  rw [← hW0]
  clear k0 k1 kG hW0
  have hsz0 : w.heap.size + 1 + 1 < W0.heap.size := b2.lt
  refine wp_each (by omega) bv hs rfl rfl
    (fun k V => Boxed V w.heap.size 52 (.slice (some ⟨G, 0, none⟩) n c) ∧ Boxed V (w.heap.size + 1) 3 (.int .i64 (v : Nat)) ∧ Boxed V (w.heap.size + 1 + 1) 3 (.int .i64 (endsN P v k : Nat)) ∧ Below w.heap.size w V)
    (OwnFrom.and (Own.from (boxed_own _ _ (fun _ => _)) _) (OwnFrom.and (Own.from (boxed_own _ _ (fun _ => _)) _) (OwnFrom.and (Own.from (boxed_own _ _ (fun k : Nat => .int .i64 (endsN P v k : Nat))) _) (ownFrom_below (Nat.le_refl _) (by omega)))))
    ⟨b0, b1, b2, hB0⟩
    (fun k => { tmps := #[.slice (some ⟨G, 0, none⟩) n c, .int .i64 (v : Nat), .pointer (some ⟨w.heap.size, 0, none⟩), .pointer (some ⟨w.heap.size + 1, 0, none⟩), .int .i64 0, .pointer (some ⟨w.heap.size + 1 + 1, 0, none⟩), .int .i64 (k : Nat), .slice (some ⟨G, 0, none⟩) n c, .int .i64 (v : Nat), .pointer (some ⟨G, v, none⟩), .int .u32 (mskN bv : Nat), .func (.func 47) #[.int .u32 (mskN bv : Nat)] #[], .int .i64 (k : Nat), undef, undef, undef, undef, undef, undef, undef, undef, undef, undef, undef, undef, undef, undef, undef, undef], defers := [] }) ?assign ?body ?skip ?done
  case assign =>
    intro l k W K hK
    gi_wp2
    exact hK
  case body =>
    rintro l k V hk hm ⟨h0, h1, h2, hB⟩
    have hkn := HMN.out k hm
    have k0 := h0.cell
    have k1 := h1.cell
    have k2 := h2.cell
    have kG := (hB.cell (p := ⟨G, v, none⟩) hw0).trans HKV.out
    have kU := (hB.cell (p := ⟨G, k, none⟩) hw0).trans (HKU.out k hkn)
    have hAN := HAN.out k
    have HWk := hid (HWO.out k hk)
    have HCk := hid (HCN.out k)
    rw [HLD.out k] at HCk
    have hel := HEL.out k
    have hle := HLE.out k
    have HEk := hid (HEY.out k hm)
    generalize mskN (bv.filter fun x => decide (¬ x ∈ P.getD k [])) = m1 at *
    generalize mskN ((bv.filter fun x => decide (¬ x ∈ P.getD k [])).filter fun x => decide (x ≠ k)) = m2 at *
    generalize mskN (P.getD k []) = mu at *
    generalize lackE P v k = le at *
    generalize endsN P v k = en at *
    generalize mskN bv = mv at *
    have hwa : IntKind.i64.wrap ((en : Int) + (le : Int)) = ((en + le : Nat) : Int) := by rw [IntKind.wrap_i64]; omega
    have f2 := h2.frozen
    gi_wp2_with fail
    refine region_round (fun u => u.cell? ⟨w.heap.size, 0, none⟩ = some (.slice (some ⟨G, 0, none⟩) n c) ∧ u.cell? ⟨w.heap.size + 1, 0, none⟩ = some (.int .i64 (v : Nat)) ∧ u.cell? ⟨G, v, none⟩ = some (.int .u32 (mv : Nat)) ∧ u.cell? ⟨G, k, none⟩ = some (.int .u32 (mu : Nat))) (by kernel_rfl) (by kernel_rfl) (fun ⟨_, _, h⟩ => h) ⟨k0, k1, kG, kU⟩ ?_
    intro hSd
    have hD : KeepsOthers V V.drew := KeepsOthers.drew V
    have q0 : Boxed V.drew w.heap.size 52 (.slice (some ⟨G, 0, none⟩) n c) := h0
    have q1 : Boxed V.drew (w.heap.size + 1) 3 (.int .i64 (v : Nat)) := h1
    have q2 : Boxed V.drew (w.heap.size + 1 + 1) 3 (.int .i64 (en : Nat)) := h2
    have qB := hB.drew
    have k2' := q2.cell
    clear k0 k1 k2 kG kU f2 h0 h1 h2 hB b0 b1 b2 hB0
    have k2 := k2'
    clear k2'
    generalize V.drew = U0 at *
    (try simp only [List.getElem_toArray, List.getElem_cons_zero, List.getElem_cons_succ])
    (try simp only [Act.put, List.setIfInBounds_toArray, List.set_cons_zero, List.set_cons_succ])
    refine wpAnyH_take (i := 1) (oi := _) (v := .slice (some ⟨G, 0, none⟩) n c) rfl (by kernel_rfl) (by kernel_rfl) (by kernel_rfl) (fun _ _ _ h => h) (Or.inl ⟨by rfl, ?_⟩) (by assumption) ?_
    · intro u' hSu
      (try simp only [List.getElem_toArray, List.getElem_cons_zero, List.getElem_cons_succ])
      obtain ⟨s0, s1, s2, s3⟩ := hSu
      go_simp
    (try simp only [List.getElem_toArray, List.getElem_cons_zero, List.getElem_cons_succ])
    (try simp only [Act.put, List.setIfInBounds_toArray, List.set_cons_zero, List.set_cons_succ])
    refine wpAnyH_take (i := 2) (oi := _) (v := .int .i64 (v : Nat)) rfl (by kernel_rfl) (by kernel_rfl) (by kernel_rfl) (fun _ _ _ h => h) (Or.inl ⟨by rfl, ?_⟩) (by assumption) ?_
    · intro u' hSu
      (try simp only [List.getElem_toArray, List.getElem_cons_zero, List.getElem_cons_succ])
      obtain ⟨s0, s1, s2, s3⟩ := hSu
      go_simp
    (try simp only [List.getElem_toArray, List.getElem_cons_zero, List.getElem_cons_succ])
    (try simp only [Act.put, List.setIfInBounds_toArray, List.set_cons_zero, List.set_cons_succ])
    refine wpAnyH_take (i := 3) (oi := _) (v := .pointer (some ⟨G, v, none⟩)) rfl (by kernel_rfl) (by kernel_rfl) (by kernel_rfl) (fun _ _ _ h => h) (Or.inl ⟨by rfl, ?_⟩) (by assumption) ?_
    · intro u' hSu
      (try simp only [List.getElem_toArray, List.getElem_cons_zero, List.getElem_cons_succ])
      go_simp
    (try simp only [List.getElem_toArray, List.getElem_cons_zero, List.getElem_cons_succ])
    (try simp only [Act.put, List.setIfInBounds_toArray, List.set_cons_zero, List.set_cons_succ])
    refine wpAnyH_take (i := 4) (oi := _) (v := .int .u32 (mv : Nat)) rfl (by kernel_rfl) (by kernel_rfl) (by kernel_rfl) (fun _ _ _ h => h) (Or.inl ⟨by rfl, ?_⟩) (by assumption) ?_
    · intro u' hSu
      (try simp only [List.getElem_toArray, List.getElem_cons_zero, List.getElem_cons_succ])
      obtain ⟨s0, s1, s2, s3⟩ := hSu
      go_simp
    (try simp only [List.getElem_toArray, List.getElem_cons_zero, List.getElem_cons_succ])
    (try simp only [Act.put, List.setIfInBounds_toArray, List.set_cons_zero, List.set_cons_succ])
    refine wpAnyH_take (i := 5) (oi := _) (v := .slice (some ⟨G, 0, none⟩) n c) rfl (by kernel_rfl) (by kernel_rfl) (by kernel_rfl) (fun _ _ _ h => h) (Or.inl ⟨by rfl, ?_⟩) (by assumption) ?_
    · intro u' hSu
      (try simp only [List.getElem_toArray, List.getElem_cons_zero, List.getElem_cons_succ])
      obtain ⟨s0, s1, s2, s3⟩ := hSu
      go_simp
    (try simp only [List.getElem_toArray, List.getElem_cons_zero, List.getElem_cons_succ])
    (try simp only [Act.put, List.setIfInBounds_toArray, List.set_cons_zero, List.set_cons_succ])
    refine wpAnyH_take (i := 6) (oi := _) (v := .int .i64 (k : Nat)) rfl (by kernel_rfl) (by kernel_rfl) (by kernel_rfl) (fun _ _ _ h => h) (Or.inl ⟨by rfl, ?_⟩) (by assumption) ?_
    · intro u' hSu
      (try simp only [List.getElem_toArray, List.getElem_cons_zero, List.getElem_cons_succ])
      go_simp
    (try simp only [List.getElem_toArray, List.getElem_cons_zero, List.getElem_cons_succ])
    (try simp only [Act.put, List.setIfInBounds_toArray, List.set_cons_zero, List.set_cons_succ])
    refine wpAnyH_take (i := 7) (oi := _) (v := .pointer (some ⟨G, k, none⟩)) rfl (by kernel_rfl) (by kernel_rfl) (by kernel_rfl) (fun _ _ _ h => h) (Or.inl ⟨by rfl, ?_⟩) (by assumption) ?_
    · intro u' hSu
      (try simp only [List.getElem_toArray, List.getElem_cons_zero, List.getElem_cons_succ])
      go_simp
    (try simp only [List.getElem_toArray, List.getElem_cons_zero, List.getElem_cons_succ])
    (try simp only [Act.put, List.setIfInBounds_toArray, List.set_cons_zero, List.set_cons_succ])
    refine wpAnyH_take (i := 8) (oi := _) (v := .int .u32 (mu : Nat)) rfl (by kernel_rfl) (by kernel_rfl) (by kernel_rfl) (fun _ _ _ h => h) (Or.inl ⟨by rfl, ?_⟩) (by assumption) ?_
    · intro u' hSu
      (try simp only [List.getElem_toArray, List.getElem_cons_zero, List.getElem_cons_succ])
      obtain ⟨s0, s1, s2, s3⟩ := hSu
      go_simp
    (try simp only [List.getElem_toArray, List.getElem_cons_zero, List.getElem_cons_succ])
    (try simp only [Act.put, List.setIfInBounds_toArray, List.set_cons_zero, List.set_cons_succ])
    refine wpAnyH_take (i := 9) (oi := _) (v := .int .u32 (m1 : Nat)) rfl (by kernel_rfl) (by kernel_rfl) (by kernel_rfl) (fun _ _ _ h => h) (Or.inl ⟨by rfl, ?_⟩) (by assumption) ?_
    · intro u' hSu
      (try simp only [List.getElem_toArray, List.getElem_cons_zero, List.getElem_cons_succ])
      go_simp
    (try simp only [List.getElem_toArray, List.getElem_cons_zero, List.getElem_cons_succ])
    (try simp only [Act.put, List.setIfInBounds_toArray, List.set_cons_zero, List.set_cons_succ])
    refine wpAnyH_take (i := 10) (oi := _) (v := .int .i64 (k : Nat)) rfl (by kernel_rfl) (by kernel_rfl) (by kernel_rfl) (fun _ _ _ h => h) (Or.inl ⟨by rfl, ?_⟩) (by assumption) ?_
    · intro u' hSu
      (try simp only [List.getElem_toArray, List.getElem_cons_zero, List.getElem_cons_succ])
      go_simp
    (try simp only [List.getElem_toArray, List.getElem_cons_zero, List.getElem_cons_succ])
    (try simp only [Act.put, List.setIfInBounds_toArray, List.set_cons_zero, List.set_cons_succ])
    refine wpAnyH_ready (rs := [0, 11]) (by kernel_rfl) (by simp) (AllReadyH.cons rfl ?_ (AllReadyH.cons rfl ?_ (AllReadyH.nil)))
    · intro K' hK'
      (try simp only [List.getElem_toArray, List.getElem_cons_zero])
      go_simp
      clear k2
      refine hK'.out _ _ hSd (fun hSe => ?_)
      clear hK' K' hSe
      (try simp only [List.getElem_toArray, List.getElem_cons_zero, List.getElem_cons_succ])
      (try simp only [Act.put, List.setIfInBounds_toArray, List.set_cons_zero, List.set_cons_succ])
      refine wpAnyH_ready (rs := [11]) (by kernel_rfl) (by simp) (AllReadyH.cons rfl ?_ (AllReadyH.nil))
      · intro K' hK'
        (try simp only [List.getElem_toArray, List.getElem_cons_zero, List.getElem_cons_succ])
        go_simp
        refine (HWk.out _).mono ?_
        rintro e U1 ⟨rfl, hU1⟩
        subst hU1
        refine hK'.out _ _ hSd (fun hSe => ?_)
        clear hK' K' hSe
        generalize U1 = U0 at *
        (try simp only [List.getElem_toArray, List.getElem_cons_zero, List.getElem_cons_succ])
        (try simp only [Act.put, List.setIfInBounds_toArray, List.set_cons_zero, List.set_cons_succ])
        refine wpAnyH_ready (rs := [12]) (by kernel_rfl) (by simp) (AllReadyH.cons rfl ?_ (AllReadyH.nil))
        · intro K' hK'
          (try simp only [List.getElem_toArray, List.getElem_cons_zero, List.getElem_cons_succ])
          go_simp
          refine (HCk.out _).mono ?_
          rintro e U1 ⟨rfl, kk, hU1⟩
          have p0 : Boxed U1 w.heap.size 52 (.slice (some ⟨G, 0, none⟩) n c) := by rw [hU1]; exact q0
          have p1 : Boxed U1 (w.heap.size + 1) 3 (.int .i64 (v : Nat)) := by rw [hU1]; exact q1
          have p2 : Boxed U1 (w.heap.size + 1 + 1) 3 (.int .i64 (en : Nat)) := by rw [hU1]; exact q2
          have pB : Below w.heap.size w U1 := by rw [hU1]; exact below_drewN qB kk
          have pD : KeepsOthers V U1 := by rw [hU1]; exact keeps_drewN hD kk
          refine hK'.out _ _ (by rw [hU1]; exact hSd) (fun hSe => ?_)
          clear hK' K' hU1 q0 q1 q2 qB hD hSd
          have hSd := hSe
          have q0 := p0
          have q1 := p1
          have q2 := p2
          have qB := pB
          have hD := pD
          clear hSe p0 p1 p2 pB pD
          clear U0
          generalize U1 = U0 at *
          (try simp only [List.getElem_toArray, List.getElem_cons_zero, List.getElem_cons_succ])
          (try simp only [Act.put, List.setIfInBounds_toArray, List.set_cons_zero, List.set_cons_succ])
          have f2 := q2.frozen
          have k2 := q2.cell
          refine wpAnyH_take (i := 13) (oi := _) (v := .int .i64 ((en + le : Nat) : Int)) rfl (by kernel_rfl) (by kernel_rfl) (by kernel_rfl) (fun _ _ _ h => h) (Or.inl ⟨by rfl, ?_⟩) (by assumption) ?_
          · intro u' hSu
            (try simp only [List.getElem_toArray, List.getElem_cons_zero, List.getElem_cons_succ])
            go_simp
          (try simp only [List.getElem_toArray, List.getElem_cons_zero, List.getElem_cons_succ])
          (try simp only [Act.put, List.setIfInBounds_toArray, List.set_cons_zero, List.set_cons_succ])
          refine wpAnyH_ready (rs := [14]) (by kernel_rfl) (by simp) (AllReadyH.cons rfl ?_ (AllReadyH.nil))
          · intro K' hK'
            (try simp only [List.getElem_toArray, List.getElem_cons_zero, List.getElem_cons_succ])
            go_simp
            refine hK'.out _ _ ⟨(boxed_offB q0 (w.heap.size + 1 + 1) 0 _ (by omega)).cell, (boxed_offB q1 (w.heap.size + 1 + 1) 0 _ (by omega)).cell, (World.cell?_setCell_other _ _ _ _ (fun e => (show ¬ w.heap.size + 1 + 1 = G by omega) (congrArg Addr.block e))).trans hSd.2.2.1, (World.cell?_setCell_other _ _ _ _ (fun e => (show ¬ w.heap.size + 1 + 1 = G by omega) (congrArg Addr.block e))).trans hSd.2.2.2⟩ (fun _ => wpAnyH_done (by kernel_rfl) ?_ _)
            clear hK' K' hSd
            gi_wp2
            exact ⟨(hD.trans (KeepsOthers.setCell U0 _ _)).from _, boxed_offB q0 _ 0 _ (by omega), boxed_offB q1 _ 0 _ (by omega), by rw [HEk.out]; exact q2.set _, qB.setCell (p := ⟨w.heap.size + 1 + 1, 0, none⟩) (by show w.heap.size ≤ w.heap.size + 1 + 1; omega) _⟩
    · intro K' hK'
      (try simp only [List.getElem_toArray, List.getElem_cons_zero, List.getElem_cons_succ])
      go_simp
      refine (HWk.out _).mono ?_
      rintro e U1 ⟨rfl, hU1⟩
      subst hU1
      refine hK'.out _ _ hSd (fun hSe => ?_)
      clear hK' K' hSe
      generalize U1 = U0 at *
      (try simp only [List.getElem_toArray, List.getElem_cons_zero, List.getElem_cons_succ])
      (try simp only [Act.put, List.setIfInBounds_toArray, List.set_cons_zero, List.set_cons_succ])
      refine wpAnyH_ready (rs := [0, 12]) (by kernel_rfl) (by simp) (AllReadyH.cons rfl ?_ (AllReadyH.cons rfl ?_ (AllReadyH.nil)))
      · intro K' hK'
        (try simp only [List.getElem_toArray, List.getElem_cons_zero])
        go_simp
        clear k2
        refine hK'.out _ _ hSd (fun hSe => ?_)
        clear hK' K' hSe
        (try simp only [List.getElem_toArray, List.getElem_cons_zero, List.getElem_cons_succ])
        (try simp only [Act.put, List.setIfInBounds_toArray, List.set_cons_zero, List.set_cons_succ])
        refine wpAnyH_ready (rs := [12]) (by kernel_rfl) (by simp) (AllReadyH.cons rfl ?_ (AllReadyH.nil))
        · intro K' hK'
          (try simp only [List.getElem_toArray, List.getElem_cons_zero, List.getElem_cons_succ])
          go_simp
          refine (HCk.out _).mono ?_
          rintro e U1 ⟨rfl, kk, hU1⟩
          have p0 : Boxed U1 w.heap.size 52 (.slice (some ⟨G, 0, none⟩) n c) := by rw [hU1]; exact q0
          have p1 : Boxed U1 (w.heap.size + 1) 3 (.int .i64 (v : Nat)) := by rw [hU1]; exact q1
          have p2 : Boxed U1 (w.heap.size + 1 + 1) 3 (.int .i64 (en : Nat)) := by rw [hU1]; exact q2
          have pB : Below w.heap.size w U1 := by rw [hU1]; exact below_drewN qB kk
          have pD : KeepsOthers V U1 := by rw [hU1]; exact keeps_drewN hD kk
          refine hK'.out _ _ (by rw [hU1]; exact hSd) (fun hSe => ?_)
          clear hK' K' hU1 q0 q1 q2 qB hD hSd
          have hSd := hSe
          have q0 := p0
          have q1 := p1
          have q2 := p2
          have qB := pB
          have hD := pD
          clear hSe p0 p1 p2 pB pD
          clear U0
          generalize U1 = U0 at *
          (try simp only [List.getElem_toArray, List.getElem_cons_zero, List.getElem_cons_succ])
          (try simp only [Act.put, List.setIfInBounds_toArray, List.set_cons_zero, List.set_cons_succ])
          have f2 := q2.frozen
          have k2 := q2.cell
          refine wpAnyH_take (i := 13) (oi := _) (v := .int .i64 ((en + le : Nat) : Int)) rfl (by kernel_rfl) (by kernel_rfl) (by kernel_rfl) (fun _ _ _ h => h) (Or.inl ⟨by rfl, ?_⟩) (by assumption) ?_
          · intro u' hSu
            (try simp only [List.getElem_toArray, List.getElem_cons_zero, List.getElem_cons_succ])
            go_simp
          (try simp only [List.getElem_toArray, List.getElem_cons_zero, List.getElem_cons_succ])
          (try simp only [Act.put, List.setIfInBounds_toArray, List.set_cons_zero, List.set_cons_succ])
          refine wpAnyH_ready (rs := [14]) (by kernel_rfl) (by simp) (AllReadyH.cons rfl ?_ (AllReadyH.nil))
          · intro K' hK'
            (try simp only [List.getElem_toArray, List.getElem_cons_zero, List.getElem_cons_succ])
            go_simp
            refine hK'.out _ _ ⟨(boxed_offB q0 (w.heap.size + 1 + 1) 0 _ (by omega)).cell, (boxed_offB q1 (w.heap.size + 1 + 1) 0 _ (by omega)).cell, (World.cell?_setCell_other _ _ _ _ (fun e => (show ¬ w.heap.size + 1 + 1 = G by omega) (congrArg Addr.block e))).trans hSd.2.2.1, (World.cell?_setCell_other _ _ _ _ (fun e => (show ¬ w.heap.size + 1 + 1 = G by omega) (congrArg Addr.block e))).trans hSd.2.2.2⟩ (fun _ => wpAnyH_done (by kernel_rfl) ?_ _)
            clear hK' K' hSd
            gi_wp2
            exact ⟨(hD.trans (KeepsOthers.setCell U0 _ _)).from _, boxed_offB q0 _ 0 _ (by omega), boxed_offB q1 _ 0 _ (by omega), by rw [HEk.out]; exact q2.set _, qB.setCell (p := ⟨w.heap.size + 1 + 1, 0, none⟩) (by show w.heap.size ≤ w.heap.size + 1 + 1; omega) _⟩
      · intro K' hK'
        (try simp only [List.getElem_toArray, List.getElem_cons_zero, List.getElem_cons_succ])
        go_simp
        refine (HCk.out _).mono ?_
        rintro e U1 ⟨rfl, kk, hU1⟩
        have p0 : Boxed U1 w.heap.size 52 (.slice (some ⟨G, 0, none⟩) n c) := by rw [hU1]; exact q0
        have p1 : Boxed U1 (w.heap.size + 1) 3 (.int .i64 (v : Nat)) := by rw [hU1]; exact q1
        have p2 : Boxed U1 (w.heap.size + 1 + 1) 3 (.int .i64 (en : Nat)) := by rw [hU1]; exact q2
        have pB : Below w.heap.size w U1 := by rw [hU1]; exact below_drewN qB kk
        have pD : KeepsOthers V U1 := by rw [hU1]; exact keeps_drewN hD kk
        refine hK'.out _ _ (by rw [hU1]; exact hSd) (fun hSe => ?_)
        clear hK' K' hU1 q0 q1 q2 qB hD hSd
        have hSd := hSe
        have q0 := p0
        have q1 := p1
        have q2 := p2
        have qB := pB
        have hD := pD
        clear hSe p0 p1 p2 pB pD
        clear k2
        have k2 := q2.cell
        clear U0
        generalize U1 = U0 at *
        (try simp only [List.getElem_toArray, List.getElem_cons_zero, List.getElem_cons_succ])
        (try simp only [Act.put, List.setIfInBounds_toArray, List.set_cons_zero, List.set_cons_succ])
        refine wpAnyH_ready (rs := [0]) (by kernel_rfl) (by simp) (AllReadyH.cons rfl ?_ (AllReadyH.nil))
        · intro K' hK'
          (try simp only [List.getElem_toArray, List.getElem_cons_zero])
          go_simp
          clear k2
          refine hK'.out _ _ hSd (fun hSe => ?_)
          clear hK' K' hSe
          (try simp only [List.getElem_toArray, List.getElem_cons_zero, List.getElem_cons_succ])
          (try simp only [Act.put, List.setIfInBounds_toArray, List.set_cons_zero, List.set_cons_succ])
          have f2 := q2.frozen
          have k2 := q2.cell
          refine wpAnyH_take (i := 13) (oi := _) (v := .int .i64 ((en + le : Nat) : Int)) rfl (by kernel_rfl) (by kernel_rfl) (by kernel_rfl) (fun _ _ _ h => h) (Or.inl ⟨by rfl, ?_⟩) (by assumption) ?_
          · intro u' hSu
            (try simp only [List.getElem_toArray, List.getElem_cons_zero, List.getElem_cons_succ])
            go_simp
          (try simp only [List.getElem_toArray, List.getElem_cons_zero, List.getElem_cons_succ])
          (try simp only [Act.put, List.setIfInBounds_toArray, List.set_cons_zero, List.set_cons_succ])
          refine wpAnyH_ready (rs := [14]) (by kernel_rfl) (by simp) (AllReadyH.cons rfl ?_ (AllReadyH.nil))
          · intro K' hK'
            (try simp only [List.getElem_toArray, List.getElem_cons_zero, List.getElem_cons_succ])
            go_simp
            refine hK'.out _ _ ⟨(boxed_offB q0 (w.heap.size + 1 + 1) 0 _ (by omega)).cell, (boxed_offB q1 (w.heap.size + 1 + 1) 0 _ (by omega)).cell, (World.cell?_setCell_other _ _ _ _ (fun e => (show ¬ w.heap.size + 1 + 1 = G by omega) (congrArg Addr.block e))).trans hSd.2.2.1, (World.cell?_setCell_other _ _ _ _ (fun e => (show ¬ w.heap.size + 1 + 1 = G by omega) (congrArg Addr.block e))).trans hSd.2.2.2⟩ (fun _ => wpAnyH_done (by kernel_rfl) ?_ _)
            clear hK' K' hSd
            gi_wp2
            exact ⟨(hD.trans (KeepsOthers.setCell U0 _ _)).from _, boxed_offB q0 _ 0 _ (by omega), boxed_offB q1 _ 0 _ (by omega), by rw [HEk.out]; exact q2.set _, qB.setCell (p := ⟨w.heap.size + 1 + 1, 0, none⟩) (by show w.heap.size ≤ w.heap.size + 1 + 1; omega) _⟩
  case skip =>
    rintro k V hk hm h
    rw [HEN.out k hm]
    exact h
  case done =>
    rintro D V hD ⟨h0, h1, h2, hB⟩ hK
    have hc := h2.cell
    gi_wp2
    refine ⟨by simp, .inl ⟨_, _, rfl, run_takeDeferred hK, ?_⟩⟩
    refine ⟨_, results_tmp rfl _ _ _, ?_, hB.trans (belowK_b (w := w) (Nat.le_refl _) V D _ _ (by omega) hK rfl rfl)⟩
    rw [← HRES.out]
    rfl
end Go.Proofs.Ytockhhleapbpiaa

