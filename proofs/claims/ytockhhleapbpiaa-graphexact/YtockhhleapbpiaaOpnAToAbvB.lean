/- Package graph: isOpen: the map of comings, and what is come to. -/
import Derived.Test.YtockhhleapbpiaaComAToTreA
import Derived.Test.YtockhhleapbpiaaWayAOwn
import Derived.Maps.OwnSet
import Derived.DeepKeys4
import Derived.Test.YtockhhleapbpiaaMarkAToChiA
import Derived.Test.YtockhhleapbpiaaOrdCToNeaA
namespace Go.Proofs.Ytockhhleapbpiaa
open Go.RowKit Go.Shelf

/-- A coming as a key. -/
def keyV (p : Nat × Bool) : Value := .agg #[.int .i64 (p.1 : Nat), .bool p.2]
theorem laidOutO : laidOutB Try.prog = true := by kernel_rfl
theorem keyedC : Maps.Keyed Try.prog 93 := Maps.Keyed.of_law (deep_law_laid laidOutO (m := 3) (by decide) (of_decide_eq_true (by kernel_rfl)) (by kernel_rfl) (by kernel_rfl))
theorem key_some (v : Nat) (c : Bool) (hv : v < 8) : (keyOf Try.prog 93 (keyV (v, c))).isSome = true := by
  have h : v = 0 ∨ v = 1 ∨ v = 2 ∨ v = 3 ∨ v = 4 ∨ v = 5 ∨ v = 6 ∨ v = 7 := by omega
  rcases h with rfl | rfl | rfl | rfl | rfl | rfl | rfl | rfl
  all_goals
    cases c
    all_goals exact of_decide_eq_true (by kernel_rfl)
theorem key_fun : ∃ kl : Nat × Bool → Lit, ∀ p : Nat × Bool, p.1 < 8 → keyOf Try.prog 93 (keyV p) = some (kl p) := by
  refine ⟨fun p => (keyOf Try.prog 93 (keyV p)).getD (.bool false), fun p hp => ?_⟩
  obtain ⟨l, hl⟩ := Option.isSome_iff_exists.1 (key_some p.1 p.2 hp)
  have hl' : keyOf Try.prog 93 (keyV p) = some l := hl
  show _ = some ((keyOf Try.prog 93 (keyV p)).getD (.bool false))
  rw [hl']; rfl
theorem key_inj {kl : Nat × Bool → Lit} (hk : ∀ p : Nat × Bool, p.1 < 8 → keyOf Try.prog 93 (keyV p) = some (kl p)) {p q : Nat × Bool} (hp : p.1 < 8) (hq : q.1 < 8) (h : kl p = kl q) : p = q := by
  have h1 := hk p hp
  have h2 := hk q hq
  rw [h] at h1
  have e := keyedC.inj h1 h2
  obtain ⟨p1, p2⟩ := p
  obtain ⟨q1, q2⟩ := q
  simp only [keyV, Value.agg.injEq, Array.mk.injEq, List.cons.injEq, Value.int.injEq, Value.bool.injEq, true_and, and_true] at e
  obtain ⟨e1, e2⟩ := e
  have : p1 = q1 := by omega
  rw [this, e2]
/-- The map holds just these. -/
structure BnM (kl : Nat × Bool → Lit) (W : World) (b : Nat) (S : List (Nat × Bool)) (D : DataW Unit) : Prop where
  own : W.ownsMap Try.prog 93 (unitElem (H := Unit)) b S.length D
  has : ∀ p : Nat × Bool, p.1 < 8 → Maps.has D (kl p) = decide (p ∈ S)
theorem BnM.new (kl : Nat × Bool → Lit) (w : World) : BnM kl (w.alloc (.map #[] 0)) w.heap.size [] (.map []) := ⟨World.ownsMap_made w _ _ _, fun _ _ => rfl⟩
theorem BnM.put {kl : Nat × Bool → Lit} (hk : ∀ p : Nat × Bool, p.1 < 8 → keyOf Try.prog 93 (keyV p) = some (kl p)) {W W' : World} {b : Nat} {S : List (Nat × Bool)} {D : DataW Unit} (h : BnM kl W b S D) {p : Nat × Bool} (hp : p.1 < 8) {d : DataW Unit} (h' : W'.ownsMap Try.prog 93 (unitElem (H := Unit)) b (S.length + 1) (D.put (kl p) d)) : BnM kl W' b (p :: S) (D.put (kl p) d) := by
  refine ⟨h', fun q hq => ?_⟩
  by_cases e : kl q = kl p
  · have e' := key_inj hk hq hp e
    rw [e', Maps.has_put_same h.own.isMap (keyedC.key (hk p hp)), decide_eq_true List.mem_cons_self]
  · rw [Maps.has_put_other e, h.has q hq]
    refine decide_eq_decide.2 ⟨List.mem_cons_of_mem _, fun hm => ?_⟩
    rcases List.mem_cons.1 hm with e' | hm
    · exact absurd (by rw [e']) e
    · exact hm
theorem BnM.kept {kl : Nat × Bool → Lit} {W W' : World} {b : Nat} {S : List (Nat × Bool)} {D : DataW Unit} (h : BnM kl W b S D) {row : Option Nat} (hg : W.grownBy W' row) (hne : some b ≠ row) : BnM kl W' b S D := ⟨h.own.kept hg hne, h.has⟩
end Go.Proofs.Ytockhhleapbpiaa


/- Package graph: above. -/
namespace Go.Proofs.Ytockhhleapbpiaa
open Go.RowKit Go.Shelf

attribute [local go_sem] Oper.semAt_some

/-- A set, and what stands right above those of it below k. -/
def abK (P : List (List Nat)) (t : List Nat) (k : Nat) : List Nat := t ++ (memU t k).flatMap fun v => P.getD v []
theorem abK_zero (P : List (List Nat)) (t : List Nat) : abK P t 0 = t := by simp [abK, memU]
theorem abK_yes {P : List (List Nat)} {t : List Nat} {k : Nat} (h : k ∈ t) : abK P t (k + 1) = abK P t k ++ P.getD k [] := by rw [abK, memU_yes h, List.flatMap_append, ← List.append_assoc, abK]; simp
theorem abK_no {P : List (List Nat)} {t : List Nat} {k : Nat} (h : ¬ k ∈ t) : abK P t (k + 1) = abK P t k := by rw [abK, memU_no h, abK]
/-- A set and all that stands at most so many steps above it. -/
def abS (P : List (List Nat)) (s : List Nat) : Nat → List Nat
  | 0 => s
  | r + 1 => abK P (abS P s r) 8
theorem abK_lt {n : Nat} {P : List (List Nat)} {t : List Nat} (hP : ∀ v, ∀ u ∈ P.getD v [], u < n) (ht : ∀ u ∈ t, u < n) (k : Nat) : ∀ u ∈ abK P t k, u < n := fun u hu => by
  rcases List.mem_append.1 hu with h | h
  · exact ht u h
  · obtain ⟨v, _, h2⟩ := List.mem_flatMap.1 h
    exact hP v u h2
theorem abS_lt {n : Nat} {P : List (List Nat)} {s : List Nat} (hP : ∀ v, ∀ u ∈ P.getD v [], u < n) (hs : ∀ u ∈ s, u < n) : ∀ r, ∀ u ∈ abS P s r, u < n
  | 0 => hs
  | r + 1 => abK_lt hP (abS_lt hP hs r) 8
/-- What a call of above leaves with. -/
def AbL (w : World) (G n c m : Nat) (W : World) : Prop := Boxed W w.heap.size 52 (.slice (some ⟨G, 0, none⟩) n c) ∧ Boxed W (w.heap.size + 1) 57 (.int .u32 (m : Nat)) ∧ Below w.heap.size w W
theorem AbL.shut {w : World} {G n c m lo : Nat} (hlo : w.heap.size + 1 < lo) (W : World) (r : Nat) (h : AbL w G n c m W) (hr : lo ≤ r) (hd : W.heap[r]? = some (.deferred (some []))) : AbL w G n c m (W.putObj r (.deferred none)) :=
  ⟨(World.putObj_heap_other (by omega)).trans h.1, (World.putObj_heap_other (by omega)).trans h.2.1, h.2.2.trans (belowK_b (w := w) (Nat.le_refl _) W r _ _ (by omega) hd rfl rfl)⟩
theorem AbL.own {β : Type} {w : World} {G n c B : Nat} (f : β → Nat) (hB : w.heap.size ≤ B) : OwnFrom B (fun (s : β) W => AbL w G n c (f s) W) :=
  OwnFrom.and (Own.from (boxed_own _ _ (fun _ => _)) _) (OwnFrom.and (Own.from (boxed_own _ _ (fun s : β => .int .u32 (f s : Nat))) _) (ownFrom_below (Nat.le_refl _) hB))

set_option maxRecDepth 100000 in
set_option maxHeartbeats 4000000 in
theorem above_any (G n c : Nat) (P : List (List Nat)) (s : List Nat) (w : World) (hn : P.length = n) (h8 : n ≤ 8) (hU : RowU w G (P.map mskN)) (hP : ∀ p ∈ P, ∀ u ∈ p, u < n) (hs : ∀ u ∈ s, u < n) :
    Calls Try.prog 38 #[.slice (some ⟨G, 0, none⟩) n c, .int .u32 (mskN s : Nat)] w fun e w' => e = .returned (.int .u32 (mskN (abS P s n) : Nat)) ∧ Below w.heap.size w w' := by
  refine (callsIn_wide (n := 6)).1 ?_
  have hG := hU.lt
  have hPd : ∀ v, ∀ u ∈ P.getD v [], u < n := fun v u hu => by
    by_cases hv : v < P.length
    · rw [List.getD_eq_getElem?_getD, List.getElem?_eq_getElem hv] at hu
      exact hP _ (List.getElem_mem hv) u hu
    · rw [List.getD_eq_getElem?_getD, List.getElem?_eq_none (by omega)] at hu
      simp at hu
  have HKU : Hid (∀ (V : World) (v : Nat), Below w.heap.size w V → v < n → V.cell? ⟨G, v, none⟩ = some (.int .u32 (mskN (P.getD v []) : Nat))) := fun V v hB hv => by
    have := (hU.below hB hG).cell v (by rw [List.length_map]; omega)
    rwa [mapU_get (by omega)] at this
  have HLT := hid (fun r => abS_lt hPd hs r)
  have HOR := hid (fun (r k : Nat) => bits_or (abK P (abS P s r) k) (P.getD k []) (fun u hu => by have := abK_lt hPd (abS_lt hPd hs r) k u hu; omega) (fun u hu => by have := hPd k u hu; omega))
  have HY := hid (fun (r k : Nat) (h : k ∈ abS P s r) => abK_yes (P := P) h)
  have HN := hid (fun (r k : Nat) (h : ¬ k ∈ abS P s r) => abK_no (P := P) h)
  have HZ := hid (fun (r : Nat) => abK_zero P (abS P s r))
  have HSU : Hid (∀ r, abK P (abS P s r) 8 = abS P s (r + 1)) := fun r => rfl
  have h0 : abS P s 0 = s := rfl
  clear hU hP hPd hs
  refine callsIn_of_wp_marks Try.func38 rfl trivial ?_ rfl
  simp only [Try.ntmps38, List.size_toArray, List.length_cons, List.length_nil, Nat.reduceAdd, Nat.reduceSub, Array.replicate_succ, Array.replicate_zero, List.push_toArray, List.append_toArray, List.nil_append, List.cons_append]
  obtain ⟨W2, hW2⟩ : ∃ W2, W2 = (w.alloc (.cells #[.slice (some ⟨G, 0, none⟩) n c] 52)).alloc (.cells #[.int .u32 (mskN s : Nat)] 57) := ⟨_, rfl⟩
  have hL2 : AbL w G n c (mskN (abS P s 0)) W2 := by
    rw [hW2, h0]
    refine ⟨(Boxed.new w _ _).alloc _, ?_, ((Below.refl _ w).alloc (Nat.le_refl _) _).alloc (by simp) _⟩
    have h := Boxed.new (w.alloc (.cells #[.slice (some ⟨G, 0, none⟩) n c] 52)) 57 (.int .u32 (mskN s : Nat))
    rwa [World.size_alloc] at h
  have k0 := hL2.1.cell
  rw [hW2] at k0
  gi_wp2
  rw [← hW2]
  have hs2 : W2.heap.size = w.heap.size + 2 := by rw [hW2]; simp
  have HL2 := hid hL2
  clear hW2 hL2 k0 h0
  generalize hab : abS P s = ab at *
  have HAB := hid hab
  clear hab
  generalize mskN s = m00 at *
  refine wpIn_loop (fun a' w' => ∃ (r : Nat) (ds : List Deferred) (u9 u10 u11 u19 : Value), a' = { tmps := #[.slice (some ⟨G, 0, none⟩) n c, .int .u32 (m00 : Nat), .pointer (some ⟨w.heap.size, 0, none⟩), .pointer (some ⟨w.heap.size + 1, 0, none⟩), .int .u32 0, undef, .slice (some ⟨G, 0, none⟩) n c, .int .i64 (n : Nat), .int .i64 (r : Nat), u9, u10, u11, undef, undef, undef, undef, undef, undef, undef, u19, undef], defers := ds } ∧ r ≤ n ∧ Hid (AbL w G n c (mskN (ab r)) w') ∧ Hid (Shut (w.heap.size + 2) w'.heap.size ds w')) (fun a' _ => n - (intOf (a'.tmps.getD 8 undef)).toNat) ?_ ?_
  · exact ⟨0, [], _, _, _, _, rfl, Nat.zero_le _, HL2, trivial⟩
  intro a' wr hinv
  obtain ⟨r, ds, u9, u10, u11, u19, rfl, hr, HLr, HSH⟩ := hinv
  clear HL2
  by_cases hlt : r < n
  · have ht := HLT.out r
    have HYr := hid (HY.out r)
    have HNr := hid (HN.out r)
    have HOr := hid (HOR.out r)
    have hZr := HZ.out r
    have hSr := HSU.out r
    have hlr : w.heap.size + 1 < wr.heap.size := HLr.out.2.1.lt
    have ks := HLr.out.2.1.cell
    have ht8 : ∀ u ∈ ab r, u < 8 := fun u hu => by have := ht u hu; omega
    generalize ab r = t at *
    gi_wp2
    clear ks
    have hL3 := HLr.out
    rw [← hZr] at hL3
    refine wp_each (by omega) t ht8 rfl rfl
      (fun k V => AbL w G n c (mskN (abK P t k)) V ∧ (wr.heap.size ≤ V.heap.size ∧ Shut (w.heap.size + 2) wr.heap.size ds V))
      (OwnFrom.and (AbL.own (fun k : Nat => mskN (abK P t k)) (by omega)) shut_own)
      ⟨hL3, Nat.le_refl _, HSH.out⟩
      (fun k => { tmps := #[.slice (some ⟨G, 0, none⟩) n c, .int .u32 (m00 : Nat), .pointer (some ⟨w.heap.size, 0, none⟩), .pointer (some ⟨w.heap.size + 1, 0, none⟩), .int .u32 0, .int .i64 (k : Nat), .slice (some ⟨G, 0, none⟩) n c, .int .i64 (n : Nat), .int .i64 (r : Nat), .bool true, .int .u32 (mskN t : Nat), .func (.func 47) #[.int .u32 (mskN t : Nat)] #[], .int .i64 (k : Nat), undef, undef, undef, undef, undef, undef, u19, undef], defers := [] }) ?assign ?body ?skip ?done
    case assign =>
      intro l k W K hK
      gi_wp2
      exact hK
    case body =>
      rintro l k V hk hm ⟨h0, hsV, hshV⟩
      have hkn := ht k hm
      have k0 := h0.1.cell
      have kG := HKU.out V k h0.2.2 hkn
      have hOR := HOr.out k
      have HYk := hid (HYr.out k hm)
      have ks := h0.2.1.cell
      have fs := h0.2.1.frozen
      generalize hm1 : mskN (abK P t k ++ P.getD k []) = m1 at *
      have HM1 := hid hm1
      clear hm1
      generalize mskN (abK P t k) = m0 at *
      generalize mskN (P.getD k []) = mu at *
      generalize mskN t = mt at *
      gi_wp2_with fail
      refine region_round (fun u => u.cell? ⟨w.heap.size, 0, none⟩ = some (.slice (some ⟨G, 0, none⟩) n c) ∧ u.cell? ⟨G, k, none⟩ = some (.int .u32 (mu : Nat))) (by kernel_rfl) (by kernel_rfl) (fun ⟨_, _, h⟩ => h) ⟨k0, kG⟩ ?_
      intro hSd
      have hD : KeepsOthers V V.drew := KeepsOthers.drew V
      have q0 : AbL w G n c m0 V.drew := ⟨h0.1, h0.2.1, h0.2.2.drew⟩
      have qS : Shut (w.heap.size + 2) wr.heap.size ds V.drew := hshV.keep fun _ _ => rfl
      have qz : wr.heap.size ≤ V.drew.heap.size := hsV
      have ks2 : V.drew.cell? ⟨w.heap.size + 1, 0, none⟩ = some (.int .u32 (m0 : Nat)) := ks
      have fs2 : V.drew.frozen? ⟨w.heap.size + 1, 0, none⟩ = false := fs
      clear k0 kG ks fs h0 hshV hsV hL3
      generalize V.drew = U0 at *
      (try simp only [List.getElem_toArray, List.getElem_cons_zero, List.getElem_cons_succ])
      (try simp only [Act.put, List.setIfInBounds_toArray, List.set_cons_zero, List.set_cons_succ])
      refine wpAnyH_take (i := 1) (oi := _) (v := .slice (some ⟨G, 0, none⟩) n c) rfl (by kernel_rfl) (by kernel_rfl) (by kernel_rfl) (fun _ _ _ h => h) (Or.inl ⟨by rfl, ?_⟩) (by assumption) ?_
      · intro u' hSu
        (try simp only [List.getElem_toArray, List.getElem_cons_zero, List.getElem_cons_succ])
        obtain ⟨s0, s1⟩ := hSu
        go_simp
      (try simp only [List.getElem_toArray, List.getElem_cons_zero, List.getElem_cons_succ])
      (try simp only [Act.put, List.setIfInBounds_toArray, List.set_cons_zero, List.set_cons_succ])
      refine wpAnyH_take (i := 2) (oi := _) (v := .int .i64 (k : Nat)) rfl (by kernel_rfl) (by kernel_rfl) (by kernel_rfl) (fun _ _ _ h => h) (Or.inl ⟨by rfl, ?_⟩) (by assumption) ?_
      · intro u' hSu
        (try simp only [List.getElem_toArray, List.getElem_cons_zero, List.getElem_cons_succ])
        go_simp
      (try simp only [List.getElem_toArray, List.getElem_cons_zero, List.getElem_cons_succ])
      (try simp only [Act.put, List.setIfInBounds_toArray, List.set_cons_zero, List.set_cons_succ])
      refine wpAnyH_take (i := 3) (oi := _) (v := .pointer (some ⟨G, k, none⟩)) rfl (by kernel_rfl) (by kernel_rfl) (by kernel_rfl) (fun _ _ _ h => h) (Or.inl ⟨by rfl, ?_⟩) (by assumption) ?_
      · intro u' hSu
        (try simp only [List.getElem_toArray, List.getElem_cons_zero, List.getElem_cons_succ])
        go_simp
      (try simp only [List.getElem_toArray, List.getElem_cons_zero, List.getElem_cons_succ])
      (try simp only [Act.put, List.setIfInBounds_toArray, List.set_cons_zero, List.set_cons_succ])
      refine wpAnyH_take (i := 4) (oi := _) (v := .int .u32 (mu : Nat)) rfl (by kernel_rfl) (by kernel_rfl) (by kernel_rfl) (fun _ _ _ h => h) (Or.inl ⟨by rfl, ?_⟩) (by assumption) ?_
      · intro u' hSu
        (try simp only [List.getElem_toArray, List.getElem_cons_zero, List.getElem_cons_succ])
        obtain ⟨s0, s1⟩ := hSu
        go_simp
      (try simp only [List.getElem_toArray, List.getElem_cons_zero, List.getElem_cons_succ])
      (try simp only [Act.put, List.setIfInBounds_toArray, List.set_cons_zero, List.set_cons_succ])
      refine wpAnyH_ready (rs := [0]) (by kernel_rfl) (by simp) (AllReadyH.cons rfl ?_ (AllReadyH.nil))
      · intro K' hK'
        (try simp only [List.getElem_toArray, List.getElem_cons_zero])
        go_simp
        refine hK'.out _ _ hSd (fun hSe => ?_)
        clear hK' K' hSe
        (try simp only [List.getElem_toArray, List.getElem_cons_zero, List.getElem_cons_succ])
        (try simp only [Act.put, List.setIfInBounds_toArray, List.set_cons_zero, List.set_cons_succ])
        refine wpAnyH_take (i := 5) (oi := _) (v := .int .u32 (m1 : Nat)) rfl (by kernel_rfl) (by kernel_rfl) (by kernel_rfl) (fun _ _ _ h => h) (Or.inl ⟨by rfl, ?_⟩) (by assumption) ?_
        · intro u' hSu
          (try simp only [List.getElem_toArray, List.getElem_cons_zero, List.getElem_cons_succ])
          go_simp
        (try simp only [List.getElem_toArray, List.getElem_cons_zero, List.getElem_cons_succ])
        (try simp only [Act.put, List.setIfInBounds_toArray, List.set_cons_zero, List.set_cons_succ])
        refine wpAnyH_ready (rs := [6]) (by kernel_rfl) (by simp) (AllReadyH.cons rfl ?_ (AllReadyH.nil))
        · intro K' hK'
          (try simp only [List.getElem_toArray, List.getElem_cons_zero, List.getElem_cons_succ])
          go_simp
          refine hK'.out _ _ ⟨(boxed_offB q0.1 (w.heap.size + 1) 0 _ (by omega)).cell, (World.cell?_setCell_other _ _ _ _ (fun e => (show ¬ w.heap.size + 1 = G by omega) (congrArg Addr.block e))).trans hSd.2⟩ (fun _ => wpAnyH_done (by kernel_rfl) ?_ _)
          clear hK' K' hSd
          gi_wp2
          exact ⟨(hD.trans (KeepsOthers.setCell U0 _ _)).from _, ⟨boxed_offB q0.1 (w.heap.size + 1) 0 _ (by omega), by rw [HYk.out, HM1.out]; exact q0.2.1.set _, q0.2.2.setCell (p := ⟨w.heap.size + 1, 0, none⟩) (by simp) _⟩, by simpa using qz, qS.putAt (by omega) _⟩
    case skip =>
      rintro k V hk hm h
      rw [HNr.out k hm]
      exact h
    case done =>
      rintro D V hD ⟨h0, hsV, hshV⟩ hK
      rw [hSr] at h0
      have hDX : D < V.heap.size := (Array.getElem?_eq_some_iff.1 hK).1
      have HSX : Hid (Shut (w.heap.size + 2) V.heap.size ({ target := .collected D, args := #[] } :: ds) V) := ⟨D, by omega, hDX, rfl, hK, hshV.mono hD⟩
      have HLX := hid h0
      clear h0 hshV hK
      gi_wp2
      refine ⟨⟨r + 1, _, _, _, _, _, rfl, by omega, HLX, HSX⟩, ?_⟩
      simp [intOf]
      omega
  · obtain rfl : r = n := by omega
    have kc := HLr.out.2.1.cell
    gi_wp2
    refine leaves_shut (lo := w.heap.size + 2) (K := AbL w G r c (mskN (ab r))) (AbL.shut (by omega)) (fun Z hZ => ⟨_, results_tmp rfl _ _ _, by rw [HAB.out]; rfl, hZ.2.2⟩) _ wr.heap.size wr HSH.out HLr.out
end Go.Proofs.Ytockhhleapbpiaa


/- Package graph: Above. -/
namespace Go.Proofs.Ytockhhleapbpiaa
open Go.RowKit Go.Shelf

/-- What Above answers. -/
def AbR (L : List (List Int)) (l : List Int) (e : Ending) (w' : World) : Prop :=
  (gcE L ≠ 0 ∧ e = .returned (.tuple #[.slice none 0 0, .int .i64 (gcE L)])) ∨
  (gcE L = 0 ∧ risB l L.length = false ∧ e = .returned (.tuple #[.slice none 0 0, .int .i64 11])) ∨
  (gcE L = 0 ∧ risB l L.length = true ∧ ∃ d cd, e = .returned (.tuple #[.slice d (memL (abS (parN L) (toN l) L.length)).length cd, .int .i64 0]) ∧ IntS w' d (memL (abS (parN L) (toN l) L.length)))
theorem gcE_gB {L : List (List Int)} (h : gcE L = 0) : gB L = true := by
  rw [gcE] at h
  by_cases e : gB L = true
  · exact e
  · rw [if_neg e] at h
    exact absurd h (by decide)

set_option maxRecDepth 100000 in
set_option maxHeartbeats 1000000 in
theorem gAbove_any (a b : Option Addr) (ca cb : Nat) (L : List (List Int)) (l : List Int) (w : World) (h : LsS w a L) (hl : ∀ l ∈ L, l.length ≤ 140737488355328) (hb : IntS w b l) (hll : l.length ≤ 140737488355328) :
    Calls Try.prog 13 #[.slice a L.length ca, .slice b l.length cb] w fun e w' => AbR L l e w' ∧ Below w.heap.size w w' := by
  have HR := hid (gRead_any a ca L w h hl)
  have HB := hid hb
  have HSO := hid (fun (U : World) (hU : IntS U b l) (hn : L.length ≤ 8) => setOf_any b cb l L.length U hU hll hn)
  have HAB : Hid (gcE L = 0 → risB l L.length = true → ∀ (G c : Nat) (U : World), RowU U G (masks L) → Calls Try.prog 38 #[.slice (some ⟨G, 0, none⟩) L.length c, .int .u32 (mskN (toN l) : Nat)] U fun e w' => e = .returned (.int .u32 (mskN (abS (parN L) (toN l) L.length) : Nat)) ∧ Below U.heap.size U w') := fun hg hr G c U hU => by
    rw [masks_par] at hU
    have hgb := gcE_gB hg
    exact above_any G L.length c (parN L) (toN l) U (parN_length L) (gB_parts hgb).2.1 hU (par_lt hgb) (fun u hu => by
      obtain ⟨x, hx, rfl⟩ := List.mem_map.1 hu
      obtain ⟨j, hj, rfl⟩ := List.getElem_of_mem hx
      have := (ris_up hr).each j hj
      omega)
  have HLI : Hid (gcE L = 0 → risB l L.length = true → ∀ U : World, Calls Try.prog 39 #[.int .u32 (mskN (abS (parN L) (toN l) L.length) : Nat)] U fun e w' => ∃ v, e = .returned v ∧ RwI w' U.heap.size v (iL (memU (abS (parN L) (toN l) L.length) 8)) ∧ Below U.heap.size U w') := fun hg hr U => list_any _ U (fun u hu => by
    have hgb := gcE_gB hg
    have h8 := (gB_parts hgb).2.1
    have := abS_lt (n := L.length) (P := parN L) (s := toN l) (fun v u hu => (nbr_of hgb).at v u hu) (fun u hu => by
      obtain ⟨x, hx, rfl⟩ := List.mem_map.1 hu
      obtain ⟨j, hj, rfl⟩ := List.getElem_of_mem hx
      have := (ris_up hr).each j hj
      omega) L.length u hu
    omega)
  have HSA : Hid (risB l L.length = true → setA l L.length = mskN (toN l)) := setA_yes
  clear h hl hb
  go_enter Try.func13, Try.ntmps13
  go_wp2_with fail
  refine HR.out.mono ?_
  rintro e w1 ⟨hb1, ⟨hg, G, rfl, hG, hU⟩ | ⟨hg, rfl⟩⟩
  · have h8 := (gB_parts (gcE_gB hg)).2.1
    have HS := hid (HSO.out w1 (HB.out.below hb1) h8)
    have HU := hid hU
    have HB1 := hid hb1
    have HG0 := hid hg
    clear hU hb1 HSO hg
    cases hr : risB l L.length with
    | false =>
      rw [hr] at HS
      have HRF := hid hr
      clear hr HAB HLI HSA
      generalize setA l L.length = sa at *
      go_wp2_with fail
      refine HS.out.mono ?_
      rintro e w2 ⟨rfl, hw2⟩
      subst hw2
      go_wp2
      go_ret2
      exact ⟨.inr (.inl ⟨HG0.out, HRF.out, rfl⟩), HB1.out⟩
    | true =>
      rw [hr, HSA.out hr] at HS
      have HRT := hid hr
      have HA := hid (HAB.out HG0.out hr G L.length)
      have HL := hid (HLI.out HG0.out hr)
      clear hr HAB HLI HSA
      generalize hab : abS (parN L) (toN l) L.length = ab at *
      have HABQ := hid hab
      clear hab
      generalize mskN (toN l) = m0 at *
      go_wp2_with fail
      refine HS.out.mono ?_
      rintro e w2 ⟨rfl, hw2⟩
      subst hw2
      go_wp2_with fail
      refine (HA.out _ HU.out).mono ?_
      rintro e w3 ⟨rfl, hb3⟩
      have HB3 := hid (HB1.out.trans (hb3.mono HB1.out.size))
      clear hb3
      go_wp2_with fail
      refine (HL.out _).mono ?_
      rintro e w4 ⟨v, rfl, hv, hb4⟩
      obtain ⟨d, cd, rfl, hI⟩ := hv.ints
      have HI := hid hI
      have HB4 := hid (HB3.out.trans (hb4.mono HB3.out.size))
      clear hv hI hb4
      go_wp2
      go_ret2
      exact ⟨.inr (.inr ⟨HG0.out, HRT.out, d, cd, by rw [HABQ.out]; rfl, by rw [HABQ.out]; exact HI.out⟩), HB4.out⟩
  · have HGN := hid hg
    have HB1 := hid hb1
    have hgb : (gcE L == 0) = false := by simpa using hg
    clear hg hb1 HAB HLI HSA HSO
    generalize hge : gcE L = ge at *
    have HGE := hid hge
    clear hge
    go_wp2
    go_ret2
    exact ⟨.inl ⟨by rw [HGE.out]; exact HGN.out, by rw [HGE.out]; rfl⟩, HB1.out⟩
end Go.Proofs.Ytockhhleapbpiaa

