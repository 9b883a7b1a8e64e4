/- Package graph: above. -/
import Derived.Test.YtockhhleapbpiaaChiAOwn
import Derived.Test.YtockhhleapbpiaaCntAToListA
namespace Go.Proofs.Ytockhhleapbpiaa
open Go.RowKit Go.Shelf

attribute [local go_sem] Oper.semAt_some

/-- A set, and what stands right above those of it below k. -/
def abK (P : List (List Nat)) (t : List Nat) (k : Nat) : List Nat := t ++ (memU t k).flatMap fun v => P.getD v []
theorem abK_zero (P : List (List Nat)) (t : List Nat) : abK P t 0 = t := by simp [abK, memU]
theorem abK_yes {P : List (List Nat)} {t : List Nat} {k : Nat} (h : k ∈ t) : abK P t (k + 1) = abK P t k ++ P.getD k [] := by rw [abK, memU_yes h, List.flatMap_append, ← List.append_assoc, abK]; simp
theorem abK_no {P : List (List Nat)} {t : List Nat} {k : Nat} (h : ¬ k ∈ t) : abK P t (k + 1) = abK P t k := by rw [abK, memU_no h, abK]
/-- A set and all that stands at most so many steps above it. -/
def abS (P : List (List Nat)) (s : List Nat) : Nat → List Nat
  | 0 => s
  | r + 1 => abK P (abS P s r) 8
theorem abK_lt {n : Nat} {P : List (List Nat)} {t : List Nat} (hP : ∀ v, ∀ u ∈ P.getD v [], u < n) (ht : ∀ u ∈ t, u < n) (k : Nat) : ∀ u ∈ abK P t k, u < n := fun u hu => by
  rcases List.mem_append.1 hu with h | h
  · exact ht u h
  · obtain ⟨v, _, h2⟩ := List.mem_flatMap.1 h
    exact hP v u h2
theorem abS_lt {n : Nat} {P : List (List Nat)} {s : List Nat} (hP : ∀ v, ∀ u ∈ P.getD v [], u < n) (hs : ∀ u ∈ s, u < n) : ∀ r, ∀ u ∈ abS P s r, u < n
  | 0 => hs
  | r + 1 => abK_lt hP (abS_lt hP hs r) 8
/-- What a call of above leaves with. -/
def AbL (w : World) (G n c m : Nat) (W : World) : Prop := Boxed W w.heap.size 52 (.slice (some ⟨G, 0, none⟩) n c) ∧ Boxed W (w.heap.size + 1) 57 (.int .u32 (m : Nat)) ∧ Below w.heap.size w W
theorem AbL.shut {w : World} {G n c m lo : Nat} (hlo : w.heap.size + 1 < lo) (W : World) (r : Nat) (h : AbL w G n c m W) (hr : lo ≤ r) (hd : W.heap[r]? = some (.deferred (some []))) : AbL w G n c m (W.putObj r (.deferred none)) :=
  ⟨(World.putObj_heap_other (by omega)).trans h.1, (World.putObj_heap_other (by omega)).trans h.2.1, h.2.2.trans (belowK_b (w := w) (Nat.le_refl _) W r _ _ (by omega) hd rfl rfl)⟩
theorem AbL.own {β : Type} {w : World} {G n c B : Nat} (f : β → Nat) (hB : w.heap.size ≤ B) : OwnFrom B (fun (s : β) W => AbL w G n c (f s) W) :=
  OwnFrom.and (Own.from (boxed_own _ _ (fun _ => _)) _) (OwnFrom.and (Own.from (boxed_own _ _ (fun s : β => .int .u32 (f s : Nat))) _) (ownFrom_below (Nat.le_refl _) hB))

set_option maxRecDepth 100000 in
set_option maxHeartbeats 4000000 in
theorem above_any (G n c : Nat) (P : List (List Nat)) (s : List Nat) (w : World) (hn : P.length = n) (h8 : n ≤ 8) (hU : RowU w G (P.map mskN)) (hP : ∀ p ∈ P, ∀ u ∈ p, u < n) (hs : ∀ u ∈ s, u < n) :
    Calls Try.prog 38 #[.slice (some ⟨G, 0, none⟩) n c, .int .u32 (mskN s : Nat)] w fun e w' => e = .returned (.int .u32 (mskN (abS P s n) : Nat)) ∧ Below w.heap.size w w' := by
  refine (callsIn_wide (n := 6)).1 ?_
  have hG := hU.lt
  have hPd : ∀ v, ∀ u ∈ P.getD v [], u < n := fun v u hu => by
    by_cases hv : v < P.length
    · rw [List.getD_eq_getElem?_getD, List.getElem?_eq_getElem hv] at hu
      exact hP _ (List.getElem_mem hv) u hu
    · rw [List.getD_eq_getElem?_getD, List.getElem?_eq_none (by omega)] at hu
      simp at hu
  have HKU : Hid (∀ (V : World) (v : Nat), Below w.heap.size w V → v < n → V.cell? ⟨G, v, none⟩ = some (.int .u32 (mskN (P.getD v []) : Nat))) := fun V v hB hv => by
    have := (hU.below hB hG).cell v (by rw [List.length_map]; omega)
    rwa [mapU_get (by omega)] at this
  have HLT := hid (fun r => abS_lt hPd hs r)
  have HOR := hid (fun (r k : Nat) => bits_or (abK P (abS P s r) k) (P.getD k []) (fun u hu => by have := abK_lt hPd (abS_lt hPd hs r) k u hu; omega) (fun u hu => by have := hPd k u hu; omega))
  have HY := hid (fun (r k : Nat) (h : k ∈ abS P s r) => abK_yes (P := P) h)
  have HN := hid (fun (r k : Nat) (h : ¬ k ∈ abS P s r) => abK_no (P := P) h)
  have HZ := hid (fun (r : Nat) => abK_zero P (abS P s r))
  have HSU : Hid (∀ r, abK P (abS P s r) 8 = abS P s (r + 1)) := fun r => rfl
  have h0 : abS P s 0 = s := rfl
  clear hU hP hPd hs
  refine callsIn_of_wp_marks Try.func38 rfl trivial ?_ rfl
  simp only [Try.ntmps38, List.size_toArray, List.length_cons, List.length_nil, Nat.reduceAdd, Nat.reduceSub, Array.replicate_succ, Array.replicate_zero, List.push_toArray, List.append_toArray, List.nil_append, List.cons_append]
  obtain ⟨W2, hW2⟩ : ∃ W2, W2 = (w.alloc (.cells #[.slice (some ⟨G, 0, none⟩) n c] 52)).alloc (.cells #[.int .u32 (mskN s : Nat)] 57) := ⟨_, rfl⟩
  have hL2 : AbL w G n c (mskN (abS P s 0)) W2 := by
    rw [hW2, h0]
    refine ⟨(Boxed.new w _ _).alloc _, ?_, ((Below.refl _ w).alloc (Nat.le_refl _) _).alloc (by simp) _⟩
    have h := Boxed.new (w.alloc (.cells #[.slice (some ⟨G, 0, none⟩) n c] 52)) 57 (.int .u32 (mskN s : Nat))
    rwa [World.size_alloc] at h
  have k0 := hL2.1.cell
  rw [hW2] at k0
  gi_wp2
  rw [← hW2]
  have hs2 : W2.heap.size = w.heap.size + 2 := by rw [hW2]; simp
  have HL2 := hid hL2
  clear hW2 hL2 k0 h0
  generalize hab : abS P s = ab at *
  have HAB := hid hab
  clear hab
  generalize mskN s = m00 at *
  refine wpIn_loop (fun a' w' => ∃ (r : Nat) (ds : List Deferred) (u9 u10 u11 u19 : Value), a' = { tmps := #[.slice (some ⟨G, 0, none⟩) n c, .int .u32 (m00 : Nat), .pointer (some ⟨w.heap.size, 0, none⟩), .pointer (some ⟨w.heap.size + 1, 0, none⟩), .int .u32 0, undef, .slice (some ⟨G, 0, none⟩) n c, .int .i64 (n : Nat), .int .i64 (r : Nat), u9, u10, u11, undef, undef, undef, undef, undef, undef, undef, u19, undef], defers := ds } ∧ r ≤ n ∧ Hid (AbL w G n c (mskN (ab r)) w') ∧ Hid (Shut (w.heap.size + 2) w'.heap.size ds w')) (fun a' _ => n - (intOf (a'.tmps.getD 8 undef)).toNat) ?_ ?_
  · exact ⟨0, [], _, _, _, _, rfl, Nat.zero_le _, HL2, trivial⟩
  intro a' wr hinv
  obtain ⟨r, ds, u9, u10, u11, u19, rfl, hr, HLr, HSH⟩ := hinv
  clear HL2
  by_cases hlt : r < n
  · have ht := HLT.out r
    have HYr := hid (HY.out r)
    have HNr := hid (HN.out r)
    have HOr := hid (HOR.out r)
    have hZr := HZ.out r
    have hSr := HSU.out r
    have hlr : w.heap.size + 1 < wr.heap.size := HLr.out.2.1.lt
    have ks := HLr.out.2.1.cell
    have ht8 : ∀ u ∈ ab r, u < 8 := fun u hu => by have := ht u hu; omega
    generalize ab r = t at *
    gi_wp2
    clear ks
    have hL3 := HLr.out
    rw [← hZr] at hL3
    refine wp_each (by omega) t ht8 rfl rfl
      (fun k V => AbL w G n c (mskN (abK P t k)) V ∧ (wr.heap.size ≤ V.heap.size ∧ Shut (w.heap.size + 2) wr.heap.size ds V))
      (OwnFrom.and (AbL.own (fun k : Nat => mskN (abK P t k)) (by omega)) shut_own)
      ⟨hL3, Nat.le_refl _, HSH.out⟩
      (fun k => { tmps := #[.slice (some ⟨G, 0, none⟩) n c, .int .u32 (m00 : Nat), .pointer (some ⟨w.heap.size, 0, none⟩), .pointer (some ⟨w.heap.size + 1, 0, none⟩), .int .u32 0, .int .i64 (k : Nat), .slice (some ⟨G, 0, none⟩) n c, .int .i64 (n : Nat), .int .i64 (r : Nat), .bool true, .int .u32 (mskN t : Nat), .func (.func 47) #[.int .u32 (mskN t : Nat)] #[], .int .i64 (k : Nat), undef, undef, undef, undef, undef, undef, u19, undef], defers := [] }) ?assign ?body ?skip ?done
    case assign =>
      intro l k W K hK
      gi_wp2
      exact hK
    case body =>
      rintro l k V hk hm ⟨h0, hsV, hshV⟩
      have hkn := ht k hm
      have k0 := h0.1.cell
      have kG := HKU.out V k h0.2.2 hkn
      have hOR := HOr.out k
      have HYk := hid (HYr.out k hm)
      have ks := h0.2.1.cell
      have fs := h0.2.1.frozen
      generalize hm1 : mskN (abK P t k ++ P.getD k []) = m1 at *
      have HM1 := hid hm1
      clear hm1
      generalize mskN (abK P t k) = m0 at *
      generalize mskN (P.getD k []) = mu at *
      generalize mskN t = mt at *
      gi_wp2_with fail
      refine region_round (fun u => u.cell? ⟨w.heap.size, 0, none⟩ = some (.slice (some ⟨G, 0, none⟩) n c) ∧ u.cell? ⟨G, k, none⟩ = some (.int .u32 (mu : Nat))) (by kernel_rfl) (by kernel_rfl) (fun ⟨_, _, h⟩ => h) ⟨k0, kG⟩ ?_
      intro hSd
      have hD : KeepsOthers V V.drew := KeepsOthers.drew V
      have q0 : AbL w G n c m0 V.drew := ⟨h0.1, h0.2.1, h0.2.2.drew⟩
      have qS : Shut (w.heap.size + 2) wr.heap.size ds V.drew := hshV.keep fun _ _ => rfl
      have qz : wr.heap.size ≤ V.drew.heap.size := hsV
      have ks2 : V.drew.cell? ⟨w.heap.size + 1, 0, none⟩ = some (.int .u32 (m0 : Nat)) := ks
      have fs2 : V.drew.frozen? ⟨w.heap.size + 1, 0, none⟩ = false := fs
      clear k0 kG ks fs h0 hshV hsV hL3
      generalize V.drew = U0 at *
      (try simp only [List.getElem_toArray, List.getElem_cons_zero, List.getElem_cons_succ])
      (try simp only [Act.put, List.setIfInBounds_toArray, List.set_cons_zero, List.set_cons_succ])
      refine wpAnyH_take (i := 1) (oi := _) (v := .slice (some ⟨G, 0, none⟩) n c) rfl (by kernel_rfl) (by kernel_rfl) (by kernel_rfl) (fun _ _ _ h => h) (Or.inl ⟨by rfl, ?_⟩) (by assumption) ?_
      · intro u' hSu
        (try simp only [List.getElem_toArray, List.getElem_cons_zero, List.getElem_cons_succ])
        obtain ⟨s0, s1⟩ := hSu
        go_simp
      (try simp only [List.getElem_toArray, List.getElem_cons_zero, List.getElem_cons_succ])
      (try simp only [Act.put, List.setIfInBounds_toArray, List.set_cons_zero, List.set_cons_succ])
      refine wpAnyH_take (i := 2) (oi := _) (v := .int .i64 (k : Nat)) rfl (by kernel_rfl) (by kernel_rfl) (by kernel_rfl) (fun _ _ _ h => h) (Or.inl ⟨by rfl, ?_⟩) (by assumption) ?_
      · intro u' hSu
        (try simp only [List.getElem_toArray, List.getElem_cons_zero, List.getElem_cons_succ])
        go_simp
      (try simp only [List.getElem_toArray, List.getElem_cons_zero, List.getElem_cons_succ])
      (try simp only [Act.put, List.setIfInBounds_toArray, List.set_cons_zero, List.set_cons_succ])
      refine wpAnyH_take (i := 3) (oi := _) (v := .pointer (some ⟨G, k, none⟩)) rfl (by kernel_rfl) (by kernel_rfl) (by kernel_rfl) (fun _ _ _ h => h) (Or.inl ⟨by rfl, ?_⟩) (by assumption) ?_
      · intro u' hSu
        (try simp only [List.getElem_toArray, List.getElem_cons_zero, List.getElem_cons_succ])
        go_simp
      (try simp only [List.getElem_toArray, List.getElem_cons_zero, List.getElem_cons_succ])
      (try simp only [Act.put, List.setIfInBounds_toArray, List.set_cons_zero, List.set_cons_succ])
      refine wpAnyH_take (i := 4) (oi := _) (v := .int .u32 (mu : Nat)) rfl (by kernel_rfl) (by kernel_rfl) (by kernel_rfl) (fun _ _ _ h => h) (Or.inl ⟨by rfl, ?_⟩) (by assumption) ?_
      · intro u' hSu
        (try simp only [List.getElem_toArray, List.getElem_cons_zero, List.getElem_cons_succ])
        obtain ⟨s0, s1⟩ := hSu
        go_simp
      (try simp only [List.getElem_toArray, List.getElem_cons_zero, List.getElem_cons_succ])
      (try simp only [Act.put, List.setIfInBounds_toArray, List.set_cons_zero, List.set_cons_succ])
      refine wpAnyH_ready (rs := [0]) (by kernel_rfl) (by simp) (AllReadyH.cons rfl ?_ (AllReadyH.nil))
      · intro K' hK'
        (try simp only [List.getElem_toArray, List.getElem_cons_zero])
        go_simp
        refine hK'.out _ _ hSd (fun hSe => ?_)
        clear hK' K' hSe
        (try simp only [List.getElem_toArray, List.getElem_cons_zero, List.getElem_cons_succ])
        (try simp only [Act.put, List.setIfInBounds_toArray, List.set_cons_zero, List.set_cons_succ])
        refine wpAnyH_take (i := 5) (oi := _) (v := .int .u32 (m1 : Nat)) rfl (by kernel_rfl) (by kernel_rfl) (by kernel_rfl) (fun _ _ _ h => h) (Or.inl ⟨by rfl, ?_⟩) (by assumption) ?_
        · intro u' hSu
          (try simp only [List.getElem_toArray, List.getElem_cons_zero, List.getElem_cons_succ])
          go_simp
        (try simp only [List.getElem_toArray, List.getElem_cons_zero, List.getElem_cons_succ])
        (try simp only [Act.put, List.setIfInBounds_toArray, List.set_cons_zero, List.set_cons_succ])
        refine wpAnyH_ready (rs := [6]) (by kernel_rfl) (by simp) (AllReadyH.cons rfl ?_ (AllReadyH.nil))
        · intro K' hK'
          (try simp only [List.getElem_toArray, List.getElem_cons_zero, List.getElem_cons_succ])
          go_simp
          refine hK'.out _ _ ⟨(boxed_offB q0.1 (w.heap.size + 1) 0 _ (by omega)).cell, (World.cell?_setCell_other _ _ _ _ (fun e => (show ¬ w.heap.size + 1 = G by omega) (congrArg Addr.block e))).trans hSd.2⟩ (fun _ => wpAnyH_done (by kernel_rfl) ?_ _)
          clear hK' K' hSd
          gi_wp2
          exact ⟨(hD.trans (KeepsOthers.setCell U0 _ _)).from _, ⟨boxed_offB q0.1 (w.heap.size + 1) 0 _ (by omega), by rw [HYk.out, HM1.out]; exact q0.2.1.set _, q0.2.2.setCell (p := ⟨w.heap.size + 1, 0, none⟩) (by simp) _⟩, by simpa using qz, qS.putAt (by omega) _⟩
    case skip =>
      rintro k V hk hm h
      rw [HNr.out k hm]
      exact h
    case done =>
      rintro D V hD ⟨h0, hsV, hshV⟩ hK
      rw [hSr] at h0
      have hDX : D < V.heap.size := (Array.getElem?_eq_some_iff.1 hK).1
      have HSX : Hid (Shut (w.heap.size + 2) V.heap.size ({ target := .collected D, args := #[] } :: ds) V) := ⟨D, by omega, hDX, rfl, hK, hshV.mono hD⟩
      have HLX := hid h0
      clear h0 hshV hK
      gi_wp2
      refine ⟨⟨r + 1, _, _, _, _, _, rfl, by omega, HLX, HSX⟩, ?_⟩
      simp [intOf]
      omega
  · obtain rfl : r = n := by omega
    have kc := HLr.out.2.1.cell
    gi_wp2
    refine leaves_shut (lo := w.heap.size + 2) (K := AbL w G r c (mskN (ab r))) (AbL.shut (by omega)) (fun Z hZ => ⟨_, results_tmp rfl _ _ _, by rw [HAB.out]; rfl, hZ.2.2⟩) _ wr.heap.size wr HSH.out HLr.out
end Go.Proofs.Ytockhhleapbpiaa


/- Package graph: read, Check. -/
namespace Go.Proofs.Ytockhhleapbpiaa
open Go.RowKit Go.Shelf

theorem gB_parts {L : List (List Int)} (h : gB L = true) : 1 ≤ L.length ∧ L.length ≤ 8 ∧ allRis L L.length = true ∧ noSelf L = true := by
  rw [gB, Bool.and_eq_true, Bool.and_eq_true, decide_eq_true_iff] at h
  exact ⟨h.1.1.1, h.1.1.2, h.1.2, h.2⟩
theorem gB_par {L : List (List Int)} (h : gB L = true) : ∀ p ∈ parN L, ∀ u ∈ p, u < 8 := by
  obtain ⟨h1, h2, h3, h4⟩ := gB_parts h
  intro p hp
  obtain ⟨l, hl, rfl⟩ := List.mem_map.1 hp
  exact ris_all h2 (List.all_eq_true.1 h3 l hl)

set_option maxRecDepth 100000 in
set_option maxHeartbeats 1000000 in
theorem gRead_any (a : Option Addr) (ca : Nat) (L : List (List Int)) (w : World) (h : LsS w a L) (hl : ∀ l ∈ L, l.length ≤ 140737488355328) :
    Calls Try.prog 34 #[.slice a L.length ca] w fun e w' => Below w.heap.size w w' ∧
      ((gcE L = 0 ∧ ∃ G, e = .returned (.tuple #[.slice (some ⟨G, 0, none⟩) L.length L.length, .int .i64 0]) ∧ w.heap.size ≤ G ∧ RowU w' G (masks L)) ∨ (gcE L ≠ 0 ∧ e = .returned (.tuple #[.slice none 0 0, .int .i64 (gcE L)]))) := by
  have HF := hid h
  have HR := hid (fun (V : World) (hV : LsS V a L) => readOthers_any a ca L V hV hl)
  have HG1 : Hid (gB L = false → gcE L = 11) := fun h => if_neg (by rw [h]; decide)
  have HG2 : Hid (gB L = true → (ordN (parN L) L.length).length < L.length → gcE L = 10) := fun h1 h2 => by rw [gcE, if_pos h1, if_pos h2]
  have HG3 : Hid (gB L = true → ¬ (ordN (parN L) L.length).length < L.length → gcE L = 0) := fun h1 h2 => by rw [gcE, if_pos h1, if_neg h2]
  have HO : Hid (gB L = true → ∀ (G c : Nat) (V : World), RowU V G (masks L) → Calls Try.prog 35 #[.slice (some ⟨G, 0, none⟩) L.length c] V fun e w' => ∃ x, e = .returned x ∧ RwI w' V.heap.size x (iL (ordN (parN L) L.length)) ∧ Below V.heap.size V w') := fun hg G c V hV => by
    have h8 := (gB_parts hg).2.1
    have := order_any G c (parN L) V (by rw [← masks_par]; exact hV) (by rw [parN_length]; exact h8) (gB_par hg)
    rwa [parN_length] at this
  generalize gcE L = ge at *
  generalize masks L = ms at *
  clear h hl
  go_enter Try.func34, Try.ntmps34
  go_wp2_with fail
  refine (HR.out _ HF.out).mono ?_
  rintro e w1 ⟨hb, ⟨hg, G, rfl, hG, hU⟩ | ⟨hg, v, rfl⟩⟩
  · have HUU := hid hU
    have HOG := hid (HO.out hg G L.length)
    have HB := hid hb
    have HGG := hid hg
    clear hU hb hg HO HR
    go_wp2_with fail
    refine (HOG.out _ HUU.out).mono ?_
    rintro e w2 ⟨x, rfl, hx, hb2⟩
    obtain ⟨d, cd, rfl, _⟩ := hx.ints
    have HB2 := hid (HB.out.trans (hb2.mono HB.out.size))
    have HU2 := hid (HUU.out.below hb2 HUU.out.lt)
    have HLL : Hid ((iL (ordN (parN L) L.length)).length = (ordN (parN L) L.length).length) := iL_length _
    clear hx hb2
    by_cases hlt : (ordN (parN L) L.length).length < L.length
    · have HE := hid (HG2.out HGG.out hlt)
      have hlt' : (iL (ordN (parN L) L.length)).length < L.length := by rw [HLL.out]; exact hlt
      clear hlt
      generalize (iL (ordN (parN L) L.length)).length = m at *
      go_wp2
      go_ret2
      exact ⟨HB2.out, .inr ⟨by rw [HE.out]; decide, by rw [HE.out]; rfl⟩⟩
    · have HE := hid (HG3.out HGG.out hlt)
      have hlt' : ¬ (iL (ordN (parN L) L.length)).length < L.length := by rw [HLL.out]; exact hlt
      clear hlt
      generalize (iL (ordN (parN L) L.length)).length = m at *
      go_wp2
      go_ret2
      exact ⟨HB2.out, .inl ⟨HE.out, G, rfl, hG, HU2.out⟩⟩
  · have HE := hid (HG1.out hg)
    have HB := hid hb
    clear hg hb
    go_wp2
    go_ret2
    exact ⟨HB.out, .inr ⟨by rw [HE.out]; decide, by rw [HE.out]; rfl⟩⟩
set_option maxRecDepth 100000 in
set_option maxHeartbeats 1000000 in
theorem gCheck_any (a : Option Addr) (ca : Nat) (L : List (List Int)) (w : World) (h : LsS w a L) (hl : ∀ l ∈ L, l.length ≤ 140737488355328) :
    Calls Try.prog 11 #[.slice a L.length ca] w fun e w' => e = .returned (.int .i64 (gcE L)) ∧ Below w.heap.size w w' := by
  have HF := hid h
  have HR := hid (fun (V : World) (hV : LsS V a L) => gRead_any a ca L V hV hl)
  generalize gcE L = ge at *
  clear h hl
  go_enter Try.func11, Try.ntmps11
  go_wp2_with fail
  refine (HR.out _ HF.out).mono ?_
  rintro e w1 ⟨hb, ⟨rfl, G, rfl, hG, hU⟩ | ⟨hg, rfl⟩⟩
  · clear hU
    go_wp2
    go_ret
    exact ⟨rfl, hb⟩
  · clear hg
    go_wp2
    go_ret
    exact ⟨rfl, hb⟩
end Go.Proofs.Ytockhhleapbpiaa

