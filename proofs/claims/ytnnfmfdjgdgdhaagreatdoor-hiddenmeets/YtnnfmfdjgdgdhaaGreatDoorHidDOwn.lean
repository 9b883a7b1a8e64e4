/- Chains and hidden chains that may be: Check, Step, check. -/
import Derived.Test.YtnnfmfdjgdgdhaaGreatDoorHidCToProdB
import Derived.Test.YtnnfmfdjgdgdhaaGreatDoorMadBToCofI
namespace Go.Proofs.YtnnfmfdjgdgdhaaGreatDoor
open Go.RowKit Go.Shelf

/-- Rows that may be, of so many. -/
structure RwsOK (n m : Nat) (R : List (List Fr)) : Prop where
  len : R.length = n
  each : ∀ i (h : i < R.length), R[i].length = m
  fw : ∀ i (h : i < R.length), fw R[i] ≤ 10000
  row : ∀ i (h : i < R.length), rowB R[i] = true

set_option maxRecDepth 100000 in
set_option maxHeartbeats 1000000 in
theorem chCheck_yes (c : Option Addr) (cc n : Nat) (R : List (List Fr)) (w : World) (hR : FsS w c R) (h : RwsOK n n R) (h1 : 1 ≤ n) (hn : n ≤ 4) :
    Calls Tryz.prog 69 #[.slice c n cc] w fun e w' => e = .returned (.int .i64 0) ∧ Below w.heap.size w w' := by
  have HFR := hid hR
  have HO := hid h
  clear hR h
  go_enter Tryz.func69, Tryz.ntmps69
  go_wp2_with fail
  go_loopw [17] (fun iv wr => ∃ i : Nat, i ≤ n ∧ iv = .int .i64 i ∧ w = wr) (fun iv _ => n - (intOf iv).toNat)
  case atStart => exact ⟨0, Nat.zero_le _, rfl, rfl⟩
  case round =>
    obtain ⟨i, hi, rfl, rfl⟩ := hrel
    by_cases hlt : i < n
    · have hiR : i < R.length := by rw [HO.out.len]; exact hlt
      obtain ⟨gc, oc, bc, cr, rfl, hgc, c0, -, -⟩ := HFR.out i hiR
      rw [HO.out.each i hiR] at c0
      go_wp2
      go_roundw
      case rel => exact ⟨i + 1, by omega, by go_num, trivial⟩
      case measure => simp [intOf]; omega
    · obtain rfl : i = n := by omega
      go_wp2_with fail
      go_loopw [29] (fun kv wr => ∃ k : Nat, k ≤ i ∧ kv = .int .i64 k ∧ Hid (Below w.heap.size w wr)) (fun kv _ => i - (intOf kv).toNat)
      case atStart => exact ⟨0, Nat.zero_le _, rfl, Below.refl _ _⟩
      case round =>
        obtain ⟨k, hk, rfl, HB⟩ := hrel
        by_cases hlt2 : k < i
        · have hkR : k < R.length := by rw [HO.out.len]; exact hlt2
          obtain ⟨gc, oc, bc, cr, rfl, hgc, c0, hfr, -⟩ := (HFR.out.below HB.out) k hkR
          have hel := HO.out.each k hkR
          have HRO := hid (chRow_any bc cr R[k] wr hfr (HO.out.fw k hkR) (by omega))
          rw [HO.out.row k hkR] at HRO
          clear hfr hel
          generalize R[k].length = rl at *
          go_wp2_with fail
          refine HRO.out.mono ?_
          rintro e w2 ⟨rfl, hb2⟩
          have HB2 := hid (HB.out.trans (hb2.mono HB.out.size))
          clear hb2
          go_wp2
          go_roundw
          case rel => exact ⟨k + 1, by omega, by go_num, HB2⟩
          case measure => simp [intOf]; omega
        · obtain rfl : k = i := by omega
          go_wp2
          go_ret
          exact ⟨rfl, HB.out⟩

set_option maxRecDepth 100000 in
set_option maxHeartbeats 400000 in
theorem chStep_yes (a c : Option Addr) (ca cc n : Nat) (l : List Fr) (R : List (List Fr)) (f : Nat → Rat) (g : Nat → Nat → Rat) (w : World) (ha : FrS w a l) (hR : FsS w c R) (hf : Lst n f l) (hok : RwsOK n n R) (hg : ∀ i (h : i < R.length), Lst n (g i) R[i]) (hsz : ∀ i j, i < n → j < n → qw (f i * g i j) ≤ 1500) (h1 : 1 ≤ n) (hn : n ≤ 4) :
    Calls Tryz.prog 45 #[.slice a n ca, .slice c n cc] w fun e w' => ∃ G, e = .returned (.tuple #[.slice (some ⟨G, 0, none⟩) n n, .int .i64 0]) ∧ w.heap.size ≤ G ∧ RowF w' G (lF n fun j => sumR (fun i => f i * g i j) n) ∧ Below w.heap.size w w' := by
  have HC := hid (chCheck_yes c cc n R w hR hok h1 hn)
  have HM := hid (fun (V : World) (hb : Below w.heap.size w V) => chMoved_any a c ca cc n l R f g V (ha.below hb) (hR.below hb) hf hok.len hg hsz hn)
  clear ha hR hf hok hg hsz
  generalize (lF n fun j => sumR (fun i => f i * g i j) n) = FL at *
  go_enter Tryz.func45, Tryz.ntmps45
  go_wp2_with fail
  refine HC.out.mono ?_
  rintro e w1 ⟨rfl, hb1⟩
  have HB1 := hid hb1
  clear hb1
  go_wp2_with fail
  refine (HM.out _ HB1.out).mono ?_
  rintro e w2 ⟨G, rfl, hG, hr, hb2⟩
  have HB2 := hid (HB1.out.trans (hb2.mono HB1.out.size))
  have HRR := hid hr
  have hGw : w.heap.size ≤ G := Nat.le_trans HB1.out.size hG
  clear hr hb2 hG
  go_wp2
  go_ret2
  exact ⟨G, rfl, hGw, HRR.out, HB2.out⟩

set_option maxRecDepth 100000 in
set_option maxHeartbeats 400000 in
theorem signs_yes (a b c : Option Addr) (n1 n2 ca cb cc n m : Nat) (R : List (List Fr)) (w : World) (hR : FsS w c R) (h : RwsOK n m R) (h1 : 1 ≤ n) (hn : n ≤ 100) :
    Calls Tryz.prog 39 #[.agg #[.slice a n1 ca, .slice b n2 cb, .slice c n cc]] w fun e w' => e = .returned (.int .i64 (m : Nat)) ∧ Below w.heap.size w w' := by
  have h0 : 0 < R.length := by rw [h.len]; omega
  obtain ⟨gc, oc, bc, cr, rfl, hgc, c0, -, -⟩ := hR 0 h0
  rw [h.each 0 h0, Nat.add_zero] at c0
  have hA := (Below.refl w.heap.size w).alloc (Nat.le_refl _) (HC3 (.slice a n1 ca) (.slice b n2 cb) (.slice (some ⟨gc, oc, none⟩) n cc))
  obtain ⟨-, -, e2⟩ := (HBox.new w (.slice a n1 ca) (.slice b n2 cb) (.slice (some ⟨gc, oc, none⟩) n cc)).cells
  have c0' := (hA.cell (p := ⟨gc, _, none⟩) hgc).trans c0
  have HA := hid hA
  clear c0 hA hR h
  go_enter Tryz.func39, Tryz.ntmps39
  go_wp2
  go_ret
  exact ⟨rfl, HA.out⟩

/-- A list of lists of fractions as the slices that stand there. -/
theorem FsS.vals {w : World} {a : Option Addr} {R : List (List Fr)} (h : FsS w a R) : ∃ X : List Value, X.length = R.length ∧ VaS w a X ∧ ∀ v ∈ X, ∃ (b : Option Addr) (l : List Fr) (c : Nat), v = .slice b l.length c ∧ FrS w b l ∧ l ∈ R := by
  let at' : Nat → Value := fun k => match a with
    | some p => (w.cell? ⟨p.block, p.off + k, none⟩).getD (.slice none 0 0)
    | none => .slice none 0 0
  have key : ∀ k (hk : k < R.length), ∃ g o b c, a = some ⟨g, o, none⟩ ∧ g < w.heap.size ∧ w.cell? ⟨g, o + k, none⟩ = some (at' k) ∧ at' k = .slice b R[k].length c ∧ FrS w b R[k] := fun k hk => by
    obtain ⟨g, o, b, c, rfl, hg, h3, h4, -⟩ := h k hk
    have e : at' k = .slice b R[k].length c := by simp only [at', h3, Option.getD_some]
    exact ⟨g, o, b, c, rfl, hg, by rw [e]; exact h3, e, h4⟩
  refine ⟨(List.range R.length).map at', by simp, fun k hk => ?_, fun v hv => ?_⟩
  · have hk' : k < R.length := by simpa using hk
    obtain ⟨g, o, b, c, h1, h2, h3, h4, -⟩ := key k hk'
    have e : ((List.range R.length).map at')[k] = at' k := by simp
    rw [e]
    exact ⟨g, o, h1, h2, h3, b, _, c, h4⟩
  · obtain ⟨k, hk, rfl⟩ := List.mem_map.1 hv
    have hk' : k < R.length := List.mem_range.1 hk
    obtain ⟨g, o, b, c, h1, h2, h3, h4, h5⟩ := key k hk'
    exact ⟨b, R[k], c, h4, h5, List.getElem_mem hk'⟩
/-- A hidden chain in memory, that may be. -/
structure HidI (w : World) (a b c : Option Addr) (n m : Nat) (l : List Fr) (R1 R2 : List (List Fr)) : Prop where
  st : FrS w a l
  mv : FsS w b R1
  sh : FsS w c R2
theorem HidI.below {w w' : World} {a b c : Option Addr} {n m : Nat} {l : List Fr} {R1 R2 : List (List Fr)} (h : HidI w a b c n m l R1 R2) (hb : Below w.heap.size w w') : HidI w' a b c n m l R1 R2 := ⟨h.st.below hb, h.mv.below hb, h.sh.below hb⟩
structure HidOK (n m : Nat) (l : List Fr) (R1 R2 : List (List Fr)) : Prop where
  n1 : 1 ≤ n
  n4 : n ≤ 4
  m1 : 1 ≤ m
  m4 : m ≤ 4
  len : l.length = n
  fw : fw l ≤ 10000
  row : rowB l = true
  mv : RwsOK n n R1
  sh : RwsOK n m R2
theorem HidOK.all {n m : Nat} {l : List Fr} {R1 R2 : List (List Fr)} (h : HidOK n m l R1 R2) : ∀ r ∈ [l] ++ R1 ++ R2, rowB r = true ∧ Go.Proofs.YtnnfmfdjgdgdhaaGreatDoor.fw r ≤ 10000 ∧ r.length ≤ 4 := fun r hr => by
  rcases List.mem_append.1 hr with h1 | h1
  · rcases List.mem_append.1 h1 with h2 | h2
    · rw [List.mem_singleton.1 h2]
      exact ⟨h.row, h.fw, by rw [h.len]; exact h.n4⟩
    · obtain ⟨i, hi, rfl⟩ := List.getElem_of_mem h2
      exact ⟨h.mv.row i hi, h.mv.fw i hi, by rw [h.mv.each i hi]; exact h.n4⟩
  · obtain ⟨i, hi, rfl⟩ := List.getElem_of_mem h1
    exact ⟨h.sh.row i hi, h.sh.fw i hi, by rw [h.sh.each i hi]; exact h.m4⟩

set_option maxRecDepth 100000 in
set_option maxHeartbeats 4000000 in
theorem hiCheck_yes (a b c : Option Addr) (ca cb cc n m : Nat) (l : List Fr) (R1 R2 : List (List Fr)) (w : World) (h : HidI w a b c n m l R1 R2) (hok : HidOK n m l R1 R2) (hb0 : b = none → cb = 0) (hc0 : c = none → cc = 0) :
    Calls Tryz.prog 36 #[.agg #[.slice a n ca, .slice b n cb, .slice c n cc]] w fun e w' => e = .returned (.int .i64 0) ∧ Below w.heap.size w w' := by
  have hn1 := hok.n1
  have hn4 := hok.n4
  have hm1 := hok.m1
  have hm4 := hok.m4
  obtain ⟨X1, hxl1, hx1, hxa1⟩ := h.mv.vals
  obtain ⟨X2, hxl2, hx2, hxa2⟩ := h.sh.vals
  have HX1 := hid hx1
  have HX2 := hid hx2
  have HXL1 : Hid (X1.length = n) := hxl1.trans hok.mv.len
  have HXL2 : Hid (X2.length = n) := hxl2.trans hok.sh.len
  have HXA : Hid (∀ v ∈ ([.slice a n ca] ++ X1 ++ X2 : List Value), ∃ (b' : Option Addr) (r : List Fr) (c' : Nat), v = .slice b' r.length c' ∧ FrS w b' r ∧ r ∈ [l] ++ R1 ++ R2) := fun v hv => by
    rcases List.mem_append.1 hv with h1 | h1
    · rcases List.mem_append.1 h1 with h2 | h2
      · rw [List.mem_singleton.1 h2]
        exact ⟨a, l, ca, by rw [hok.len], h.st, by simp⟩
      · obtain ⟨b', r, c', e1, e2, e3⟩ := hxa1 v h2
        exact ⟨b', r, c', e1, e2, by simp [e3]⟩
    · obtain ⟨b', r, c', e1, e2, e3⟩ := hxa2 v h1
      exact ⟨b', r, c', e1, e2, by simp [e3]⟩
  have HALL := hid hok.all
  have HN1 := hid hb0
  have HN2 := hid hc0
  have hA := (Below.refl w.heap.size w).alloc (Nat.le_refl _) (HC3 (.slice a n ca) (.slice b n cb) (.slice c n cc))
  have hHB := HBox.new w (.slice a n ca) (.slice b n cb) (.slice c n cc)
  have HIC0 := hid (fun V : World => isCount_yes n V hn1 hn4)
  have HIC : Hid (∀ V : World, Calls Tryz.prog 58 #[.int .i64 (m : Nat)] V fun e w' => e = .returned (.bool true) ∧ Below V.heap.size V w') := fun V => (isCount_yes m V hm1 hm4).mono (fun e w' ⟨h1, h2⟩ => ⟨h1, by rw [h2]; exact Below.refl _ _⟩)
  have HIM1 : Hid (∀ V : World, Below w.heap.size w V → Calls Tryz.prog 59 #[.slice b n cb, .int .i64 (n : Nat), .int .i64 (n : Nat)] V fun e w' => e = .returned (.bool true) ∧ Below V.heap.size V w') := fun V hV => by
    have h := isMatrix_yes b cb n n R1 V (h.mv.below hV) hok.mv.len (by rw [hok.mv.len]; omega) (by omega) hok.mv.each
    rwa [hok.mv.len] at h
  have HSG0 : Hid (∀ V : World, Below w.heap.size w V → Calls Tryz.prog 39 #[.agg #[.slice a n ca, .slice b n cb, .slice c n cc]] V fun e w' => e = .returned (.int .i64 (m : Nat)) ∧ Below V.heap.size V w') := fun V hV => signs_yes a b c n n ca cb cc n m R2 V (h.sh.below hV) hok.sh hn1 (by omega)
  have HIM20 : Hid (∀ V : World, Below w.heap.size w V → Calls Tryz.prog 59 #[.slice c n cc, .int .i64 (n : Nat), .int .i64 (m : Nat)] V fun e w' => e = .returned (.bool true) ∧ Below V.heap.size V w') := fun V hV => by
    have h := isMatrix_yes c cc n m R2 V (h.sh.below hV) hok.sh.len (by rw [hok.sh.len]; omega) (by omega) hok.sh.each
    rwa [hok.sh.len] at h
  clear h hok hb0 hc0 hxl1 hxl2 hx1 hx2 hxa1 hxa2
  obtain ⟨e0, e1, e2⟩ := hHB.cells
  go_enter Tryz.func36, Tryz.ntmps36
  go_wp2_with fail
  generalize (w.alloc (HC3 (.slice a n ca) (.slice b n cb) (.slice c n cc))) = W at *
  refine (HIC0.out _).mono ?_
  rintro e w1 ⟨rfl, rfl⟩
  go_wp2_with fail
  refine (HIM1.out _ hA).mono ?_
  rintro e w2 ⟨rfl, hb2⟩
  replace hHB := hHB.below hb2 hHB.lt
  replace hA := hA.trans (hb2.mono hA.size)
  clear hb2 e0 e1 e2
  go_upto_region 3 with fail
  have HSG : Hid (∀ V : World, Below w2.heap.size w2 V → Calls Tryz.prog 39 #[.agg #[.slice a n ca, .slice b n cb, .slice c n cc]] V fun e w' => e = .returned (.int .i64 (m : Nat)) ∧ Below V.heap.size V w') := fun V hV => HSG0.out V (hA.trans (hV.mono hA.size))
  have HIM2 : Hid (∀ V : World, Below w2.heap.size w2 V → Calls Tryz.prog 59 #[.slice c n cc, .int .i64 (n : Nat), .int .i64 (m : Nat)] V fun e w' => e = .returned (.bool true) ∧ Below V.heap.size V w') := fun V hV => HIM20.out V (hA.trans (hV.mono hA.size))
  have HELD : Hid (∀ u, Below w2.heap.size w2 u → u.cell? ⟨w.heap.size, 0, none⟩ = some (.slice a n ca) ∧ u.cell? ⟨w.heap.size, 1, none⟩ = some (.slice b n cb) ∧ u.cell? ⟨w.heap.size, 2, none⟩ = some (.slice c n cc)) := fun u h => (hHB.below h hHB.lt).cells
  have HB : Hid (Below w2.heap.size w2 w2.drew) := (Below.refl _ w2).drew
  refine wp_region_held_drew (S := fun u => u.cell? ⟨w.heap.size, 0, none⟩ = some (.slice a n ca) ∧ u.cell? ⟨w.heap.size, 1, none⟩ = some (.slice b n cb) ∧ u.cell? ⟨w.heap.size, 2, none⟩ = some (.slice c n cc)) (by kernel_rfl) (HELD.out _ HB.out) (fun hSd => ?_)
  generalize w2.drew = u0 at *
  refine wpAnyH_take (i := 0) (oi := _) (v := .pointer (some ⟨w.heap.size, 2, none⟩)) rfl (by kernel_rfl) (by kernel_rfl) (by kernel_rfl) (fun _ _ _ h => h) (Or.inl ⟨by rfl, ?_⟩) (by assumption) ?_
  · intro u' hSu
    (try simp only [List.getElem_toArray, List.getElem_cons_zero])
    go_simp
  (try simp only [List.getElem_toArray, List.getElem_cons_zero])
  (try simp only [Act.put, List.setIfInBounds_toArray, List.set_cons_zero, List.set_cons_succ])
  refine wpAnyH_take (i := 1) (oi := _) (v := .slice c n cc) rfl (by kernel_rfl) (by kernel_rfl) (by kernel_rfl) (fun _ _ _ h => h) (Or.inl ⟨by rfl, ?_⟩) (by assumption) ?_
  · intro u' hSu
    (try simp only [List.getElem_toArray, List.getElem_cons_zero, List.getElem_cons_succ])
    obtain ⟨s0, s1, s2⟩ := hSu
    go_simp
  (try simp only [List.getElem_toArray, List.getElem_cons_zero, List.getElem_cons_succ])
  (try simp only [Act.put, List.setIfInBounds_toArray, List.set_cons_zero, List.set_cons_succ])
  refine wpAnyH_take (i := 2) (oi := _) (v := .int .i64 (n : Nat)) rfl (by kernel_rfl) (by kernel_rfl) (by kernel_rfl) (fun _ _ _ h => h) (Or.inl ⟨by rfl, ?_⟩) (by assumption) ?_
  · intro u' hSu
    (try simp only [List.getElem_toArray, List.getElem_cons_zero, List.getElem_cons_succ])
    go_simp
  (try simp only [List.getElem_toArray, List.getElem_cons_zero, List.getElem_cons_succ])
  (try simp only [Act.put, List.setIfInBounds_toArray, List.set_cons_zero, List.set_cons_succ])
  refine wpAnyH_take (i := 3) (oi := _) (v := .pointer (some ⟨w.heap.size, 0, none⟩)) rfl (by kernel_rfl) (by kernel_rfl) (by kernel_rfl) (fun _ _ _ h => h) (Or.inl ⟨by rfl, ?_⟩) (by assumption) ?_
  · intro u' hSu
    (try simp only [List.getElem_toArray, List.getElem_cons_zero, List.getElem_cons_succ])
    go_simp
  (try simp only [List.getElem_toArray, List.getElem_cons_zero, List.getElem_cons_succ])
  (try simp only [Act.put, List.setIfInBounds_toArray, List.set_cons_zero, List.set_cons_succ])
  refine wpAnyH_take (i := 4) (oi := _) (v := .slice a n ca) rfl (by kernel_rfl) (by kernel_rfl) (by kernel_rfl) (fun _ _ _ h => h) (Or.inl ⟨by rfl, ?_⟩) (by assumption) ?_
  · intro u' hSu
    (try simp only [List.getElem_toArray, List.getElem_cons_zero, List.getElem_cons_succ])
    obtain ⟨s0, s1, s2⟩ := hSu
    go_simp
  (try simp only [List.getElem_toArray, List.getElem_cons_zero, List.getElem_cons_succ])
  (try simp only [Act.put, List.setIfInBounds_toArray, List.set_cons_zero, List.set_cons_succ])
  refine wpAnyH_take (i := 5) (oi := _) (v := .int .i64 (n : Nat)) rfl (by kernel_rfl) (by kernel_rfl) (by kernel_rfl) (fun _ _ _ h => h) (Or.inl ⟨by rfl, ?_⟩) (by assumption) ?_
  · intro u' hSu
    (try simp only [List.getElem_toArray, List.getElem_cons_zero, List.getElem_cons_succ])
    go_simp
  (try simp only [List.getElem_toArray, List.getElem_cons_zero, List.getElem_cons_succ])
  (try simp only [Act.put, List.setIfInBounds_toArray, List.set_cons_zero, List.set_cons_succ])
  refine wpAnyH_take (i := 6) (oi := _) (v := .bool false) rfl (by kernel_rfl) (by kernel_rfl) (by kernel_rfl) (fun _ _ _ h => h) (Or.inl ⟨by rfl, ?_⟩) (by assumption) ?_
  · intro u' hSu
    (try simp only [List.getElem_toArray, List.getElem_cons_zero, List.getElem_cons_succ])
    go_simp
  (try simp only [List.getElem_toArray, List.getElem_cons_zero, List.getElem_cons_succ])
  (try simp only [Act.put, List.setIfInBounds_toArray, List.set_cons_zero, List.set_cons_succ])
  refine wpAnyH_take (i := 7) (oi := _) (v := .bool false) rfl (by kernel_rfl) (by kernel_rfl) (by kernel_rfl) (fun _ _ _ h => h) (Or.inl ⟨by rfl, ?_⟩) (by assumption) ?_
  · intro u' hSu
    (try simp only [List.getElem_toArray, List.getElem_cons_zero, List.getElem_cons_succ])
    go_simp
  (try simp only [List.getElem_toArray, List.getElem_cons_zero, List.getElem_cons_succ])
  (try simp only [Act.put, List.setIfInBounds_toArray, List.set_cons_zero, List.set_cons_succ])
  refine wpAnyH_take (i := 8) (oi := _) (v := .agg #[.slice a n ca, .slice b n cb, .slice c n cc]) rfl (by kernel_rfl) (by kernel_rfl) (by kernel_rfl) (fun _ _ _ h => h) (Or.inl ⟨by rfl, ?_⟩) (by assumption) ?_
  · intro u' hSu
    (try simp only [List.getElem_toArray, List.getElem_cons_zero, List.getElem_cons_succ])
    obtain ⟨s0, s1, s2⟩ := hSu
    go_simp
  (try simp only [List.getElem_toArray, List.getElem_cons_zero, List.getElem_cons_succ])
  (try simp only [Act.put, List.setIfInBounds_toArray, List.set_cons_zero, List.set_cons_succ])
  refine wpAnyH_ready (rs := [9]) (by kernel_rfl) (by simp) (AllReadyH.cons rfl ?_ (AllReadyH.nil))
  · intro K' hK'
    (try simp only [List.getElem_toArray, List.getElem_cons_zero, List.getElem_cons_succ])
    go_simp
    refine (HSG.out _ HB.out).mono ?_
    rintro e u1 ⟨rfl, hb⟩
    replace HB := hid (HB.out.trans (hb.mono HB.out.size))
    refine hK'.out _ _ (HELD.out _ HB.out) (fun hSe => ?_)
    clear hK' K' hSd
    have hSd := hSe
    clear hSe hb
    (try simp only [List.getElem_toArray, List.getElem_cons_zero, List.getElem_cons_succ])
    (try simp only [Act.put, List.setIfInBounds_toArray, List.set_cons_zero, List.set_cons_succ])
    refine wpAnyH_ready (rs := [10]) (by kernel_rfl) (by simp) (AllReadyH.cons rfl ?_ (AllReadyH.nil))
    · intro K' hK'
      (try simp only [List.getElem_toArray, List.getElem_cons_zero, List.getElem_cons_succ])
      go_simp
      refine (HIC.out _).mono ?_
      rintro e u2 ⟨rfl, hb⟩
      replace HB := hid (HB.out.trans (hb.mono HB.out.size))
      refine hK'.out _ _ (HELD.out _ HB.out) (fun hSe => ?_)
      clear hK' K' hSd
      have hSd := hSe
      clear hSe hb
      (try simp only [List.getElem_toArray, List.getElem_cons_zero, List.getElem_cons_succ])
      (try simp only [Act.put, List.setIfInBounds_toArray, List.set_cons_zero, List.set_cons_succ])
      refine wpAnyH_take (i := 11) (oi := _) (v := .bool false) rfl (by kernel_rfl) (by kernel_rfl) (by kernel_rfl) (fun _ _ _ h => h) (Or.inl ⟨by rfl, ?_⟩) (by assumption) ?_
      · intro u' hSu
        (try simp only [List.getElem_toArray, List.getElem_cons_zero, List.getElem_cons_succ])
        go_simp
      (try simp only [List.getElem_toArray, List.getElem_cons_zero, List.getElem_cons_succ])
      (try simp only [Act.put, List.setIfInBounds_toArray, List.set_cons_zero, List.set_cons_succ])
      refine wpAnyH_take (i := 12) (oi := _) (v := .bool false) rfl (by kernel_rfl) (by kernel_rfl) (by kernel_rfl) (fun _ _ _ h => h) (Or.inl ⟨by rfl, ?_⟩) (by assumption) ?_
      · intro u' hSu
        (try simp only [List.getElem_toArray, List.getElem_cons_zero, List.getElem_cons_succ])
        go_simp
      (try simp only [List.getElem_toArray, List.getElem_cons_zero, List.getElem_cons_succ])
      (try simp only [Act.put, List.setIfInBounds_toArray, List.set_cons_zero, List.set_cons_succ])
      refine wpAnyH_take (i := 13) (oi := _) (v := .bool false) rfl (by kernel_rfl) (by kernel_rfl) (by kernel_rfl) (fun _ _ _ h => h) (Or.inl ⟨by rfl, ?_⟩) (by assumption) ?_
      · intro u' hSu
        (try simp only [List.getElem_toArray, List.getElem_cons_zero, List.getElem_cons_succ])
        go_simp
      (try simp only [List.getElem_toArray, List.getElem_cons_zero, List.getElem_cons_succ])
      (try simp only [Act.put, List.setIfInBounds_toArray, List.set_cons_zero, List.set_cons_succ])
      refine wpAnyH_take (i := 14) (oi := _) (v := .pointer (some ⟨w.heap.size, 2, none⟩)) rfl (by kernel_rfl) (by kernel_rfl) (by kernel_rfl) (fun _ _ _ h => h) (Or.inl ⟨by rfl, ?_⟩) (by assumption) ?_
      · intro u' hSu
        (try simp only [List.getElem_toArray, List.getElem_cons_zero, List.getElem_cons_succ])
        go_simp
      (try simp only [List.getElem_toArray, List.getElem_cons_zero, List.getElem_cons_succ])
      (try simp only [Act.put, List.setIfInBounds_toArray, List.set_cons_zero, List.set_cons_succ])
      refine wpAnyH_take (i := 15) (oi := _) (v := .slice c n cc) rfl (by kernel_rfl) (by kernel_rfl) (by kernel_rfl) (fun _ _ _ h => h) (Or.inl ⟨by rfl, ?_⟩) (by assumption) ?_
      · intro u' hSu
        (try simp only [List.getElem_toArray, List.getElem_cons_zero, List.getElem_cons_succ])
        obtain ⟨s0, s1, s2⟩ := hSu
        go_simp
      (try simp only [List.getElem_toArray, List.getElem_cons_zero, List.getElem_cons_succ])
      (try simp only [Act.put, List.setIfInBounds_toArray, List.set_cons_zero, List.set_cons_succ])
      refine wpAnyH_take (i := 16) (oi := _) (v := .pointer (some ⟨w.heap.size, 0, none⟩)) rfl (by kernel_rfl) (by kernel_rfl) (by kernel_rfl) (fun _ _ _ h => h) (Or.inl ⟨by rfl, ?_⟩) (by assumption) ?_
      · intro u' hSu
        (try simp only [List.getElem_toArray, List.getElem_cons_zero, List.getElem_cons_succ])
        go_simp
      (try simp only [List.getElem_toArray, List.getElem_cons_zero, List.getElem_cons_succ])
      (try simp only [Act.put, List.setIfInBounds_toArray, List.set_cons_zero, List.set_cons_succ])
      refine wpAnyH_take (i := 17) (oi := _) (v := .slice a n ca) rfl (by kernel_rfl) (by kernel_rfl) (by kernel_rfl) (fun _ _ _ h => h) (Or.inl ⟨by rfl, ?_⟩) (by assumption) ?_
      · intro u' hSu
        (try simp only [List.getElem_toArray, List.getElem_cons_zero, List.getElem_cons_succ])
        obtain ⟨s0, s1, s2⟩ := hSu
        go_simp
      (try simp only [List.getElem_toArray, List.getElem_cons_zero, List.getElem_cons_succ])
      (try simp only [Act.put, List.setIfInBounds_toArray, List.set_cons_zero, List.set_cons_succ])
      refine wpAnyH_take (i := 18) (oi := _) (v := .int .i64 (n : Nat)) rfl (by kernel_rfl) (by kernel_rfl) (by kernel_rfl) (fun _ _ _ h => h) (Or.inl ⟨by rfl, ?_⟩) (by assumption) ?_
      · intro u' hSu
        (try simp only [List.getElem_toArray, List.getElem_cons_zero, List.getElem_cons_succ])
        go_simp
      (try simp only [List.getElem_toArray, List.getElem_cons_zero, List.getElem_cons_succ])
      (try simp only [Act.put, List.setIfInBounds_toArray, List.set_cons_zero, List.set_cons_succ])
      refine wpAnyH_take (i := 19) (oi := _) (v := .agg #[.slice a n ca, .slice b n cb, .slice c n cc]) rfl (by kernel_rfl) (by kernel_rfl) (by kernel_rfl) (fun _ _ _ h => h) (Or.inl ⟨by rfl, ?_⟩) (by assumption) ?_
      · intro u' hSu
        (try simp only [List.getElem_toArray, List.getElem_cons_zero, List.getElem_cons_succ])
        obtain ⟨s0, s1, s2⟩ := hSu
        go_simp
      (try simp only [List.getElem_toArray, List.getElem_cons_zero, List.getElem_cons_succ])
      (try simp only [Act.put, List.setIfInBounds_toArray, List.set_cons_zero, List.set_cons_succ])
      refine wpAnyH_ready (rs := [20]) (by kernel_rfl) (by simp) (AllReadyH.cons rfl ?_ (AllReadyH.nil))
      · intro K' hK'
        (try simp only [List.getElem_toArray, List.getElem_cons_zero, List.getElem_cons_succ])
        go_simp
        refine (HSG.out _ HB.out).mono ?_
        rintro e u3 ⟨rfl, hb⟩
        replace HB := hid (HB.out.trans (hb.mono HB.out.size))
        refine hK'.out _ _ (HELD.out _ HB.out) (fun hSe => ?_)
        clear hK' K' hSd
        have hSd := hSe
        clear hSe hb
        (try simp only [List.getElem_toArray, List.getElem_cons_zero, List.getElem_cons_succ])
        (try simp only [Act.put, List.setIfInBounds_toArray, List.set_cons_zero, List.set_cons_succ])
        refine wpAnyH_ready (rs := [21]) (by kernel_rfl) (by simp) (AllReadyH.cons rfl ?_ (AllReadyH.nil))
        · intro K' hK'
          (try simp only [List.getElem_toArray, List.getElem_cons_zero, List.getElem_cons_succ])
          go_simp
          refine (HIM2.out _ HB.out).mono ?_
          rintro e u4 ⟨rfl, hb⟩
          replace HB := hid (HB.out.trans (hb.mono HB.out.size))
          refine hK'.out _ _ (HELD.out _ HB.out) (fun hSe => ?_)
          clear hK' K' hSd
          have hSd := hSe
          clear hSe hb
          (try simp only [List.getElem_toArray, List.getElem_cons_zero, List.getElem_cons_succ])
          (try simp only [Act.put, List.setIfInBounds_toArray, List.set_cons_zero, List.set_cons_succ])
          refine wpAnyH_take (i := 22) (oi := _) (v := .bool false) rfl (by kernel_rfl) (by kernel_rfl) (by kernel_rfl) (fun _ _ _ h => h) (Or.inl ⟨by rfl, ?_⟩) (by assumption) ?_
          · intro u' hSu
            (try simp only [List.getElem_toArray, List.getElem_cons_zero, List.getElem_cons_succ])
            go_simp
          (try simp only [List.getElem_toArray, List.getElem_cons_zero, List.getElem_cons_succ])
          (try simp only [Act.put, List.setIfInBounds_toArray, List.set_cons_zero, List.set_cons_succ])
          refine wpAnyH_take (i := 23) (oi := _) (v := .bool false) rfl (by kernel_rfl) (by kernel_rfl) (by kernel_rfl) (fun _ _ _ h => h) (Or.inl ⟨by rfl, ?_⟩) (by assumption) ?_
          · intro u' hSu
            (try simp only [List.getElem_toArray, List.getElem_cons_zero, List.getElem_cons_succ])
            go_simp
          (try simp only [List.getElem_toArray, List.getElem_cons_zero, List.getElem_cons_succ])
          (try simp only [Act.put, List.setIfInBounds_toArray, List.set_cons_zero, List.set_cons_succ])
          refine wpAnyH_done (by kernel_rfl) ?_ _
          clear hSd
          have HBN := hid (hA.trans (HB.out.mono hA.size))
          obtain ⟨e0, e1, e2⟩ := (hHB.below HB.out hHB.lt).cells
          have HAL1 := hid ((Below.refl u4.heap.size u4).alloc (Nat.le_refl _) (.cells #[.slice a n ca] 24))
          have HAL2 := hid (HAL1.out.alloc HAL1.out.size (.cells #[.slice (some ⟨u4.heap.size, 0, none⟩) 1 1, .slice b n cb, .slice c n cc] 25))
          have HCN : Hid (Calls Tryz.prog 60 #[.slice (some ⟨u4.heap.size + 1, 0, none⟩) 3 3] ((u4.alloc (.cells #[.slice a n ca] 24)).alloc (.cells #[.slice (some ⟨u4.heap.size, 0, none⟩) 1 1, .slice b n cb, .slice c n cc] 25)) fun e w' => ∃ v, e = .returned v ∧ RwX w' ((u4.alloc (.cells #[.slice a n ca] 24)).alloc (.cells #[.slice (some ⟨u4.heap.size, 0, none⟩) 1 1, .slice b n cb, .slice c n cc] 25)).heap.size v ([.slice a n ca] ++ X1 ++ X2) ∧ Below ((u4.alloc (.cells #[.slice a n ca] 24)).alloc (.cells #[.slice (some ⟨u4.heap.size, 0, none⟩) 1 1, .slice b n cb, .slice c n cc] 25)).heap.size ((u4.alloc (.cells #[.slice a n ca] 24)).alloc (.cells #[.slice (some ⟨u4.heap.size, 0, none⟩) 1 1, .slice b n cb, .slice c n cc] 25)) w') := by
            have hrow : ((u4.alloc (.cells #[.slice a n ca] 24)).alloc (.cells #[.slice (some ⟨u4.heap.size, 0, none⟩) 1 1, .slice b n cb, .slice c n cc] 25)).heap[u4.heap.size + 1]? = some (.cells #[.slice (some ⟨u4.heap.size, 0, none⟩) 1 1, .slice b n cb, .slice c n cc] 25 (0, 0)) := by
              have h := heap_alloc_new (u4.alloc (.cells #[.slice a n ca] 24)) (.cells #[.slice (some ⟨u4.heap.size, 0, none⟩) 1 1, .slice b n cb, .slice c n cc] 25)
              rwa [World.size_alloc] at h
            have hone : (u4.alloc (.cells #[.slice a n ca] 24)).heap[u4.heap.size]? = some (.cells #[.slice a n ca] 24 (0, 0)) := heap_alloc_new u4 _
            have hlt1 : u4.heap.size < (u4.alloc (.cells #[.slice a n ca] 24)).heap.size := by simp
            have hone2 := ((Below.refl (u4.alloc (.cells #[.slice a n ca] 24)).heap.size _).alloc (Nat.le_refl _) (.cells #[.slice (some ⟨u4.heap.size, 0, none⟩) 1 1, .slice b n cb, .slice c n cc] 25)).block u4.heap.size hlt1 |>.trans hone
            have hX1 := (HX1.out.below HBN.out).below HAL2.out
            have hX2 := (HX2.out.below HBN.out).below HAL2.out
            have h := slConcatR_any (u4.heap.size + 1) (some ⟨u4.heap.size, 0, none⟩) b c 1 cb cc [.slice a n ca] X1 X2 _ (by simp) (by rw [cell_of_row _ _ _ _ _ (0, 0) hrow]; rfl) (by rw [cell_of_row _ _ _ _ _ (0, 0) hrow, HXL1.out]; rfl) (by rw [cell_of_row _ _ _ _ _ (0, 0) hrow, HXL2.out]; rfl) (fun k hk => ?_) hX1 hX2 (fun e => by cases e) HN1.out HN2.out (by simp) (by rw [HXL1.out]; omega) (by rw [HXL2.out]; omega)
            · exact h
            · obtain rfl : k = 0 := by simp at hk; omega
              refine ⟨u4.heap.size, 0, rfl, by simp; omega, ?_, a, n, ca, rfl⟩
              rw [cell_of_row _ _ _ _ _ (0, 0) hone2]
              rfl
          have HBA := hid (HBN.out.trans (HAL2.out.mono HBN.out.size))
          obtain ⟨x0, x1, x2⟩ := ((hHB.below HB.out hHB.lt).below HAL1.out (Nat.lt_of_lt_of_le hHB.lt HB.out.size)).cells
          go_wp2_with fail
          generalize ((u4.alloc (.cells #[.slice a n ca] 24)).alloc (.cells #[.slice (some ⟨u4.heap.size, 0, none⟩) 1 1, .slice b n cb, .slice c n cc] 25)) = W5 at *
          refine HCN.out.mono ?_
          rintro e w6 ⟨v6, rfl, hv6, hb6⟩
          have HB6 := hid (HBA.out.trans (hb6.mono HBA.out.size))
          have hxl : ([.slice a n ca] ++ X1 ++ X2 : List Value).length = 1 + n + n := by rw [List.length_append, List.length_append, HXL1.out, HXL2.out]; rfl
          have hv7 := hv6
          rw [RwX, hxl] at hv7
          obtain ⟨a6, c6, rfl, -⟩ := owns_slice hv7
          have HV := hid hv7
          have HXE : Hid (∀ k (h : k < ([.slice a n ca] ++ X1 ++ X2 : List Value).length), ∃ (b' : Option Addr) (r : List Fr) (c' : Nat), ([.slice a n ca] ++ X1 ++ X2 : List Value)[k] = .slice b' r.length c' ∧ FrS w b' r ∧ rowB r = true ∧ Go.Proofs.YtnnfmfdjgdgdhaaGreatDoor.fw r ≤ 10000 ∧ r.length ≤ 4) := fun k h => by
            obtain ⟨b', r, c', h1, h2, h3⟩ := HXA.out _ (List.getElem_mem h)
            obtain ⟨p1, p2, p3⟩ := HALL.out r h3
            exact ⟨b', r, c', h1, h2, p1, p2, p3⟩
          have HXL := hid hxl
          clear hv6 hv7 hb6 hxl e0 e1 e2 x0 x1 x2
          generalize ([.slice a n ca] ++ X1 ++ X2 : List Value) = X at *
          obtain ⟨N, hN⟩ : ∃ N, N = 1 + n + n := ⟨_, rfl⟩
          rw [← hN] at HV HXL
          rw [← hN]
          have hN9 : N ≤ 9 := by omega
          clear hN
          go_wp2_with fail
          go_loopw [56] (fun iv wr => ∃ i : Nat, i ≤ N ∧ iv = .int .i64 i ∧ Hid (Below w6.heap.size w6 wr)) (fun iv _ => N - (intOf iv).toNat)
          case atStart => exact ⟨0, Nat.zero_le _, rfl, Below.refl _ _⟩
          case round =>
            obtain ⟨i, hi, rfl, HBr⟩ := hrel
            by_cases hlt : i < N
            · have hiX : i < X.length := by rw [HXL.out]; exact hlt
              obtain ⟨g6, rfl, hg6, hc6⟩ := owns_cell HV.out hiX
              have hc6' := (HBr.out.cell (p := ⟨g6, _, none⟩) hg6).trans hc6
              obtain ⟨b', r, c', h1, h2, h3, h4, h5⟩ := HXE.out i hiX
              rw [h1] at hc6'
              have hbw := HB6.out.trans (HBr.out.mono HB6.out.size)
              have HRO := hid (hiRow_any b' c' r wr (h2.below hbw) h4 (by omega))
              rw [h3] at HRO
              clear h1 h2 h3 h4 hc6 hbw
              generalize r.length = rl at *
              go_wp2_with fail
              refine HRO.out.mono ?_
              rintro e w7 ⟨rfl, hb7⟩
              have HB7 := hid (HBr.out.trans (hb7.mono HBr.out.size))
              clear hb7
              go_wp2
              go_roundw
              case rel => exact ⟨i + 1, by omega, by go_num, HB7⟩
              case measure => simp [intOf]; omega
            · obtain rfl : i = N := by omega
              go_wp2
              go_ret
              exact ⟨rfl, HB6.out.trans (HBr.out.mono HB6.out.size)⟩

set_option maxRecDepth 100000 in
set_option maxHeartbeats 400000 in
theorem hiCheck1_any (a b c : Option Addr) (ca cb cc n m x B : Nat) (R2 : List (List Fr)) (w : World) (hR : FsS w c R2) (h : RwsOK n m R2) (h1 : 1 ≤ n) (hn : n ≤ 4) (hx : x < m) (hB : HBox w B (.slice a n ca) (.slice b n cb) (.slice c n cc)) :
    Calls Tryz.prog 38 #[.int .i64 (x : Nat), .pointer (some ⟨B, 0, none⟩)] w fun e w' => e = .returned (.bool false) ∧ Below w.heap.size w w' := by
  have HSG := hid (signs_yes a b c n n ca cb cc n m R2 w hR h h1 (by omega))
  obtain ⟨e0, e1, e2⟩ := hB.cells
  clear hR h
  go_enter Tryz.func38, Tryz.ntmps38
  go_wp2_with fail
  refine HSG.out.mono ?_
  rintro e w1 ⟨rfl, hb1⟩
  go_wp2
  go_ret
  exact ⟨by simp; omega, hb1⟩

set_option maxRecDepth 100000 in
set_option maxHeartbeats 1000000 in
theorem hiCheck2_yes (a b c d : Option Addr) (ca cb cc cd n m : Nat) (l : List Fr) (R1 R2 : List (List Fr)) (Q : List Nat) (w : World) (h : HidI w a b c n m l R1 R2) (hok : HidOK n m l R1 R2) (hb0 : b = none → cb = 0) (hc0 : c = none → cc = 0) (hQ : IntS w d (iL Q)) (hq : ∀ x ∈ Q, x < m) (hQ8 : Q.length ≤ 8) :
    Calls Tryz.prog 17 #[.agg #[.slice a n ca, .slice b n cb, .slice c n cc], .slice d Q.length cd] w fun e w' => e = .returned (.int .i64 0) ∧ Below w.heap.size w w' := by
  have hA := (Below.refl w.heap.size w).alloc (Nat.le_refl _) (HC3 (.slice a n ca) (.slice b n cb) (.slice c n cc))
  have hHB := HBox.new w (.slice a n ca) (.slice b n cb) (.slice c n cc)
  have HCK := hid (hiCheck_yes a b c ca cb cc n m l R1 R2 _ (h.below hA) hok hb0 hc0)
  have HCF : Hid (∀ V : World, Below (w.alloc (HC3 (.slice a n ca) (.slice b n cb) (.slice c n cc))).heap.size (w.alloc (HC3 (.slice a n ca) (.slice b n cb) (.slice c n cc))) V → Calls Tryz.prog 37 #[.slice d Q.length cd, .func (.func 38) #[] #[.pointer (some ⟨w.heap.size, 0, none⟩)]] V fun e w' => e = .returned (.bool false) ∧ Below V.heap.size V w') := fun V hV => by
    have hbV := hA.trans (hV.mono hA.size)
    have h9 := conFI_any d cd 38 #[.pointer (some ⟨w.heap.size, 0, none⟩)] (iL Q) (fun _ => false) V (hQ.below hbV) (by rw [iL_length]; omega) (enters_of Tryz.func38 (by kernel_rfl) rfl) (fun q hq' U hU => by
      obtain ⟨x, hx, rfl⟩ := List.mem_map.1 hq'
      exact hiCheck1_any a b c ca cb cc n m x w.heap.size R2 U ((h.sh.below hbV).below hU) hok.sh hok.n1 hok.n4 (hq x hx) ((hHB.below hV hHB.lt).below hU (Nat.lt_of_lt_of_le hHB.lt hV.size)))
    rw [iL_length] at h9
    have e : (iL Q).any (fun _ => false) = false := by simp
    rwa [e] at h9
  obtain ⟨e0, e1, e2⟩ := hHB.cells
  have HA := hid hA
  clear h hok hb0 hc0 hQ hq hA
  go_enter Tryz.func17, Tryz.ntmps17
  go_wp2_with fail
  generalize (w.alloc (HC3 (.slice a n ca) (.slice b n cb) (.slice c n cc))) = W at *
  refine HCK.out.mono ?_
  rintro e w1 ⟨rfl, hb1⟩
  have HB1 := hid hb1
  clear hb1 e0 e1 e2
  go_wp2_with fail
  refine (HCF.out _ HB1.out).mono ?_
  rintro e w2 ⟨rfl, hb2⟩
  have HB2 := hid (HA.out.trans ((HB1.out.trans (hb2.mono HB1.out.size)).mono HA.out.size))
  clear hb2
  go_wp2
  go_ret
  exact ⟨rfl, HB2.out⟩
end Go.Proofs.YtnnfmfdjgdgdhaaGreatDoor

