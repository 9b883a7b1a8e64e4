/- Package table: the first place that has the greatest number. -/
import Derived.Test.YtknlhejhnopnaaaGreatDoorJoinAToJoinC
import Derived.Test.YtknlhejhnopnaaaGreatDoorStandBToStandC
namespace Go.Proofs.YtknlhejhnopnaaaGreatDoor
open Go.RowKit Go.Shelf

theorem best1_any (k : Int) (w : World) : Calls Tryz.prog 84 #[.int .i64 k] w fun e w' => e = .returned (.int .i64 k) ∧ Below w.heap.size w w' := by
  go_enter Tryz.func84, Tryz.ntmps84
  go_wp2
  go_ret
  exact ⟨rfl, Below.refl _ _⟩

theorem heldF {w u : World} {Bc g o : Nat} {x : Value} {n m : Bool} {p q r s : ByteArray} {j k : Nat} (hb : Below w.heap.size w u) (hB : Bc < w.heap.size) (hg : g < w.heap.size) (h : w.cell? ⟨Bc, 0, none⟩ = some x)
    (a0 : w.cell? ⟨g, o + j * 3, none⟩ = some (.bool n)) (a1 : w.cell? ⟨g, o + j * 3 + 1, none⟩ = some (.string p)) (a2 : w.cell? ⟨g, o + j * 3 + 2, none⟩ = some (.string q)) (b0 : w.cell? ⟨g, o + k * 3, none⟩ = some (.bool m)) (b1 : w.cell? ⟨g, o + k * 3 + 1, none⟩ = some (.string r)) (b2 : w.cell? ⟨g, o + k * 3 + 2, none⟩ = some (.string s)) :
    (u.cell? ⟨Bc, 0, none⟩ = some x ∧ u.cell? ⟨g, o + j * 3, none⟩ = some (.bool n) ∧ u.cell? ⟨g, o + j * 3 + 1, none⟩ = some (.string p) ∧ u.cell? ⟨g, o + j * 3 + 2, none⟩ = some (.string q) ∧ u.cell? ⟨g, o + k * 3, none⟩ = some (.bool m) ∧ u.cell? ⟨g, o + k * 3 + 1, none⟩ = some (.string r) ∧ u.cell? ⟨g, o + k * 3 + 2, none⟩ = some (.string s)) ∧ Hid (Below w.heap.size w u) :=
  ⟨⟨(hb.cell (p := ⟨Bc, 0, none⟩) hB).trans h, (hb.cell (p := ⟨g, _, none⟩) hg).trans a0, (hb.cell (p := ⟨g, _, none⟩) hg).trans a1, (hb.cell (p := ⟨g, _, none⟩) hg).trans a2, (hb.cell (p := ⟨g, _, none⟩) hg).trans b0, (hb.cell (p := ⟨g, _, none⟩) hg).trans b1, (hb.cell (p := ⟨g, _, none⟩) hg).trans b2⟩, hb⟩

set_option maxRecDepth 100000 in
set_option maxHeartbeats 400000 in
theorem firstGreatest1_any (Bc : Nat) (a : Option Addr) (ca : Nat) (l : List Fr) (j k : Nat) (hj : j < l.length) (hk : k < l.length) (w : World) (hBc : Bc < w.heap.size) (xc : w.cell? ⟨Bc, 0, none⟩ = some (.slice a l.length ca)) (hf : FrS w a l) (s1 : l[j].2.1.size + l[j].2.2.size ≤ 100000) (s2 : l[k].2.1.size + l[k].2.2.size ≤ 100000) :
    Calls Tryz.prog 122 #[.int .i64 (j : Nat), .int .i64 (k : Nat), .pointer (some ⟨Bc, 0, none⟩)] w fun e w' => e = .returned (.int .i64 (if cmpQ (frQ l[j]) (frQ l[k]) < 0 then (k : Int) else (j : Int))) ∧ Below w.heap.size w w' := by
  obtain ⟨g, o, rfl, hg, a0, a1, a2⟩ := hf j hj
  obtain ⟨g', o', e, _, b0, b1, b2⟩ := hf k hk
  cases e
  have HC := hid (fun V : World => fCmp_q (w := V) (cmpQ (frQ l[j]) (frQ l[k])) rfl rfl rfl s1 s2)
  generalize cmpQ (frQ l[j]) (frQ l[k]) = c at *
  clear hf s1 s2
  obtain ⟨R, hR⟩ : ∃ R : Int, R = if c < 0 then (k : Int) else (j : Int) := ⟨_, rfl⟩
  rw [← hR]
  have HR := hid hR
  clear hR
  generalize l[j] = f at *
  generalize l[k] = f' at *
  obtain ⟨n, p, q⟩ := f
  obtain ⟨m, r, s⟩ := f'
  simp only at a0 a1 a2 b0 b1 b2 HC
  have hB0 : Below w.heap.size w w.drew := (Below.refl w.heap.size w).drew
  go_enter Tryz.func122, Tryz.ntmps122
  go_upto_region 1 with fail
  go_region_held3 (fun u => (u.cell? ⟨Bc, 0, none⟩ = some (.slice (some ⟨g, o, none⟩) l.length ca) ∧ u.cell? ⟨g, o + j * 3, none⟩ = some (.bool n) ∧ u.cell? ⟨g, o + j * 3 + 1, none⟩ = some (.string p) ∧ u.cell? ⟨g, o + j * 3 + 2, none⟩ = some (.string q) ∧ u.cell? ⟨g, o + k * 3, none⟩ = some (.bool m) ∧ u.cell? ⟨g, o + k * 3 + 1, none⟩ = some (.string r) ∧ u.cell? ⟨g, o + k * 3 + 2, none⟩ = some (.string s)) ∧ Hid (Below w.heap.size w u))
    (first | exact heldF hB1 hBc hg xc a0 a1 a2 b0 b1 b2 | exact heldF hB0 hBc hg xc a0 a1 a2 b0 b1 b2)
    (first
      | (go_at_call 123; refine (HC.out _).mono ?_; rintro e w1 ⟨rfl, hb1⟩; have hB1 := hB0.trans (hb1.mono hB0.size)))
  by_cases hc : c < 0
  · have HE : Hid (R = (k : Int)) := by show _ = _; rw [HR.out, if_pos hc]
    clear HR
    go_wp2
    go_ret
    exact ⟨by rw [HE.out]; rfl, hB1⟩
  · have hc' : 0 ≤ c := by omega
    have HE : Hid (R = (j : Int)) := by show _ = _; rw [HR.out, if_neg hc]
    clear HR
    go_wp2
    go_ret
    exact ⟨by rw [HE.out]; rfl, hB1⟩

set_option maxRecDepth 100000 in
set_option maxHeartbeats 400000 in
theorem firstGreatest_any (a : Option Addr) (len ca : Nat) (w : World) :
    Calls Tryz.prog 83 #[.slice a len ca] w fun e w' => e = .returned (.agg #[.func (.func 122) #[] #[.pointer (some ⟨w.heap.size, 0, none⟩)]]) ∧ w.heap.size < w'.heap.size ∧ w'.cell? ⟨w.heap.size, 0, none⟩ = some (.slice a len ca) ∧ Below w.heap.size w w' := by
  go_enter Tryz.func83, Tryz.ntmps83
  go_wp2
  have hx : Boxed ((w.alloc (.cells #[.slice a len ca] 23)).alloc (.cells #[.func (.func 122) #[] #[.pointer (some ⟨w.heap.size, 0, none⟩)]] 93)) (w.heap.size + 1) 93 (.func (.func 122) #[] #[.pointer (some ⟨w.heap.size, 0, none⟩)]) := by
    have h := Boxed.new (w.alloc (.cells #[.slice a len ca] 23)) 93 (.func (.func 122) #[] #[.pointer (some ⟨w.heap.size, 0, none⟩)])
    rwa [World.size_alloc] at h
  refine bodyPost_ret (results_cell_row rfl _ _ (w.heap.size + 1) _ _ _ _ rfl hx Tryz.underlying93 rfl (by kernel_rfl)) rfl ?_
  exact ⟨rfl, by simp; omega, ((Boxed.new w 23 (.slice a len ca)).alloc _).cell, ((Below.refl _ w).alloc (Nat.le_refl _) _).alloc (by simp) _⟩
end Go.Proofs.YtknlhejhnopnaaaGreatDoor

/- Rows of fractions. -/
namespace Go.Proofs.YtknlhejhnopnaaaGreatDoor
open Go.RowKit Go.Shelf

/-- The cells of fractions. -/
def frC : List Fr → List Value
  | [] => []
  | f :: l => .bool f.1 :: .string f.2.1 :: .string f.2.2 :: frC l
theorem frC_length : ∀ l : List Fr, (frC l).length = 3 * l.length
  | [] => rfl
  | f :: l => by simp only [frC, List.length_cons, frC_length l]; omega
theorem frC_get : ∀ (l : List Fr) (k : Nat) (h : k < l.length), (frC l)[k * 3]? = some (.bool l[k].1) ∧ (frC l)[k * 3 + 1]? = some (.string l[k].2.1) ∧ (frC l)[k * 3 + 2]? = some (.string l[k].2.2)
  | [], _, h => absurd h (by simp)
  | f :: l, 0, _ => ⟨rfl, rfl, rfl⟩
  | f :: l, k + 1, h => by
    have h' : k < l.length := by simpa using h
    obtain ⟨h1, h2, h3⟩ := frC_get l k h'
    have e : (k + 1) * 3 = k * 3 + 1 + 1 + 1 := by omega
    refine ⟨?_, ?_, ?_⟩
    · rw [e]; exact h1
    · rw [show (k + 1) * 3 + 1 = (k * 3 + 1) + 1 + 1 + 1 by omega]; exact h2
    · rw [show (k + 1) * 3 + 2 = (k * 3 + 2) + 1 + 1 + 1 by omega]; exact h3
theorem frC_set : ∀ (l : List Fr) (k : Nat) (f : Fr), (((frC l).set (k * 3) (.bool f.1)).set (k * 3 + 1) (.string f.2.1)).set (k * 3 + 2) (.string f.2.2) = frC (l.set k f)
  | [], k, f => by simp [frC]
  | x :: l, 0, f => by simp [frC]
  | x :: l, k + 1, f => by
    rw [show (k + 1) * 3 = k * 3 + 1 + 1 + 1 by omega, show k * 3 + 1 + 1 + 1 + 1 = (k * 3 + 1) + 1 + 1 + 1 by omega, show k * 3 + 1 + 1 + 1 + 2 = (k * 3 + 2) + 1 + 1 + 1 by omega]
    simp only [frC, List.set_cons_succ, frC_set l k f]
/-- A row of fractions in a block of its own. -/
def RowF (w : World) (g : Nat) (l : List Fr) : Prop := w.heap[g]? = some (.cells (frC l).toArray 44 (0, 0))
theorem RowF.lt {w : World} {g : Nat} {l : List Fr} (h : RowF w g l) : g < w.heap.size := (Array.getElem?_eq_some_iff.1 h).1
theorem RowF.fz {w : World} {g : Nat} {l : List Fr} (h : RowF w g l) (j : Nat) : w.frozen? ⟨g, j, none⟩ = false := frozen_of_row w g j _ _ h
theorem RowF.below {w w' : World} {g b : Nat} {l : List Fr} (h : RowF w g l) (hb : Below b w w') (hg : g < b) : RowF w' g l := (hb.block g hg).trans h
theorem RowF.cells {w : World} {g : Nat} {l : List Fr} (h : RowF w g l) (k : Nat) (hk : k < l.length) : w.cell? ⟨g, k * 3, none⟩ = some (.bool l[k].1) ∧ w.cell? ⟨g, k * 3 + 1, none⟩ = some (.string l[k].2.1) ∧ w.cell? ⟨g, k * 3 + 2, none⟩ = some (.string l[k].2.2) := by
  obtain ⟨h1, h2, h3⟩ := frC_get l k hk
  refine ⟨?_, ?_, ?_⟩ <;> rw [cell_of_row w g _ _ _ (0, 0) h] <;> simpa using (by assumption)
theorem RowF.fr {w : World} {g : Nat} {l : List Fr} (h : RowF w g l) : FrS w (some ⟨g, 0, none⟩) l := fun k hk => by
  obtain ⟨h1, h2, h3⟩ := h.cells k hk
  refine ⟨g, 0, rfl, h.lt, ?_, ?_, ?_⟩
  · rw [Nat.zero_add]; exact h1
  · rw [Nat.zero_add]; exact h2
  · rw [Nat.zero_add]; exact h3
theorem RowF.put {w : World} {g : Nat} {l : List Fr} (h : RowF w g l) (k : Nat) (f : Fr) : RowF (((w.setCell ⟨g, k * 3, none⟩ (.bool f.1)).setCell ⟨g, k * 3 + 1, none⟩ (.string f.2.1)).setCell ⟨g, k * 3 + 2, none⟩ (.string f.2.2)) g (l.set k f) := by
  have h1 := heap_setCell_same w g (k * 3) _ _ (.bool f.1) h
  have h2 := heap_setCell_same _ g (k * 3 + 1) _ _ (.string f.2.1) h1
  have h3 := heap_setCell_same _ g (k * 3 + 2) _ _ (.string f.2.2) h2
  rw [RowF, h3, ← frC_set]
  simp
end Go.Proofs.YtknlhejhnopnaaaGreatDoor

/- Package table: fill. -/
namespace Go.Proofs.YtknlhejhnopnaaaGreatDoor
open Go.RowKit Go.Shelf

/-- The fraction that no one wrote. -/
def frZ : Fr := (false, ⟨#[]⟩, ⟨#[]⟩)
/-- What is written when i are told. -/
def partF (l : List Fr) (i : Nat) : List Fr := l.take i ++ List.replicate (l.length - i) frZ
theorem partF_zero (l : List Fr) : partF l 0 = List.replicate l.length frZ := by simp [partF]
theorem partF_length (l : List Fr) {i : Nat} (h : i ≤ l.length) : (partF l i).length = l.length := by simp [partF]; omega
theorem partF_all (l : List Fr) : partF l l.length = l := by simp [partF]
theorem partF_set (l : List Fr) {i : Nat} (h : i < l.length) : (partF l i).set i l[i] = partF l (i + 1) := by
  rw [partF, partF, List.set_append_right _ _ (by simp; omega), List.take_succ_eq_append_getElem h]
  have e : l.length - i = (l.length - (i + 1)) + 1 := by omega
  rw [e, List.replicate_succ, List.length_take, Nat.min_eq_left (by omega), Nat.sub_self, List.set_cons_zero, List.append_assoc]
  rfl
theorem Tryz.infoFrac : (Tryz.prog.info? 44).map (fun i => (i.zero, i.size, i.bytes)) = some (some (.agg #[.bool false, .string ⟨#[]⟩, .string ⟨#[]⟩]), 3, 40) := by kernel_rfl

theorem TBox.put {w : World} {g : Nat} {u v : Value} (h : TBox w g u v) (x y : Value) : TBox ((w.setCell ⟨g, 0, none⟩ x).setCell ⟨g, 1, none⟩ y) g x y := by
  have h1 := heap_setCell_same w g 0 _ _ x h
  have h2 := heap_setCell_same _ g 1 _ _ y h1
  exact h2
theorem RowF.off {w : World} {g : Nat} {l : List Fr} (h : RowF w g l) (b j : Nat) (y : Value) (hne : g ≠ b) : RowF (w.setCell ⟨b, j, none⟩ y) g l := (Below.heap_setCell w ⟨b, j, none⟩ y g hne).trans h
theorem block_of_own3 {w : World} {base g n : Nat} {t : TypeId} {xs : List Value} (h : w.ownsRow base t 3 (.slice (some ⟨g, 0, none⟩) n n) n xs) : w.heap[g]? = some (.cells xs.toArray t (0, 0)) := by
  rcases h.2 with ⟨h', _⟩ | ⟨g', cap', cur, h', _, hg, hnc, _, hsz, htk⟩
  · cases h'
  · cases h'
    rw [hg, ← htk, List.take_of_length_le (by simp; omega)]
theorem frC_zero_at : ∀ (n j : Nat), j < 3 * n → (frC (List.replicate n frZ))[j]? = some (#[Value.bool false, Value.string ⟨#[]⟩, Value.string ⟨#[]⟩][j % 3]!)
  | 0, j, h => by omega
  | n + 1, 0, _ => rfl
  | n + 1, 1, _ => rfl
  | n + 1, 2, _ => rfl
  | n + 1, j + 3, h => by
    rw [show (j + 3) % 3 = j % 3 by omega, List.replicate_succ]
    exact frC_zero_at n j (by omega)
theorem made_frs (n : Nat) : (madeCells (Value.agg #[Value.bool false, Value.string ⟨#[]⟩, Value.string ⟨#[]⟩]).cells (n * 3)).toList = frC (List.replicate n frZ) := by
  apply List.ext_getElem?
  intro j
  by_cases h : j < 3 * n
  · rw [frC_zero_at n j h, madeCells]
    have h' : j < n * 3 := by omega
    simp [h', Value.cells]
  · rw [List.getElem?_eq_none (by rw [Array.length_toList, size_madeCells]; omega), List.getElem?_eq_none (by rw [frC_length, List.length_replicate]; omega)]

set_option maxRecDepth 100000 in
set_option maxHeartbeats 400000 in
theorem fill_any (a b : Option Addr) (ca cb : Nat) (sizes vars : List Int) (F : Nat) (lb : Array Value) (eF : ∀ args w, (callFunc F args).run Tryz.prog w = .ok (.enter F args) w) (l : List Fr) (w : World) (hs : IntS w a sizes) (hv : IntS w b vars) (hfi : Fine sizes) (hup : Up vars sizes.length) (hl : l.length = cnt (toN sizes) (toN vars))
    (ht : ∀ k (h : k < l.length), ∀ V, Below w.heap.size w V → Calls Tryz.prog F (#[.int .i64 (k : Nat)] ++ lb) V fun e w' => e = .returned (frV l[k]) ∧ Below V.heap.size V w') :
    Calls Tryz.prog 53 #[.slice a sizes.length ca, .slice b vars.length cb, .func (.func F) #[] lb] w fun e w' => ∃ g : Nat, e = .returned (.agg #[.slice b vars.length cb, .slice (some ⟨g, 0, none⟩) l.length l.length]) ∧ w.heap.size ≤ g ∧ RowF w' g l ∧ Below w.heap.size w w' := by
  obtain ⟨i0, hi0, hz0, hz1, hz2⟩ := info_parts Tryz.infoFrac
  have HS := hid hs
  have HV := hid hv
  have HT := hid ht
  have HC := hid (fun V h1 h2 => countOf_any a b ca cb sizes vars V h1 h2 hfi hup)
  have hl8 := hfi.eight
  have hvl := hup.length
  have hsm : cnt (toN sizes) (toN vars) ≤ 65536 := cnt_small hfi.sz_le (by rw [toN_length]; omega)
  rw [← hl] at hsm HC
  clear hs hv ht hl hfi hup
  go_enter Tryz.func53, Tryz.ntmps53
  go_wp2_with fail
  have b0 : (w.alloc (.cells #[.slice none 0 0, .slice none 0 0] 25)).heap[w.heap.size]? = some (.cells #[.slice none 0 0, .slice none 0 0] 25 (0, 0)) := heap_alloc_new _ _
  have hb0 : Below w.heap.size w (w.alloc (.cells #[.slice none 0 0, .slice none 0 0] 25)) := (Below.refl _ w).alloc (Nat.le_refl _) _
  have hs0 : (w.alloc (.cells #[.slice none 0 0, .slice none 0 0] 25)).heap.size = w.heap.size + 1 := by simp
  generalize (w.alloc (.cells #[.slice none 0 0, .slice none 0 0] 25)) = W at b0 hb0 hs0 ⊢
  refine (HC.out _ (HS.out.below hb0) (HV.out.below hb0)).mono ?_
  rintro e w1 ⟨rfl, hb1⟩
  have hs1 := hb1.size
  have b1 : w1.heap[w.heap.size]? = some (.cells #[.slice none 0 0, .slice none 0 0] 25 (0, 0)) := (hb1.block _ (by omega)).trans b0
  have hB1 := hb0.trans (hb1.mono hb0.size)
  go_wp2_with (first
    | (at_make; refine wpList_make_full _ rfl _ _ 23 rfl w1.heap.size 44 i0 (.agg #[.bool false, .string ⟨#[]⟩, .string ⟨#[]⟩]) 3 Tryz.underlying23 hi0 hz0 hz1 .i64 .i64 _ _ l.length rfl rfl (by go_num) (by go_num) (by rw [hz2]; omega) (by unfold maxLen; omega) (Nat.le_refl _) ?_; intro w2 hown2 hgrow2))
  have hr2 := block_of_own3 hown2
  rw [made_frs] at hr2
  have HR2 : Hid (RowF w2 w1.heap.size (List.replicate l.length frZ)) := hr2
  have hB2 : Below w1.heap.size w1 w2 := (Below.refl _ w1).grown hgrow2 (Nat.le_refl _) (fun k e => by cases e)
  have b2 : w2.heap[w.heap.size]? = some (.cells #[.slice none 0 0, .slice none 0 0] 25 (0, 0)) := (hB2.block _ (by omega)).trans b1
  have HB2 := hid (hB1.trans (hB2.mono hB1.size))
  have hlt1 : w.heap.size + 1 ≤ w1.heap.size := by omega
  generalize w1.heap.size = G at *
  clear hown2 hgrow2 hr2 hB2 b1 b0 hb0 hb1 hB1 hs1 hs0
  have HT2 : Hid (TBox w2 w.heap.size (.slice none 0 0) (.slice none 0 0)) := b2
  clear b2
  go_wp2_with fail
  go_loopw [15] (fun iv wr => ∃ i : Nat, i ≤ l.length ∧ iv = .int .i64 i ∧ Hid (RowF wr G (partF l i)) ∧ Hid (TBox wr w.heap.size (.slice none 0 0) (.slice none 0 0)) ∧ Hid (Below w.heap.size w wr)) (fun iv _ => l.length - (intOf iv).toNat)
  case atStart => exact ⟨0, Nat.zero_le _, rfl, by rw [partF_zero]; exact HR2, HT2, HB2⟩
  case round =>
    obtain ⟨i, hi, rfl, HR, HX, HB⟩ := hrel
    clear HR2 HT2 HB2
    by_cases hlt : i < l.length
    · have HST := hid (partF_set l hlt)
      have HTI := hid (HT.out i hlt)
      have hpl := partF_length l hi
      generalize l[i] = f at *
      obtain ⟨fn, fx, fy⟩ := f
      go_wp2_with fail
      refine (HTI.out _ HB.out).mono ?_
      rintro e w3 ⟨rfl, hb3⟩
      have HR3 := HR.out.below hb3 HR.out.lt
      have HX3 : TBox w3 w.heap.size (.slice none 0 0) (.slice none 0 0) := (hb3.block _ (Array.getElem?_eq_some_iff.1 HX.out).1).trans HX.out
      have HB3 := HB.out.trans (hb3.mono HB.out.size)
      obtain ⟨k0, k1, k2⟩ := HR3.cells i (by omega)
      have f0 := HR3.fz (i * 3)
      have f1 := HR3.fz (i * 3 + 1)
      have f2 := HR3.fz (i * 3 + 2)
      generalize (partF l i)[i] = z at *
      obtain ⟨zn, zx, zy⟩ := z
      simp only at k0 k1 k2
      have HP := hid (HR3.put i (fn, fx, fy))
      rw [HST.out] at HP
      have HXP : Hid (TBox (((w3.setCell ⟨G, i * 3, none⟩ (.bool fn)).setCell ⟨G, i * 3 + 1, none⟩ (.string fx)).setCell ⟨G, i * 3 + 2, none⟩ (.string fy)) w.heap.size (.slice none 0 0) (.slice none 0 0)) := (Below.heap_setCell _ ⟨G, i * 3 + 2, none⟩ _ w.heap.size (by show w.heap.size ≠ G; omega)).trans ((Below.heap_setCell _ ⟨G, i * 3 + 1, none⟩ _ w.heap.size (by show w.heap.size ≠ G; omega)).trans ((Below.heap_setCell _ ⟨G, i * 3, none⟩ _ w.heap.size (by show w.heap.size ≠ G; omega)).trans HX3))
      have HBP := hid (((HB3.setCell (p := ⟨G, i * 3, none⟩) (by show w.heap.size ≤ G; omega) (.bool fn)).setCell (p := ⟨G, i * 3 + 1, none⟩) (by show w.heap.size ≤ G; omega) (.string fx)).setCell (p := ⟨G, i * 3 + 2, none⟩) (by show w.heap.size ≤ G; omega) (.string fy))
      clear HR3 HX3 HB3 hb3 HTI
      go_wp2
      go_roundw
      case rel => exact ⟨i + 1, by omega, by go_num, HP, HXP, HBP⟩
      case measure => simp [intOf]; omega
    · obtain rfl : i = l.length := by omega
      have hfin := HR.out
      rw [partF_all] at hfin
      obtain ⟨t0, t1⟩ : wr.cell? ⟨w.heap.size, 0, none⟩ = some (.slice none 0 0) ∧ wr.cell? ⟨w.heap.size, 1, none⟩ = some (.slice none 0 0) := ⟨HX.out.c0, HX.out.c1⟩
      have g0 : wr.frozen? ⟨w.heap.size, 0, none⟩ = false := frozen_of_row wr w.heap.size 0 _ _ HX.out
      have g1 : wr.frozen? ⟨w.heap.size, 1, none⟩ = false := frozen_of_row wr w.heap.size 1 _ _ HX.out
      go_wp2
      refine bodyPost_ret (results_cell_row rfl _ _ w.heap.size _ _ _ _ rfl (HX.out.put _ _) Tryz.underlying25 rfl (by kernel_rfl)) rfl ?_
      exact ⟨G, rfl, by omega, (hfin.off _ 0 _ (by omega)).off _ 1 _ (by omega), (HB.out.setCell (p := ⟨w.heap.size, 0, none⟩) (Nat.le_refl _) _).setCell (p := ⟨w.heap.size, 1, none⟩) (Nat.le_refl _) _⟩
end Go.Proofs.YtknlhejhnopnaaaGreatDoor

/- Plain facts on tables: an assignment as a list of all variables, and what stands there; rising lists. Nothing of the program is named here. -/
namespace Go.Proofs.YtknlhejhnopnaaaGreatDoor

theorem asg_digs {S : List Nat} : ∀ {vs : List Nat} {k i : Nat}, vs.Nodup → (h : i < vs.length) → (digs S vs k)[i]? = some (asg S vs k vs[i])
  | [], _, _, _, h => absurd h (by simp)
  | u :: vs, k, 0, _, _ => by simp [digs, asg]
  | u :: vs, k, i + 1, hn, h => by
    rw [List.nodup_cons] at hn
    have h' : i < vs.length := by simpa using h
    have e : ¬ vs[i] = u := fun e => hn.1 (by rw [← e]; exact List.getElem_mem h')
    rw [digs, List.getElem?_cons_succ, asg_digs hn.2 h', List.getElem_cons_succ, asg, if_neg e]
/-- An assignment as a list of all variables. -/
def spr (n : Nat) (f : Nat → Nat) : List Nat := (List.range n).map f
theorem spr_length (n : Nat) (f : Nat → Nat) : (spr n f).length = n := by simp [spr]
theorem spr_get {n : Nat} {f : Nat → Nat} {v : Nat} (h : v < n) : (spr n f)[v]'(by rw [spr_length]; exact h) = f v := by simp [spr]
theorem spr_get? {n : Nat} {f : Nat → Nat} {v : Nat} (h : v < n) : (spr n f)[v]? = some (f v) := by simp [spr, h]
theorem spr_congr {n : Nat} {f g : Nat → Nat} (h : ∀ v, v < n → f v = g v) : spr n f = spr n g := List.map_congr_left fun v hv => h v (List.mem_range.1 hv)
theorem spr_set {n : Nat} {f : Nat → Nat} (v x : Nat) : (spr n f).set v x = spr n (withV f v x) := by
  apply List.ext_getElem?
  intro u
  rw [List.getElem?_set]
  by_cases hu : u < n
  · rw [spr_get? hu, spr_get? hu, withV, spr_length]
    by_cases e : v = u
    · subst e; rw [if_pos rfl, if_pos hu, if_pos rfl]
    · rw [if_neg e, if_neg (fun h => e h.symm)]
  · rw [List.getElem?_eq_none (by rw [spr_length]; omega), List.getElem?_eq_none (by rw [spr_length]; omega), spr_length]
    by_cases e : v = u
    · rw [if_pos e, if_neg (by omega)]
    · rw [if_neg e]
/-- What is spread when i values are told. -/
def sprF (S vs : List Nat) (k i : Nat) : Nat → Nat := fun v => if v ∈ vs.take i then asg S vs k v else 0
theorem sprF_zero (S vs : List Nat) (k n : Nat) : spr n (sprF S vs k 0) = List.replicate n 0 := by
  apply List.ext_getElem
  · rw [spr_length, List.length_replicate]
  · intro i h1 h2
    rw [spr_get (by rw [spr_length] at h1; exact h1), List.getElem_replicate, sprF, List.take_zero, if_neg (by simp)]
theorem sprF_succ (S : List Nat) {vs : List Nat} (k n : Nat) {i : Nat} (h : i < vs.length) : (spr n (sprF S vs k i)).set vs[i] (asg S vs k vs[i]) = spr n (sprF S vs k (i + 1)) := by
  rw [spr_set]
  refine spr_congr fun v _ => ?_
  rw [withV, sprF, sprF, List.take_succ_eq_append_getElem h]
  by_cases e : v = vs[i]
  · rw [if_pos e, if_pos (by rw [e]; exact List.mem_append_right _ List.mem_cons_self), e]
  · rw [if_neg e]
    have : v ∈ vs.take i ++ [vs[i]] ↔ v ∈ vs.take i := ⟨fun h => (List.mem_append.1 h).elim id fun h => absurd (List.mem_singleton.1 h) e, List.mem_append_left _⟩
    simp only [this]
theorem sprF_all (S vs : List Nat) (k n : Nat) : spr n (sprF S vs k vs.length) = spr n (asg S vs k) := by
  refine spr_congr fun v _ => ?_
  rw [sprF, List.take_length]
  by_cases h : v ∈ vs
  · rw [if_pos h]
  · rw [if_neg h, asg_out h]
theorem pos_take (S : List Nat) (f : Nat → Nat) {vs : List Nat} {i : Nat} (h : i < vs.length) : pos S f (vs.take (i + 1)) = pos S f (vs.take i) * sz S vs[i] + f vs[i] := by
  rw [List.take_succ_eq_append_getElem h, pos_snoc]
theorem withV_lt {S : List Nat} {f : Nat → Nat} {v x : Nat} (hf : ∀ u, f u < sz S u) (hx : x < sz S v) (u : Nat) : withV f v x u < sz S u := by
  rw [withV]
  by_cases e : u = v
  · rw [if_pos e, e]; exact hx
  · rw [if_neg e]; exact hf u

/-- Two rising lists of the same numbers are the same. -/
theorem rise_ext : ∀ {a b : List Nat}, a.Pairwise (· < ·) → b.Pairwise (· < ·) → (∀ x, x ∈ a ↔ x ∈ b) → a = b
  | [], [], _, _, _ => rfl
  | [], y :: b, _, _, h => absurd ((h y).2 List.mem_cons_self) (by simp)
  | x :: a, [], _, _, h => absurd ((h x).1 List.mem_cons_self) (by simp)
  | x :: a, y :: b, ha, hb, h => by
    rw [List.pairwise_cons] at ha hb
    have e : x = y := by
      have h1 := (h x).1 List.mem_cons_self
      have h2 := (h y).2 List.mem_cons_self
      rw [List.mem_cons] at h1 h2
      rcases h1 with h1 | h1
      · exact h1
      · rcases h2 with h2 | h2
        · exact h2.symm
        · have := hb.1 x h1
          have := ha.1 y h2
          omega
    subst e
    rw [rise_ext ha.2 hb.2 fun z => ?_]
    constructor
    · intro hz
      have h1 := (h z).1 (List.mem_cons_of_mem _ hz)
      have := ha.1 z hz
      rw [List.mem_cons] at h1
      rcases h1 with h1 | h1
      · omega
      · exact h1
    · intro hz
      have h1 := (h z).2 (List.mem_cons_of_mem _ hz)
      have := hb.1 z hz
      rw [List.mem_cons] at h1
      rcases h1 with h1 | h1
      · omega
      · exact h1
theorem range_rise (n : Nat) : (List.range n).Pairwise (· < ·) := List.pairwise_lt_range
end Go.Proofs.YtknlhejhnopnaaaGreatDoor

/- What the calls on tables answer, as plain functions of lists. -/
namespace Go.Proofs.YtknlhejhnopnaaaGreatDoor
open Go.RowKit Go.Shelf

/-- A rational in lowest terms. -/
def qF (q : Rat) : Fr := (sgn q, nu q, de q)
theorem frV_qF (q : Rat) : frV (qF q) = .agg #[.bool (sgn q), .string (nu q), .string (de q)] := rfl
theorem frQ_qF (q : Rat) : frQ (qF q) = q := val_own q
/-- What stands at a place. -/
def celF (l : List Fr) (k : Nat) : Fr := l[k]?.getD frZ
theorem celF_eq {l : List Fr} {k : Nat} (h : k < l.length) : celF l k = l[k] := by rw [celF, List.getElem?_eq_getElem h]; rfl
theorem celF_size {l : List Fr} {k : Nat} (h : k < l.length) : (celF l k).2.1.size + (celF l k).2.2.size + 2 ≤ fw l := by rw [celF_eq h]; exact fw_mem (List.getElem_mem h)
/-- The first place that has the greatest number, of those up to k. -/
def bestN (l : List Fr) : Nat → Nat
  | 0 => 0
  | k + 1 => if cmpQ (frQ (celF l (bestN l k))) (frQ (celF l (k + 1))) < 0 then k + 1 else bestN l k
theorem bestN_le (l : List Fr) : ∀ k, bestN l k ≤ k
  | 0 => Nat.le_refl _
  | k + 1 => by
    have := bestN_le l k
    rw [bestN]
    by_cases h : cmpQ (frQ (celF l (bestN l k))) (frQ (celF l (k + 1))) < 0
    · rw [if_pos h]; omega
    · rw [if_neg h]; omega
/-- Norm's cells. -/
def normL (l : List Fr) : List Fr := l.map fun f => qF (frQ f * (1 / fsum l))
/-- Fix's cells. -/
def fixL (S vars rest : List Nat) (v x : Nat) (l : List Fr) : List Fr := (List.range (cnt S rest)).map fun K => qF (frQ (celF l (pos S (withV (asg S rest K) v x) vars)))
/-- What is left of so many. -/
def outN (most : Bool) (T : Nat → Fr) : Nat → Fr
  | 0 => T 0
  | k + 1 => if most then great (outN most T k) (T (k + 1)) else qF (frQ (outN most T k) + frQ (T (k + 1)))
/-- Out's cells. -/
def outL (S vars rest : List Nat) (v : Nat) (most : Bool) (l : List Fr) : List Fr := (List.range (cnt S rest)).map fun K => qF (frQ (outN most (fun x => celF l (pos S (withV (asg S rest K) v x) vars)) (sz S v - 1)))
/-- Product's cells. -/
def prodL (S va vb U : List Nat) (la lb : List Fr) : List Fr := (List.range (cnt S U)).map fun K => qF (frQ (celF la (pos S (asg S U K) va)) * frQ (celF lb (pos S (asg S U K) vb)))
/-- Product's variables. -/
def bothN (n : Nat) (a b : List Int) : List Nat := (List.range n).filter fun v => inB (v : Int) a || inB (v : Int) b
/-- A list without a variable. -/
def lessN (l : List Int) (v : Int) : List Int := l.filter fun u => !(u == v)
end Go.Proofs.YtknlhejhnopnaaaGreatDoor
