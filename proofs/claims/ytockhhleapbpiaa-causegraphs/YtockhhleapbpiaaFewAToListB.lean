/- Package graph: fewestLacking. -/
import Derived.Test.YtockhhleapbpiaaTakeAOwn
import Derived.Test.YtockhhleapbpiaaCntAToListA
namespace Go.Proofs.Ytockhhleapbpiaa
open Go.RowKit Go.Shelf

attribute [local go_sem] Oper.semAt_some

/-- The one of a set, as far as k, that has the least, and that; of several the least one. -/
def fwN (f : Nat → Nat) (s : List Nat) : Nat → Option (Nat × Nat)
  | 0 => none
  | k + 1 => if k ∈ s then (match fwN f s k with | none => some (k, f k) | some (b, m) => if f k < m then some (k, f k) else some (b, m)) else fwN f s k
def fwB : Option (Nat × Nat) → Nat
  | none => 0
  | some (b, _) => b
def fwM : Option (Nat × Nat) → Int
  | none => -1
  | some (_, m) => (m : Int)
theorem fwN_no {f : Nat → Nat} {s : List Nat} {k : Nat} (h : ¬ k ∈ s) : fwN f s (k + 1) = fwN f s k := by rw [fwN, if_neg h]
theorem fwN_first {f : Nat → Nat} {s : List Nat} {k : Nat} (h : k ∈ s) (e : fwN f s k = none) : fwN f s (k + 1) = some (k, f k) := by rw [fwN, if_pos h, e]
theorem fwN_less {f : Nat → Nat} {s : List Nat} {k b m : Nat} (h : k ∈ s) (e : fwN f s k = some (b, m)) (hl : f k < m) : fwN f s (k + 1) = some (k, f k) := by rw [fwN, if_pos h, e]; exact if_pos hl
theorem fwN_more {f : Nat → Nat} {s : List Nat} {k b m : Nat} (h : k ∈ s) (e : fwN f s k = some (b, m)) (hl : ¬ f k < m) : fwN f s (k + 1) = some (b, m) := by rw [fwN, if_pos h, e]; exact if_neg hl
/-- The node that is taken out next. -/
def fewV (P : List (List Nat)) (s : List Nat) : Nat := fwB (fwN (lackN P) s 8)
theorem lackN_le (P : List (List Nat)) (v : Nat) : lackN P v ≤ 32 := by
  have := endsN_le P v 8
  rw [lackN]; omega

set_option maxRecDepth 100000 in
set_option maxHeartbeats 2000000 in
theorem fewest_any (G n c : Nat) (P : List (List Nat)) (s : List Nat) (w : World) (hn : P.length = n) (h8 : n ≤ 8) (hU : RowU w G (P.map mskN)) (hP : ∀ p ∈ P, ∀ u ∈ p, u < n) (hs : ∀ u ∈ s, u < n) :
    Calls Try.prog 76 #[.slice (some ⟨G, 0, none⟩) n c, .int .u32 (mskN s : Nat)] w fun e w' => e = .returned (.int .i64 (fewV P s : Nat)) ∧ Below w.heap.size w w' := by
  refine (callsIn_wide (n := 6)).1 ?_
  have hs8 : ∀ u ∈ s, u < 8 := fun u hu => by have := hs u hu; omega
  have hw0 := hU.lt
  have HL := hid (fun (V : World) (hB : Below w.heap.size w V) (k : Nat) (hk : k < n) => lacking_any G n c k P V hn h8 (hU.below hB hw0) hP hk)
  have HN := hid (fun k (h : ¬ k ∈ s) => fwN_no (f := lackN P) h)
  have HF := hid (fun k (h : k ∈ s) e => fwN_first (f := lackN P) h e)
  have HS := hid (fun k b m (h : k ∈ s) e hl => fwN_less (f := lackN P) (b := b) (m := m) h e hl)
  have HM := hid (fun k b m (h : k ∈ s) e hl => fwN_more (f := lackN P) (b := b) (m := m) h e hl)
  have HSN := hid hs
  have hfe : fewV P s = fwB (fwN (lackN P) s 8) := rfl
  rw [hfe]
  have hf0 : fwN (lackN P) s 0 = none := rfl
  have HLL := hid (fun k => lackN_le P k)
  generalize fwN (lackN P) s = fw at *
  generalize lackN P = lk at *
  clear hU hP hs hfe
  refine callsIn_of_wp_marks Try.func76 rfl trivial ?_ rfl
  simp only [Try.ntmps76, List.size_toArray, List.length_cons, List.length_nil, Nat.reduceAdd, Nat.reduceSub, Array.replicate_succ, Array.replicate_zero, List.push_toArray, List.append_toArray, List.nil_append, List.cons_append]
  obtain ⟨W0, hW0⟩ : ∃ W0, W0 = ((w.alloc (.cells #[.slice (some ⟨G, 0, none⟩) n c] 52)).alloc (.cells #[.int .i64 0] 3)).alloc (.cells #[.int .i64 (-1)] 3) := ⟨_, rfl⟩
  have b0 : Boxed W0 w.heap.size 52 (.slice (some ⟨G, 0, none⟩) n c) := by rw [hW0]; exact ((Boxed.new w _ _).alloc _).alloc _
  have b1 : Boxed W0 (w.heap.size + 1) 3 (.int .i64 (fwB (fw 0) : Nat)) := by
    have h := (Boxed.new (w.alloc (.cells #[.slice (some ⟨G, 0, none⟩) n c] 52)) 3 (.int .i64 0)).alloc (.cells #[.int .i64 (-1)] 3)
    rw [World.size_alloc] at h
    rw [hW0, hf0]; exact h
  have b2 : Boxed W0 (w.heap.size + 1 + 1) 3 (.int .i64 (fwM (fw 0))) := by
    have h := Boxed.new ((w.alloc (.cells #[.slice (some ⟨G, 0, none⟩) n c] 52)).alloc (.cells #[.int .i64 0] 3)) 3 (.int .i64 (-1))
    rw [World.size_alloc, World.size_alloc] at h
    rw [hW0, hf0]; exact h
  have hB0 : Below w.heap.size w W0 := by
    rw [hW0]
    exact (((Below.refl _ w).alloc (Nat.le_refl _) _).alloc (by simp) _).alloc (by simp; omega) _
  gi_wp2
  rw [← hW0]
  clear hW0
  have hsz0 : w.heap.size + 1 + 1 < W0.heap.size := b2.lt
  refine wp_each (by omega) s hs8 rfl rfl
    (fun k V => Boxed V w.heap.size 52 (.slice (some ⟨G, 0, none⟩) n c) ∧ Boxed V (w.heap.size + 1) 3 (.int .i64 (fwB (fw k) : Nat)) ∧ Boxed V (w.heap.size + 1 + 1) 3 (.int .i64 (fwM (fw k))) ∧ Below w.heap.size w V)
    (OwnFrom.and (Own.from (boxed_own _ _ (fun _ => _)) _) (OwnFrom.and (Own.from (boxed_own _ _ (fun k : Nat => .int .i64 (fwB (fw k) : Nat))) _) (OwnFrom.and (Own.from (boxed_own _ _ (fun k : Nat => .int .i64 (fwM (fw k)))) _) (ownFrom_below (Nat.le_refl _) (by omega)))))
    ⟨b0, b1, b2, hB0⟩
    (fun k => { tmps := #[.slice (some ⟨G, 0, none⟩) n c, .int .u32 (mskN s : Nat), .pointer (some ⟨w.heap.size, 0, none⟩), undef, .int .i64 0, .pointer (some ⟨w.heap.size + 1, 0, none⟩), .pointer (some ⟨w.heap.size + 1 + 1, 0, none⟩), .int .i64 (k : Nat), undef, .int .u32 (mskN s : Nat), .func (.func 47) #[.int .u32 (mskN s : Nat)] #[], .int .i64 (k : Nat), undef, undef, undef, undef, undef, undef, undef, undef, undef, undef, undef, undef, undef], defers := [] }) ?assign ?body ?skip ?done
  case assign =>
    intro l k W K hK
    gi_wp2
    exact hK
  case body =>
    rintro l k V hk hm ⟨h0, h1, h2, hB⟩
    have HLk := hid (HL.out V hB k (HSN.out k hm))
    have hl32 := HLL.out k
    have HFk := hid (HF.out k hm)
    have HSk := hid (fun b m => HS.out k b m hm)
    have HMk := hid (fun b m => HM.out k b m hm)
    have k0 := h0.cell
    have HBV := hid hB
    have HQ := hid (And.intro h0 (And.intro h1 h2))
    have hlt2 := h2.lt
    clear h0 h1 h2 hB b0 b1 b2 hB0
    generalize fw k = st at *
    generalize lk k = lv at *
    have hlv : ¬ (lv : Int) < 0 := by omega
    cases st with
    | none =>
      have he := HFk.out rfl
      have HE := hid he
      clear he
      gi_wp2_with (refine ⟨trivial, ?_⟩; gi_at_call 89; refine (CallsIn.inRound l (callsIn_wide.2 HLk.out)).mono ?_; rintro e V2 ⟨rfl, hb⟩; have q0 := boxed_at HQ.out.1 hb (by omega); have q1 := boxed_at HQ.out.2.1 hb (by omega); have q2 := boxed_at HQ.out.2.2 hb hlt2; have j1 := q1.cell; have j2 := q2.cell; have g1 := q1.frozen; have g2 := q2.frozen; have j2' : V2.cell? ⟨w.heap.size + 1 + 1, 0, none⟩ = some (.int .i64 (-1)) := j2; clear j2)
      refine ⟨((keeps_of_below hb).trans ((KeepsOthers.setCell V2 _ _).trans (KeepsOthers.setCell _ _ _))).from _, boxed_offB (boxed_offB q0 _ 0 _ (by omega)) _ 0 _ (by omega), ?_, ?_, ?_⟩
      · rw [HE.out]; exact boxed_offB (q1.set _) _ 0 _ (by omega)
      · rw [HE.out]; exact (boxed_offB q2 _ 0 _ (by omega)).set _
      · exact ((HBV.out.trans (hb.mono HBV.out.size)).setCell (p := ⟨w.heap.size + 1, 0, none⟩) (by simp) _).setCell (p := ⟨w.heap.size + 1 + 1, 0, none⟩) (by show w.heap.size ≤ w.heap.size + 1 + 1; omega) _
    | some bm =>
      obtain ⟨b, m⟩ := bm
      have hm0 : ¬ (m : Int) < 0 := by omega
      by_cases hlm : lv < m
      · have he := HSk.out b m rfl hlm
        have HE := hid he
        have hlm' : (lv : Int) < (m : Int) := by omega
        clear he
        gi_wp2_with (refine ⟨trivial, ?_⟩; gi_at_call 89; refine (CallsIn.inRound l (callsIn_wide.2 HLk.out)).mono ?_; rintro e V2 ⟨rfl, hb⟩; have q0 := boxed_at HQ.out.1 hb (by omega); have q1 := boxed_at HQ.out.2.1 hb (by omega); have q2 := boxed_at HQ.out.2.2 hb hlt2; have j1 := q1.cell; have j2 := q2.cell; have g1 := q1.frozen; have g2 := q2.frozen; have j2' : V2.cell? ⟨w.heap.size + 1 + 1, 0, none⟩ = some (.int .i64 (m : Nat)) := j2; clear j2)
        refine ⟨((keeps_of_below hb).trans ((KeepsOthers.setCell V2 _ _).trans (KeepsOthers.setCell _ _ _))).from _, boxed_offB (boxed_offB q0 _ 0 _ (by omega)) _ 0 _ (by omega), ?_, ?_, ?_⟩
        · rw [HE.out]; exact boxed_offB (q1.set _) _ 0 _ (by omega)
        · rw [HE.out]; exact (boxed_offB q2 _ 0 _ (by omega)).set _
        · exact ((HBV.out.trans (hb.mono HBV.out.size)).setCell (p := ⟨w.heap.size + 1, 0, none⟩) (by simp) _).setCell (p := ⟨w.heap.size + 1 + 1, 0, none⟩) (by show w.heap.size ≤ w.heap.size + 1 + 1; omega) _
      · have he := HMk.out b m rfl hlm
        have HE := hid he
        have hlm' : ¬ (lv : Int) < (m : Int) := by omega
        clear he hlm
        gi_wp2_with (refine ⟨trivial, ?_⟩; gi_at_call 89; refine (CallsIn.inRound l (callsIn_wide.2 HLk.out)).mono ?_; rintro e V2 ⟨rfl, hb⟩; have q0 := boxed_at HQ.out.1 hb (by omega); have q1 := boxed_at HQ.out.2.1 hb (by omega); have q2 := boxed_at HQ.out.2.2 hb hlt2; have j2 := q2.cell; have j2' : V2.cell? ⟨w.heap.size + 1 + 1, 0, none⟩ = some (.int .i64 (m : Nat)) := j2; clear j2)
        exact ⟨(keeps_of_below hb).from _, q0, by rw [HE.out]; exact q1, by rw [HE.out]; exact q2, HBV.out.trans (hb.mono HBV.out.size)⟩
  case skip =>
    rintro k V hk hm h
    rw [HN.out k hm]
    exact h
  case done =>
    rintro D V hD ⟨h0, h1, h2, hB⟩ hK
    have hc := h1.cell
    gi_wp2
    refine ⟨by simp, .inl ⟨_, _, rfl, run_takeDeferred hK, ?_⟩⟩
    exact ⟨_, results_tmp rfl _ _ _, rfl, hB.trans (belowK_b (w := w) (Nat.le_refl _) V D _ _ (by omega) hK rfl rfl)⟩
end Go.Proofs.Ytockhhleapbpiaa


/- Sets of package graph: lists. -/
namespace Go.Proofs.Ytockhhleapbpiaa
open Go.RowKit Go.Shelf

/-- The block g holds these slices of ints. -/
def RowV (w : World) (g : Nat) (l : List Value) : Prop := w.heap[g]? = some (.cells l.toArray 23 (0, 0))
theorem RowV.cell {w : World} {g : Nat} {l : List Value} (h : RowV w g l) (j : Nat) (hj : j < l.length) : w.cell? ⟨g, j, none⟩ = some l[j] := by
  rw [cell_of_row w g j _ _ (0, 0) h]
  simp [hj]
theorem RowV.fz {w : World} {g : Nat} {l : List Value} (h : RowV w g l) (j : Nat) : w.frozen? ⟨g, j, none⟩ = false := frozen_of_row w g j _ _ h
theorem RowV.lt {w : World} {g : Nat} {l : List Value} (h : RowV w g l) : g < w.heap.size := (Array.getElem?_eq_some_iff.1 h).1
theorem RowV.below {w w' : World} {g b : Nat} {l : List Value} (h : RowV w g l) (hb : Below b w w') (hg : g < b) : RowV w' g l := (hb.block g hg).trans h
theorem RowV.set {w : World} {g : Nat} {l : List Value} (h : RowV w g l) (j : Nat) (y : Value) : RowV (w.setCell ⟨g, j, none⟩ y) g (l.set j y) := by
  have h2 := heap_setCell_same w g j _ _ y h
  rw [RowV, h2]
  simp
theorem Try.infoInts1 : (Try.prog.info? 23).map (fun i => (i.zero, i.size, i.bytes)) = some (some (.slice none 0 0), 1, 24) := by kernel_rfl
theorem made_slices (n : Nat) : (madeCells (Value.slice none 0 0).cells (n * 1)).toList = List.replicate n (Value.slice none 0 0) := by
  rw [show (Value.slice none 0 0).cells = #[Value.slice none 0 0] from rfl, toList_madeCells_one, Nat.mul_one]
/-- What a set's list holds. -/
def memL (s : List Nat) : List Int := iL (memU s 8)
/-- Lists that are written as far as i. -/
def SoFar (w : World) (P : List (List Nat)) (l : List Value) (i : Nat) : Prop := l.length = P.length ∧ ∀ j (hj : j < P.length), j < i → ∃ d cd, l[j]? = some (.slice d (memL P[j]).length cd) ∧ IntS w d (memL P[j])
theorem SoFar.below {w w' : World} {P : List (List Nat)} {l : List Value} {i : Nat} (h : SoFar w P l i) (hb : Below w.heap.size w w') : SoFar w' P l i := ⟨h.1, fun j hj hi => by
  obtain ⟨d, cd, h1, h2⟩ := h.2 j hj hi
  exact ⟨d, cd, h1, h2.below hb⟩⟩
theorem IntS.off {w : World} {d : Option Addr} {l : List Int} (h : IntS w d l) {g j : Nat} {y : Value} (hne : ∀ g' o', d = some ⟨g', o', none⟩ → l ≠ [] → g' ≠ g) : IntS (w.setCell ⟨g, j, none⟩ y) d l := fun k hk => by
  obtain ⟨g', o', h1, h2, h3⟩ := h k hk
  have hn := hne g' o' h1 (fun e => by rw [e] at hk; simp at hk)
  refine ⟨g', o', h1, by simpa using h2, ?_⟩
  rw [← h3]
  have e := Below.heap_setCell w ⟨g, j, none⟩ y g' (by show g' ≠ g; exact hn)
  exact World.cell?_of_block e
theorem ints_ne {w : World} {d : Option Addr} {l : List Int} {g : Nat} {vs : List Value} (h : IntS w d l) (hg : RowV w g vs) (hv : ∀ v ∈ vs, ∃ a n c, v = .slice a n c) : ∀ g' o', d = some ⟨g', o', none⟩ → l ≠ [] → g' ≠ g := fun g' o' hd hl e => by
  subst e
  have hp : 0 < l.length := List.length_pos_iff.2 hl
  obtain ⟨g2, o2, h1, h2, h3⟩ := h 0 hp
  rw [hd] at h1
  cases h1
  rw [cell_of_row w g' _ _ _ (0, 0) hg] at h3
  rw [List.getElem?_toArray] at h3
  obtain ⟨a, n, c, e⟩ := hv _ (List.mem_of_getElem? h3)
  cases e
/-- A block of slices: each is one. -/
def Slv (l : List Value) : Prop := ∀ v ∈ l, ∃ a n c, v = Value.slice a n c

set_option maxRecDepth 100000 in
set_option maxHeartbeats 1000000 in
theorem lists_any (a : Option Addr) (ca : Nat) (P : List (List Nat)) (w : World) (hP : ∀ p ∈ P, ∀ u ∈ p, u < 8) (hn : P.length ≤ 5000) (hS : ∀ k (h : k < P.length), ∃ g o, a = some ⟨g, o, none⟩ ∧ g < w.heap.size ∧ w.cell? ⟨g, o + k, none⟩ = some (.int .u32 (mskN P[k] : Nat))) :
    Calls Try.prog 49 #[.slice a P.length ca] w fun e w' => ∃ G, e = .returned (.slice (some ⟨G, 0, none⟩) P.length P.length) ∧ w.heap.size ≤ G ∧ LsS w' (some ⟨G, 0, none⟩) (P.map memL) ∧ Below w.heap.size w w' := by
  obtain ⟨i0, hi0, hz0, hz1, hz2⟩ := info_parts Try.infoInts1
  have HS := hid hS
  have HP := hid hP
  have HLI := hid (fun (s : List Nat) (hs : ∀ u ∈ s, u < 8) (U : World) => list_any s U hs)
  clear hS hP
  go_enter Try.func49, Try.ntmps49
  go_wp2_with (first
    | (at_make; refine wpList_make_full _ rfl _ _ 22 rfl w.heap.size 23 i0 (.slice none 0 0) 1 Try.underlying22 hi0 hz0 hz1 .i64 .i64 _ _ P.length rfl rfl (by go_num) (by go_num) (by rw [hz2]; omega) (by unfold maxLen; omega) (Nat.le_refl _) ?_; intro w2 hown2 hgrow2))
  have hb2 := block_of_own hown2
  rw [made_slices] at hb2
  have HB2 : Hid (Below w.heap.size w w2) := (Below.refl _ w).grown hgrow2 (Nat.le_refl _) (fun k e => by cases e)
  have HI : Hid (RowV w2 w.heap.size (List.replicate P.length (.slice none 0 0))) := hb2
  clear hown2 hgrow2 hb2
  go_wp2_with fail
  go_loopw [11] (fun iv wr => ∃ (i : Nat) (vs : List Value), i ≤ P.length ∧ iv = .int .i64 i ∧ Hid (RowV wr w.heap.size vs) ∧ Hid (SoFar wr P vs i) ∧ Hid (Slv vs) ∧ Hid (Below w.heap.size w wr)) (fun iv _ => P.length - (intOf iv).toNat)
  case atStart => exact ⟨0, _, Nat.zero_le _, rfl, HI, ⟨by simp, fun j _ h => absurd h (by omega)⟩, fun v hv => ⟨none, 0, 0, (List.mem_replicate.1 hv).2⟩, HB2⟩
  case round =>
    obtain ⟨i, vs, hi, rfl, HR, HSF, HSV, HB⟩ := hrel
    clear HI HB2
    by_cases hlt : i < P.length
    · obtain ⟨g, o, rfl, hg, c0⟩ := HS.out i hlt
      have c1 := (HB.out.cell (p := ⟨g, o + i, none⟩) hg).trans c0
      have HL := hid (HLI.out P[i] (HP.out _ (List.getElem_mem hlt)))
      have hlv := HSF.out.1
      clear c0
      go_wp2_with fail
      refine (HL.out _).mono ?_
      rintro e w3 ⟨v, rfl, hv, hb3⟩
      obtain ⟨d, cd, rfl, hI⟩ := hv.ints
      have hR3 := HR.out.below hb3 HR.out.lt
      have hSF3 := HSF.out.below hb3
      have k3 := hR3.cell i (by omega)
      have f3 := hR3.fz i
      have HBS := hid ((HB.out.trans (hb3.mono HB.out.size)).setCell (p := ⟨w.heap.size, i, none⟩) (Nat.le_refl _) (.slice d (memL P[i]).length cd))
      have HR4 := hid (hR3.set i (.slice d (memL P[i]).length cd))
      have HSV4 : Hid (Slv (vs.set i (.slice d (memL P[i]).length cd))) := fun x hx => by
        rcases List.mem_or_eq_of_mem_set hx with h | h
        · exact HSV.out x h
        · exact ⟨_, _, _, h⟩
      have HSF4 : Hid (SoFar (w3.setCell ⟨w.heap.size, i, none⟩ (.slice d (memL P[i]).length cd)) P (vs.set i (.slice d (memL P[i]).length cd)) (i + 1)) := by
        refine ⟨by rw [List.length_set]; exact hlv, fun j hj hji => ?_⟩
        by_cases e : j = i
        · subst e
          exact ⟨d, cd, by rw [List.getElem?_set_self (by omega)], IntS.off hI (ints_ne hI hR3 HSV.out)⟩
        · obtain ⟨d', cd', h1, h2⟩ := hSF3.2 j hj (by omega)
          exact ⟨d', cd', by rw [List.getElem?_set_ne (fun e' => e e'.symm)]; exact h1, IntS.off h2 (ints_ne h2 hR3 HSV.out)⟩
      rw [show iL (memU P[i] 8) = memL P[i] from rfl]
      generalize (memL P[i]).length = ln at *
      generalize vs[i]'(by omega) = z at *
      clear hR3 hSF3 hb3 hI hv c1
      go_wp2
      go_roundw
      case rel => exact ⟨i + 1, _, by omega, by go_num, HR4, HSF4, HSV4, HBS⟩
      case measure => simp [intOf]; omega
    · obtain rfl : i = P.length := by omega
      have HFI : Hid (LsS wr (some ⟨w.heap.size, 0, none⟩) (P.map memL)) := fun k hk => by
        rw [List.length_map] at hk
        obtain ⟨d, cd, h1, h2⟩ := HSF.out.2 k hk hk
        obtain ⟨h3, h4⟩ := List.getElem?_eq_some_iff.1 h1
        refine ⟨w.heap.size, 0, d, cd, rfl, HR.out.lt, ?_, by rw [List.getElem_map]; exact h2⟩
        rw [Nat.zero_add, HR.out.cell k h3, h4, List.getElem_map]
      go_wp2
      go_ret
      exact ⟨w.heap.size, rfl, Nat.le_refl _, HFI.out, HB.out⟩
end Go.Proofs.Ytockhhleapbpiaa

