/- Package graph: Moral. -/
import Derived.Test.YtockhhleapbpiaaOpnAToAbvB
namespace Go.Proofs.Ytockhhleapbpiaa
open Go.RowKit Go.Shelf

attribute [local go_sem] Oper.semAt_some

/-- A node and its parents. -/
def famL (P : List (List Nat)) (v : Nat) : List Nat := v :: P.getD v []
/-- Those beside u, by the families below v. -/
def mrL (P : List (List Nat)) (u : Nat) : Nat → List Nat
  | 0 => []
  | v + 1 => if u ∈ famL P v then mrL P u v ++ (famL P v).filter (fun x => decide (x ≠ u)) else mrL P u v
def mrV (P : List (List Nat)) (n v k : Nat) : List (List Nat) := (List.range n).map fun u => if u < k ∧ u ∈ famL P v then mrL P u v ++ (famL P v).filter (fun x => decide (x ≠ u)) else mrL P u v
def mrA (P : List (List Nat)) (n v : Nat) : List (List Nat) := (List.range n).map fun u => mrL P u v
theorem mrV_zero (P : List (List Nat)) (n v : Nat) : mrV P n v 0 = mrA P n v := by simp [mrV, mrA]
theorem mrV_all {P : List (List Nat)} {n v : Nat} (h : n ≤ 8) : mrV P n v 8 = mrA P n (v + 1) := by
  apply List.map_congr_left
  intro u hu
  have := List.mem_range.1 hu
  rw [mrL]
  by_cases h1 : u ∈ famL P v
  · rw [if_pos ⟨by omega, h1⟩, if_pos h1]
  · rw [if_neg (fun e => h1 e.2), if_neg h1]
theorem mrV_yes {P : List (List Nat)} {n v k : Nat} (hm : k ∈ famL P v) : mrV P n v (k + 1) = (mrV P n v k).set k (mrL P k v ++ (famL P v).filter (fun x => decide (x ≠ k))) := by
  apply List.ext_getElem (by simp [mrV])
  intro i h1 h2
  rw [List.getElem_set]
  simp only [mrV, List.getElem_map, List.getElem_range]
  by_cases h : k = i
  · subst h
    rw [if_pos ⟨by omega, hm⟩, if_pos rfl]
  · rw [if_neg h]
    have e : (i < k + 1 ∧ i ∈ famL P v) ↔ (i < k ∧ i ∈ famL P v) := ⟨fun ⟨a, b⟩ => ⟨by omega, b⟩, fun ⟨a, b⟩ => ⟨by omega, b⟩⟩
    simp only [e]
theorem mrV_no {P : List (List Nat)} {n v k : Nat} (hm : ¬ k ∈ famL P v) : mrV P n v (k + 1) = mrV P n v k := by
  apply List.map_congr_left
  intro i hi
  have e : (i < k + 1 ∧ i ∈ famL P v) ↔ (i < k ∧ i ∈ famL P v) := ⟨fun ⟨a, b⟩ => ⟨by rcases Nat.lt_or_ge i k with h | h; exact h; exact absurd (show i = k by omega) (fun e => hm (e ▸ b)), b⟩, fun ⟨a, b⟩ => ⟨by omega, b⟩⟩
  simp only [e]
theorem mrV_at {P : List (List Nat)} {n v k u : Nat} (hu : u < n) (h : ¬ u < k) : (mrV P n v k)[u]? = some (mrL P u v) := by
  simp [mrV, hu, h]
theorem mrV_length (P : List (List Nat)) (n v k : Nat) : (mrV P n v k).length = n := by simp [mrV]
theorem mrA_length (P : List (List Nat)) (n v : Nat) : (mrA P n v).length = n := by simp [mrA]
theorem fam_lt {n : Nat} {P : List (List Nat)} (hP : ∀ v, ∀ u ∈ P.getD v [], u < n) {v : Nat} (hv : v < n) : ∀ u ∈ famL P v, u < n := fun u hu => by
  rcases List.mem_cons.1 hu with rfl | h
  · exact hv
  · exact hP v u h
theorem mrL_lt {n : Nat} {P : List (List Nat)} (hP : ∀ v, ∀ u ∈ P.getD v [], u < n) (u : Nat) : ∀ v, v ≤ n → ∀ x ∈ mrL P u v, x < n
  | 0, _, x, hx => by simp [mrL] at hx
  | v + 1, hv, x, hx => by
    rw [mrL] at hx
    by_cases h : u ∈ famL P v
    · rw [if_pos h] at hx
      rcases List.mem_append.1 hx with h2 | h2
      · exact mrL_lt hP u v (by omega) x h2
      · exact fam_lt hP (by omega) x (List.mem_filter.1 h2).1
    · rw [if_neg h] at hx
      exact mrL_lt hP u v (by omega) x hx
theorem cell_putObj {W : World} {r : Nat} {p : Addr} {x : Value} {o o' : Obj} (h : W.cell? p = some x) (ho : W.heap[r]? = some o) (hc : o.isCells = false) : (W.putObj r o').cell? p = some x := by
  have hne : p.block ≠ r := fun e => by
    rw [World.cell?, e, ho] at h
    cases o <;> simp_all [Obj.isCells]
  rw [← h]
  exact World.cell?_of_block (World.putObj_heap_other hne)
theorem IntS.putObj {W : World} {r : Nat} {d : Option Addr} {l : List Int} {o o' : Obj} (h : IntS W d l) (ho : W.heap[r]? = some o) (hc : o.isCells = false) : IntS (W.putObj r o') d l := fun k hk => by
  obtain ⟨g, q, h1, h2, h3⟩ := h k hk
  exact ⟨g, q, h1, by simpa using h2, cell_putObj h3 ho hc⟩
theorem LsS.putObj {W : World} {r : Nat} {a : Option Addr} {L : List (List Int)} {o o' : Obj} (h : LsS W a L) (ho : W.heap[r]? = some o) (hc : o.isCells = false) : LsS (W.putObj r o') a L := fun k hk => by
  obtain ⟨g, q, b, c, h1, h2, h3, h4⟩ := h k hk
  exact ⟨g, q, b, c, h1, by simpa using h2, cell_putObj h3 ho hc, h4.putObj ho hc⟩
/-- What a call of Moral holds while it goes through the families: R is the row's block. -/
def MoL (w : World) (R n : Nat) (l : List Nat) (W : World) : Prop := RowU W R l ∧ Boxed W (R + 1) 52 (.slice (some ⟨R, 0, none⟩) n n) ∧ Below R w W
theorem MoL.own {β : Type} {w : World} {R n B : Nat} (f : β → List Nat) (hB : R ≤ B) (hw : R ≤ w.heap.size) : OwnFrom B (fun (s : β) W => MoL w R n (f s) W) :=
  OwnFrom.and (Own.from (rowU_own _ f) _) (OwnFrom.and (Own.from (boxed_own _ _ (fun _ => _)) _) (fun _ _ _ _ hs hg hr => hs.grown hg (Nat.le_trans hw hs.size) (fun k e => Nat.le_trans hB (hr k e).1)))
theorem MoL.below {w W W' : World} {R n : Nat} {l : List Nat} (h : MoL w R n l W) (hb : Below W.heap.size W W') : MoL w R n l W' := ⟨h.1.below hb h.1.lt, boxed_at h.2.1 hb h.2.1.lt, h.2.2.trans (hb.mono (Nat.le_of_lt h.1.lt))⟩
/-- What Moral answers. -/
def MoR (L : List (List Int)) (e : Ending) (w' : World) : Prop :=
  (gcE L ≠ 0 ∧ e = .returned (.tuple #[.slice none 0 0, .int .i64 (gcE L)])) ∨
  (gcE L = 0 ∧ ∃ G, e = .returned (.tuple #[.slice (some ⟨G, 0, none⟩) L.length L.length, .int .i64 0]) ∧ LsS w' (some ⟨G, 0, none⟩) ((mrA (parN L) L.length L.length).map memL))

set_option maxRecDepth 100000 in
set_option maxHeartbeats 4000000 in
theorem gMoral_any (a : Option Addr) (ca : Nat) (L : List (List Int)) (w : World) (h : LsS w a L) (hl : ∀ l ∈ L, l.length ≤ 140737488355328) :
    Calls Try.prog 17 #[.slice a L.length ca] w fun e w' => MoR L e w' ∧ Below w.heap.size w w' := by
  refine (callsIn_wide (n := 6)).1 ?_
  obtain ⟨i0, hi0, hz0, hz1, hz2⟩ := info_parts Try.infoSet
  have HR := hid (gRead_any a ca L w h hl)
  have hn : (parN L).length = L.length := parN_length L
  have HPD : Hid (gcE L = 0 → ∀ v, ∀ u ∈ (parN L).getD v [], u < L.length) := fun hg v u hu => (nbr_of (gcE_gB hg)).at v u hu
  have HN8 : Hid (gcE L = 0 → L.length ≤ 8) := fun hg => (gB_parts (gcE_gB hg)).2.1
  have HMK : Hid (masks L = (parN L).map mskN) := masks_par L
  have HMR : Hid (∀ e w', MoR L e w' = ((gcE L ≠ 0 ∧ e = .returned (.tuple #[.slice none 0 0, .int .i64 (gcE L)])) ∨ (gcE L = 0 ∧ ∃ G, e = .returned (.tuple #[.slice (some ⟨G, 0, none⟩) L.length L.length, .int .i64 0]) ∧ LsS w' (some ⟨G, 0, none⟩) ((mrA (parN L) L.length L.length).map memL)))) := fun _ _ => rfl
  generalize parN L = P at *
  clear h hl
  by_cases hg : gcE L = 0
  case neg =>
    have HGN := hid hg
    have hgb : (gcE L == 0) = false := by simpa using hg
    refine callsIn_of_wp_marks Try.func17 rfl trivial ?_ rfl
    simp only [Try.ntmps17, List.size_toArray, List.length_cons, List.length_nil, Nat.reduceAdd, Nat.reduceSub, Array.replicate_succ, Array.replicate_zero, List.push_toArray, List.append_toArray, List.nil_append, List.cons_append]
    gi_wp2_with (refine ⟨trivial, ?_⟩; gi_at_call 34; refine (callsIn_wide.2 HR.out).mono ?_; rintro e w1 ⟨hb1, hor⟩; obtain rfl := (hor.resolve_left fun h => hg h.1).2)
    exact ⟨_, results_tmp2 rfl _ _ _, .inl ⟨HGN.out, rfl⟩, hb1⟩
  case pos =>
    have h8 := HN8.out hg
    have hmk := fun V => run_make_row' (P := Try.prog) 52 57 (.int .u32 0) 4 Try.underlying52 Try.infoSet rfl .i64 .i64 L.length (by omega) (by omega) V
    refine callsIn_of_wp_marks Try.func17 rfl trivial ?_ rfl
    simp only [Try.ntmps17, List.size_toArray, List.length_cons, List.length_nil, Nat.reduceAdd, Nat.reduceSub, Array.replicate_succ, Array.replicate_zero, List.push_toArray, List.append_toArray, List.nil_append, List.cons_append]
    gi_wp2_with (refine ⟨trivial, ?_⟩; gi_at_call 34; refine (callsIn_wide.2 HR.out).mono ?_; rintro e w1 ⟨hb1, hor⟩; obtain ⟨-, G, rfl, hG, hU⟩ := hor.resolve_right fun h => h.1 hg)
    clear hmk
    have hPd := HPD.out hg
    rw [HMK.out] at hU
    have hGl := hU.lt
    have HG0 := hid hg
    have HB1 := hid hb1
    have HKU : Hid (∀ (V : World) (v : Nat), Below w1.heap.size w1 V → v < L.length → V.cell? ⟨G, v, none⟩ = some (.int .u32 (mskN (P.getD v []) : Nat))) := fun V v hB hv => by
      have := (hU.below hB hGl).cell v (by rw [List.length_map]; omega)
      rwa [mapU_get (by omega)] at this
    have HFS : Hid (∀ v, v < L.length → ∀ u ∈ famL P v, u < L.length) := fun v hv => fam_lt hPd hv
    have HWT := hid (fun (v : Nat) (hv : v < L.length) (U : World) => sWith_any (P.getD v []) v U (fun u hu => by have := hPd v u hu; omega) (by omega))
    have HFM : Hid (∀ v, v :: P.getD v [] = famL P v) := fun v => rfl
    have HWO := hid (fun (v : Nat) (hv : v < L.length) (u : Nat) (hu : u < 8) (U : World) => sWithout_any (famL P v) u U (fun x hx => by have := fam_lt hPd hv x hx; omega) hu)
    have HOR := hid (fun (v u : Nat) (hv : v < L.length) => bits_or (mrL P u v) ((famL P v).filter fun x => decide (x ≠ u)) (fun x hx => by have := mrL_lt hPd u v (by omega) x hx; omega) (fil_small (fun x hx => by have := fam_lt hPd hv x hx; omega) _))
    have HCELL : Hid (∀ (V : World) (g v k u : Nat), u < L.length → ¬ u < k → RowU V g ((mrV P L.length v k).map mskN) → V.cell? ⟨g, u, none⟩ = some (.int .u32 (mskN (mrL P u v) : Nat)) ∧ V.frozen? ⟨g, u, none⟩ = false) := fun V g v k u hu hne hR => by
      have h1 : u < (mrV P L.length v k).length := by rw [mrV_length]; exact hu
      have h2 := hR.cell u (by rw [List.length_map]; exact h1)
      obtain ⟨h3, h4⟩ := List.getElem?_eq_some_iff.1 (mrV_at (P := P) (v := v) hu hne)
      rw [List.getElem_map, h4] at h2
      exact ⟨h2, hR.fz u⟩
    have HSET : Hid (∀ (V : World) (g v k : Nat), k ∈ famL P v → RowU V g ((mrV P L.length v k).map mskN) → RowU (V.setCell ⟨g, k, none⟩ (.int .u32 (mskN (mrL P k v ++ (famL P v).filter (fun x => decide (x ≠ k))) : Nat))) g ((mrV P L.length v (k + 1)).map mskN)) := fun V g v k hm hR => by
      have := hR.set k (mskN (mrL P k v ++ (famL P v).filter (fun x => decide (x ≠ k))))
      rwa [mrV_yes hm, List.map_set]
    have HNO : Hid (∀ v k, ¬ k ∈ famL P v → mrV P L.length v (k + 1) = mrV P L.length v k) := fun v k h => mrV_no h
    have HZ := hid (fun v => mrV_zero P L.length v)
    have HA := hid (fun v => mrV_all (P := P) (v := v) h8)
    have hz : (mrA P L.length 0).map mskN = List.replicate L.length 0 := by
      apply List.ext_getElem (by simp [mrA])
      intro i h1 h2
      simp [mrA, mrL, mskN]
    have HLS : Hid (∀ (R : Nat) (U : World), RowU U R ((mrA P L.length L.length).map mskN) → Calls Try.prog 49 #[.slice (some ⟨R, 0, none⟩) L.length L.length] U fun e w' => ∃ G, e = .returned (.slice (some ⟨G, 0, none⟩) L.length L.length) ∧ U.heap.size ≤ G ∧ LsS w' (some ⟨G, 0, none⟩) ((mrA P L.length L.length).map memL) ∧ Below U.heap.size U w') := fun R U hR => by
      have := lists_any (some ⟨R, 0, none⟩) L.length (mrA P L.length L.length) U (fun p hp u hu => by
        obtain ⟨x, _, rfl⟩ := List.mem_map.1 hp
        have := mrL_lt hPd x L.length (Nat.le_refl _) u hu
        omega) (by rw [mrA_length]; omega) (fun k hk => ⟨R, 0, rfl, hR.lt, by
          have := hR.cell k (by rw [List.length_map]; exact hk)
          rw [Nat.zero_add, this, List.getElem_map]⟩)
      rwa [mrA_length] at this
    clear hU hg hb1 HPD HN8 HMK hPd HR
    generalize L.length = n at *
    obtain ⟨W2, hW2⟩ : ∃ W2, W2 = (w1.alloc (.cells (madeCells #[.int .u32 0] n) 57)).alloc (.cells #[.slice (some ⟨w1.heap.size, 0, none⟩) n n] 52) := ⟨_, rfl⟩
    have hL2 : MoL w1 w1.heap.size n ((mrA P n 0).map mskN) W2 := by
      rw [hW2, hz]
      refine ⟨?_, ?_, ((Below.refl _ w1).alloc (Nat.le_refl _) _).alloc (by simp) _⟩
      · have h := heap_alloc_new w1 (.cells (madeCells #[.int .u32 0] n) 57)
        have e : (madeCells #[.int .u32 0] n).toList = (List.replicate n (0 : Nat)).map uv := by
          have := made_sets n
          rwa [Nat.mul_one] at this
        have e2 : madeCells #[Value.int .u32 0] n = ((List.replicate n (0 : Nat)).map uv).toArray := by rw [← e]
        rw [RowU, Below.heap_alloc _ _ _ (by simp), h, e2]
      · have h := Boxed.new (w1.alloc (.cells (madeCells #[.int .u32 0] n) 57)) 52 (.slice (some ⟨w1.heap.size, 0, none⟩) n n)
        rwa [World.size_alloc] at h
    rw [← hW2]
    have hs2 : W2.heap.size = w1.heap.size + 2 := by rw [hW2]; simp
    have HL2 := hid hL2
    clear hW2 hL2 hz
    refine wpIn_loop (fun a' w' => ∃ (v : Nat) (ds : List Deferred) (u7 u8 u24 u25 u26 u27 u28 u29 u30 u31 u32 u43 : Value), a' = { tmps := #[.slice a n ca, undef, .slice none 0 0, .int .i64 0, .slice (some ⟨G, 0, none⟩) n n, .int .i64 0, .pointer (some ⟨w1.heap.size + 1, 0, none⟩), u7, u8, undef, .tuple #[.slice (some ⟨G, 0, none⟩) n n, .int .i64 0], .slice a n ca, .tuple #[.slice (some ⟨G, 0, none⟩) n n, .int .i64 0], .slice (some ⟨G, 0, none⟩) n n, .int .i64 0, .int .i64 0, .bool false, undef, .slice (some ⟨G, 0, none⟩) n n, .int .i64 (n : Nat), .slice (some ⟨w1.heap.size, 0, none⟩) n n, .slice (some ⟨G, 0, none⟩) n n, .int .i64 (n : Nat), .int .i64 (v : Nat), u24, u25, u26, u27, u28, u29, u30, u31, u32, undef, undef, undef, undef, undef, undef, undef, undef, undef, undef, u43, undef, undef], defers := ds } ∧ v ≤ n ∧ Hid (MoL w1 w1.heap.size n ((mrA P n v).map mskN) w') ∧ Hid (Shut (w1.heap.size + 2) w'.heap.size ds w')) (fun a' _ => n - (intOf (a'.tmps.getD 23 undef)).toNat) ?_ ?_
    · exact ⟨0, [], _, _, _, _, _, _, _, _, _, _, _, _, rfl, Nat.zero_le _, HL2, trivial⟩
    intro a' wr hinv
    obtain ⟨v, ds, u7, u8, u24, u25, u26, u27, u28, u29, u30, u31, u32, u43, rfl, hv, HLr, HSH⟩ := hinv
    clear HL2
    by_cases hlt : v < n
    · have kv := HKU.out wr v HLr.out.2.2 hlt
      have hs := HFS.out v hlt
      have hs8 : ∀ u ∈ famL P v, u < 8 := fun u hu => by have := hs u hu; omega
      have HWTv := hid (HWT.out v hlt)
      rw [HFM.out v] at HWTv
      have HWOv := hid (HWO.out v hlt)
      have HORv := hid (fun u => HOR.out v u hlt)
      have HCv := hid (fun V g k u => HCELL.out V g v k u)
      have HSv := hid (fun V g k => HSET.out V g v k)
      have HNv := hid (fun k => HNO.out v k)
      have hZv := HZ.out v
      have hAv := HA.out v
      have hlr : w1.heap.size + 1 < wr.heap.size := HLr.out.2.1.lt
      generalize mskN (P.getD v []) = mp at *
      generalize famL P v = fm at *
      gi_wp2_with (refine ⟨trivial, ?_⟩; gi_at_call 46; refine (callsIn_wide.2 (HWTv.out _)).mono ?_; rintro e w4 ⟨rfl, hw4⟩; subst hw4)
      obtain ⟨W3, hW3⟩ : ∃ W3, W3 = wr.alloc (.cells #[.int .u32 (mskN fm : Nat)] 57) := ⟨_, rfl⟩
      have b8 : Boxed W3 wr.heap.size 57 (.int .u32 (mskN fm : Nat)) := by rw [hW3]; exact Boxed.new wr _ _
      have hb3 : Below wr.heap.size wr W3 := by rw [hW3]; exact (Below.refl _ wr).alloc (Nat.le_refl _) _
      have hs3 : W3.heap.size = wr.heap.size + 1 := by rw [hW3]; simp
      rw [← hW3]
      have hL3 := HLr.out.below hb3
      have hSH3 := (HSH.out.below hb3).mono (show wr.heap.size ≤ W3.heap.size by omega)
      rw [← hZv] at hL3
      clear hW3 kv HLr HSH
      refine wp_each (by omega) fm hs8 rfl rfl
        (fun k V => MoL w1 w1.heap.size n ((mrV P n v k).map mskN) V ∧ Boxed V wr.heap.size 57 (.int .u32 (mskN fm : Nat)) ∧ (W3.heap.size ≤ V.heap.size ∧ Shut (w1.heap.size + 2) W3.heap.size ds V))
        (OwnFrom.and (MoL.own (fun k : Nat => (mrV P n v k).map mskN) (by omega) (Nat.le_refl _)) (OwnFrom.and (Own.from (boxed_own _ _ (fun _ => _)) _) shut_own))
        ⟨hL3, b8, Nat.le_refl _, hSH3⟩
        (fun k => { tmps := #[.slice a n ca, undef, .slice none 0 0, .int .i64 0, .slice (some ⟨G, 0, none⟩) n n, .int .i64 0, .pointer (some ⟨w1.heap.size + 1, 0, none⟩), .int .i64 (v : Nat), .pointer (some ⟨wr.heap.size, 0, none⟩), .int .i64 (k : Nat), .tuple #[.slice (some ⟨G, 0, none⟩) n n, .int .i64 0], .slice a n ca, .tuple #[.slice (some ⟨G, 0, none⟩) n n, .int .i64 0], .slice (some ⟨G, 0, none⟩) n n, .int .i64 0, .int .i64 0, .bool false, undef, .slice (some ⟨G, 0, none⟩) n n, .int .i64 (n : Nat), .slice (some ⟨w1.heap.size, 0, none⟩) n n, .slice (some ⟨G, 0, none⟩) n n, .int .i64 (n : Nat), .int .i64 (v : Nat), .bool true, .int .i64 (v : Nat), .pointer (some ⟨G, v, none⟩), .int .u32 (mp : Nat), .int .u32 (mp : Nat), .int .i64 (v : Nat), .int .u32 (mskN fm : Nat), .int .u32 (mskN fm : Nat), .func (.func 47) #[.int .u32 (mskN fm : Nat)] #[], .int .i64 (k : Nat), undef, undef, undef, undef, undef, undef, undef, undef, undef, u43, undef, undef], defers := [] }) ?assign ?body ?skip ?done
      case assign =>
        intro l k W K hK
        gi_wp2
        exact hK
      case body =>
        rintro l k V hk hm ⟨h0, h4, hsV, hshV⟩
        have hkn := hs k hm
        have k1 := h0.2.1.cell
        have k4 := h4.cell
        obtain ⟨kU, fU⟩ := HCv.out V w1.heap.size k k hkn (by omega) h0.1
        have HWk := hid (HWOv.out k hk)
        have hOR := HORv.out k
        have HSK := hid (fun W hW => HSv.out W w1.heap.size k hm hW)
        generalize mskN (mrL P k v ++ fm.filter (fun x => decide (x ≠ k))) = m1 at *
        generalize mskN (fm.filter fun x => decide (x ≠ k)) = m2 at *
        generalize mskN (mrL P k v) = m0 at *
        generalize mskN fm = mf at *
        gi_wp2_with fail
        refine region_round (fun u => u.cell? ⟨w1.heap.size + 1, 0, none⟩ = some (.slice (some ⟨w1.heap.size, 0, none⟩) n n) ∧ u.cell? ⟨wr.heap.size, 0, none⟩ = some (.int .u32 (mf : Nat))) (by kernel_rfl) (by kernel_rfl) (fun ⟨_, _, h⟩ => h) ⟨k1, k4⟩ ?_
        intro hSd
        have hD : KeepsOthers V V.drew := KeepsOthers.drew V
        have q0 : MoL w1 w1.heap.size n ((mrV P n v k).map mskN) V.drew := ⟨h0.1, h0.2.1, h0.2.2.drew⟩
        have q4 : Boxed V.drew wr.heap.size 57 (.int .u32 (mf : Nat)) := h4
        have qS : Shut (w1.heap.size + 2) W3.heap.size ds V.drew := hshV.keep fun _ _ => rfl
        have qz : W3.heap.size ≤ V.drew.heap.size := hsV
        have kU2 : V.drew.cell? ⟨w1.heap.size, k, none⟩ = some (.int .u32 (m0 : Nat)) := kU
        have fU2 : V.drew.frozen? ⟨w1.heap.size, k, none⟩ = false := fU
        clear k1 k4 kU fU h0 h4 hshV hsV b8 hb3 hL3 hSH3
        generalize V.drew = U0 at *
        (try simp only [List.getElem_toArray, List.getElem_cons_zero, List.getElem_cons_succ])
        (try simp only [Act.put, List.setIfInBounds_toArray, List.set_cons_zero, List.set_cons_succ])
        refine wpAnyH_take (i := 0) (oi := _) (v := .slice (some ⟨w1.heap.size, 0, none⟩) n n) rfl (by kernel_rfl) (by kernel_rfl) (by kernel_rfl) (fun _ _ _ h => h) (Or.inl ⟨by rfl, ?_⟩) (by assumption) ?_
        · intro u' hSu
          (try simp only [List.getElem_toArray, List.getElem_cons_zero])
          obtain ⟨s0, s1⟩ := hSu
          go_simp
        (try simp only [List.getElem_toArray, List.getElem_cons_zero])
        (try simp only [Act.put, List.setIfInBounds_toArray, List.set_cons_zero, List.set_cons_succ])
        refine wpAnyH_take (i := 1) (oi := _) (v := .int .i64 (k : Nat)) rfl (by kernel_rfl) (by kernel_rfl) (by kernel_rfl) (fun _ _ _ h => h) (Or.inl ⟨by rfl, ?_⟩) (by assumption) ?_
        · intro u' hSu
          (try simp only [List.getElem_toArray, List.getElem_cons_zero, List.getElem_cons_succ])
          go_simp
        (try simp only [List.getElem_toArray, List.getElem_cons_zero, List.getElem_cons_succ])
        (try simp only [Act.put, List.setIfInBounds_toArray, List.set_cons_zero, List.set_cons_succ])
        refine wpAnyH_take (i := 2) (oi := _) (v := .pointer (some ⟨w1.heap.size, k, none⟩)) rfl (by kernel_rfl) (by kernel_rfl) (by kernel_rfl) (fun _ _ _ h => h) (Or.inl ⟨by rfl, ?_⟩) (by assumption) ?_
        · intro u' hSu
          (try simp only [List.getElem_toArray, List.getElem_cons_zero, List.getElem_cons_succ])
          go_simp
        (try simp only [List.getElem_toArray, List.getElem_cons_zero, List.getElem_cons_succ])
        (try simp only [Act.put, List.setIfInBounds_toArray, List.set_cons_zero, List.set_cons_succ])
        refine wpAnyH_take (i := 4) (oi := _) (v := .int .u32 (mf : Nat)) rfl (by kernel_rfl) (by kernel_rfl) (by kernel_rfl) (fun _ _ _ h => h) (Or.inl ⟨by rfl, ?_⟩) (by assumption) ?_
        · intro u' hSu
          (try simp only [List.getElem_toArray, List.getElem_cons_zero, List.getElem_cons_succ])
          obtain ⟨s0, s1⟩ := hSu
          go_simp
        (try simp only [List.getElem_toArray, List.getElem_cons_zero, List.getElem_cons_succ])
        (try simp only [Act.put, List.setIfInBounds_toArray, List.set_cons_zero, List.set_cons_succ])
        refine wpAnyH_take (i := 5) (oi := _) (v := .int .i64 (k : Nat)) rfl (by kernel_rfl) (by kernel_rfl) (by kernel_rfl) (fun _ _ _ h => h) (Or.inl ⟨by rfl, ?_⟩) (by assumption) ?_
        · intro u' hSu
          (try simp only [List.getElem_toArray, List.getElem_cons_zero, List.getElem_cons_succ])
          go_simp
        (try simp only [List.getElem_toArray, List.getElem_cons_zero, List.getElem_cons_succ])
        (try simp only [Act.put, List.setIfInBounds_toArray, List.set_cons_zero, List.set_cons_succ])
        refine wpAnyH_ready (rs := [3, 6]) (by kernel_rfl) (by simp) (AllReadyH.cons rfl ?_ (AllReadyH.cons rfl ?_ (AllReadyH.nil)))
        · intro K' hK'
          (try simp only [List.getElem_toArray, List.getElem_cons_zero, List.getElem_cons_succ])
          go_simp
          refine hK'.out _ _ hSd (fun hSe => ?_)
          clear hK' K' hSe
          (try simp only [List.getElem_toArray, List.getElem_cons_zero, List.getElem_cons_succ])
          (try simp only [Act.put, List.setIfInBounds_toArray, List.set_cons_zero, List.set_cons_succ])
          refine wpAnyH_ready (rs := [6]) (by kernel_rfl) (by simp) (AllReadyH.cons rfl ?_ (AllReadyH.nil))
          · intro K' hK'
            (try simp only [List.getElem_toArray, List.getElem_cons_zero, List.getElem_cons_succ])
            go_simp
            refine (HWk.out _).mono ?_
            rintro e U1 ⟨rfl, hU1⟩
            subst hU1
            refine hK'.out _ _ hSd (fun hSe => ?_)
            clear hK' K' hSe
            generalize U1 = U0 at *
            (try simp only [List.getElem_toArray, List.getElem_cons_zero, List.getElem_cons_succ])
            (try simp only [Act.put, List.setIfInBounds_toArray, List.set_cons_zero, List.set_cons_succ])
            refine wpAnyH_take (i := 7) (oi := _) (v := .int .u32 (m1 : Nat)) rfl (by kernel_rfl) (by kernel_rfl) (by kernel_rfl) (fun _ _ _ h => h) (Or.inl ⟨by rfl, ?_⟩) (by assumption) ?_
            · intro u' hSu
              (try simp only [List.getElem_toArray, List.getElem_cons_zero, List.getElem_cons_succ])
              go_simp
            (try simp only [List.getElem_toArray, List.getElem_cons_zero, List.getElem_cons_succ])
            (try simp only [Act.put, List.setIfInBounds_toArray, List.set_cons_zero, List.set_cons_succ])
            refine wpAnyH_take (i := 8) (oi := _) (v := .pointer (some ⟨w1.heap.size, k, none⟩)) rfl (by kernel_rfl) (by kernel_rfl) (by kernel_rfl) (fun _ _ _ h => h) (Or.inl ⟨by rfl, ?_⟩) (by assumption) ?_
            · intro u' hSu
              (try simp only [List.getElem_toArray, List.getElem_cons_zero, List.getElem_cons_succ])
              go_simp
            (try simp only [List.getElem_toArray, List.getElem_cons_zero, List.getElem_cons_succ])
            (try simp only [Act.put, List.setIfInBounds_toArray, List.set_cons_zero, List.set_cons_succ])
            refine wpAnyH_ready (rs := [9]) (by kernel_rfl) (by simp) (AllReadyH.cons rfl ?_ (AllReadyH.nil))
            · intro K' hK'
              (try simp only [List.getElem_toArray, List.getElem_cons_zero, List.getElem_cons_succ])
              go_simp
              refine hK'.out _ _ ⟨(boxed_offB q0.2.1 w1.heap.size k _ (by omega)).cell, (boxed_offB q4 w1.heap.size k _ (by omega)).cell⟩ (fun _ => wpAnyH_done (by kernel_rfl) ?_ _)
              clear hK' K' hSd
              gi_wp2
              exact ⟨(hD.trans (KeepsOthers.setCell U0 _ _)).from _, ⟨HSK.out U0 q0.1, boxed_offB q0.2.1 w1.heap.size k _ (by omega), q0.2.2.setCell (p := ⟨w1.heap.size, k, none⟩) (Nat.le_refl _) _⟩, boxed_offB q4 w1.heap.size k _ (by omega), by simpa using qz, qS.putAt (by omega) _⟩
        · intro K' hK'
          (try simp only [List.getElem_toArray, List.getElem_cons_zero, List.getElem_cons_succ])
          go_simp
          refine (HWk.out _).mono ?_
          rintro e U1 ⟨rfl, hU1⟩
          subst hU1
          refine hK'.out _ _ hSd (fun hSe => ?_)
          clear hK' K' hSe
          generalize U1 = U0 at *
          (try simp only [List.getElem_toArray, List.getElem_cons_zero, List.getElem_cons_succ])
          (try simp only [Act.put, List.setIfInBounds_toArray, List.set_cons_zero, List.set_cons_succ])
          refine wpAnyH_ready (rs := [3]) (by kernel_rfl) (by simp) (AllReadyH.cons rfl ?_ (AllReadyH.nil))
          · intro K' hK'
            (try simp only [List.getElem_toArray, List.getElem_cons_zero, List.getElem_cons_succ])
            go_simp
            refine hK'.out _ _ hSd (fun hSe => ?_)
            clear hK' K' hSe
            (try simp only [List.getElem_toArray, List.getElem_cons_zero, List.getElem_cons_succ])
            (try simp only [Act.put, List.setIfInBounds_toArray, List.set_cons_zero, List.set_cons_succ])
            refine wpAnyH_take (i := 7) (oi := _) (v := .int .u32 (m1 : Nat)) rfl (by kernel_rfl) (by kernel_rfl) (by kernel_rfl) (fun _ _ _ h => h) (Or.inl ⟨by rfl, ?_⟩) (by assumption) ?_
            · intro u' hSu
              (try simp only [List.getElem_toArray, List.getElem_cons_zero, List.getElem_cons_succ])
              go_simp
            (try simp only [List.getElem_toArray, List.getElem_cons_zero, List.getElem_cons_succ])
            (try simp only [Act.put, List.setIfInBounds_toArray, List.set_cons_zero, List.set_cons_succ])
            refine wpAnyH_take (i := 8) (oi := _) (v := .pointer (some ⟨w1.heap.size, k, none⟩)) rfl (by kernel_rfl) (by kernel_rfl) (by kernel_rfl) (fun _ _ _ h => h) (Or.inl ⟨by rfl, ?_⟩) (by assumption) ?_
            · intro u' hSu
              (try simp only [List.getElem_toArray, List.getElem_cons_zero, List.getElem_cons_succ])
              go_simp
            (try simp only [List.getElem_toArray, List.getElem_cons_zero, List.getElem_cons_succ])
            (try simp only [Act.put, List.setIfInBounds_toArray, List.set_cons_zero, List.set_cons_succ])
            refine wpAnyH_ready (rs := [9]) (by kernel_rfl) (by simp) (AllReadyH.cons rfl ?_ (AllReadyH.nil))
            · intro K' hK'
              (try simp only [List.getElem_toArray, List.getElem_cons_zero, List.getElem_cons_succ])
              go_simp
              refine hK'.out _ _ ⟨(boxed_offB q0.2.1 w1.heap.size k _ (by omega)).cell, (boxed_offB q4 w1.heap.size k _ (by omega)).cell⟩ (fun _ => wpAnyH_done (by kernel_rfl) ?_ _)
              clear hK' K' hSd
              gi_wp2
              exact ⟨(hD.trans (KeepsOthers.setCell U0 _ _)).from _, ⟨HSK.out U0 q0.1, boxed_offB q0.2.1 w1.heap.size k _ (by omega), q0.2.2.setCell (p := ⟨w1.heap.size, k, none⟩) (Nat.le_refl _) _⟩, boxed_offB q4 w1.heap.size k _ (by omega), by simpa using qz, qS.putAt (by omega) _⟩
      case skip =>
        rintro k V hk hm h
        rw [HNv.out k hm]
        exact h
      case done =>
        rintro D V hD ⟨h0, h4, hsV, hshV⟩ hK
        rw [hAv] at h0
        have hDX : D < V.heap.size := (Array.getElem?_eq_some_iff.1 hK).1
        have HSX : Hid (Shut (w1.heap.size + 2) V.heap.size ({ target := .collected D, args := #[] } :: ds) V) := ⟨D, by omega, hDX, rfl, hK, hshV.mono hD⟩
        have HLX := hid h0
        clear h0 h4 hshV hK
        gi_wp2
        refine ⟨⟨v + 1, _, _, _, _, _, _, _, _, _, _, _, _, _, rfl, by omega, HLX, HSX⟩, ?_⟩
        simp [intOf]
        omega
    · obtain rfl : v = n := by omega
      have kc := HLr.out.2.1.cell
      have HLq := hid (HLS.out w1.heap.size wr HLr.out.1)
      have hlr : w1.heap.size + 1 < wr.heap.size := HLr.out.2.1.lt
      gi_wp2_with (refine ⟨trivial, ?_⟩; gi_at_call 49; refine (callsIn_wide.2 HLq.out).mono ?_; rintro e w5 ⟨G5, rfl, hG5, hL5, hb5⟩)
      have hB5 : Below w.heap.size w w5 := (HB1.out.trans (HLr.out.2.2.mono HB1.out.size)).trans (hb5.mono (Nat.le_trans HB1.out.size (Nat.le_of_lt (Nat.lt_trans (Nat.lt_succ_self _) hlr))))
      refine leaves_shut (lo := w1.heap.size + 2) (K := fun W => LsS W (some ⟨G5, 0, none⟩) ((mrA P v v).map memL) ∧ Below w.heap.size w W) ?_ ?_ _ wr.heap.size w5 (HSH.out.below hb5) ⟨hL5, hB5⟩
      · rintro W r ⟨hL, hB⟩ hr hd
        exact ⟨hL.putObj hd rfl, hB.trans (belowK_b (w := w) (Nat.le_refl _) W r _ _ (by have := HB1.out.size; omega) hd rfl rfl)⟩
      · rintro Z ⟨hL, hB⟩
        refine ⟨_, results_tmp2 rfl _ _ _, ?_, hB⟩
        rw [HMR.out]
        exact .inr ⟨HG0.out, G5, rfl, hL⟩
end Go.Proofs.Ytockhhleapbpiaa

