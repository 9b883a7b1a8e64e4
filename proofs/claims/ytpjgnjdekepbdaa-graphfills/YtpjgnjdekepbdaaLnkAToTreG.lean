/- Package graph: link. -/
import Derived.Test.YtpjgnjdekepbdaaNrsAOwn
namespace Go.Proofs.Ytpjgnjdekepbdaa
open Go.RowKit Go.Shelf

/-- Blocks whose cells are of one type lie as they lay. -/
def KpT (t : TypeId) (w w' : World) : Prop := ∀ (k : Nat) (c : Array Value) (fr : Nat × Nat), w.heap[k]? = some (Obj.cells c t fr) → w'.heap[k]? = some (Obj.cells c t fr)
theorem KpT.below {t : TypeId} {w w' : World} (hb : Below w.heap.size w w') : KpT t w w' := fun k _ _ h => (hb.block k (Array.getElem?_eq_some_iff.1 h).1).trans h
theorem KpT.grown {t t' : TypeId} {w w' : World} {row : Option Nat} (hg : w.grownBy w' row) (hr : ∀ g, row = some g → ∃ c fr, w.heap[g]? = some (.cells c t' fr)) (hne : t ≠ t') : KpT t w w' := fun k c fr h => by
  refine (hg.block k (Array.getElem?_eq_some_iff.1 h).1 fun e => ?_).trans h
  obtain ⟨c', fr', h'⟩ := hr k e.symm
  rw [h] at h'
  injection h' with h1
  injection h1 with _ h2 _
  exact hne h2
theorem own_kp {w w' : World} {B : Nat} {e : TypeId} {s : Nat} {v : Value} {n : Nat} {xs : List Value} (h : w.ownsRow B e s v n xs) (hk : KpT e w w') : w'.ownsRow B e s v n xs := by
  refine ⟨h.1, ?_⟩
  rcases h.2 with h1 | ⟨g, cap, cur, h1, h2, h3, h4⟩
  · exact .inl h1
  · exact .inr ⟨g, cap, cur, h1, h2, hk _ _ _ h3, h4⟩
theorem own_typed {w : World} {B : Nat} {e : TypeId} {s : Nat} {v : Value} {n : Nat} {xs : List Value} (h : w.ownsRow B e s v n xs) : ∀ g, v.ownBlock = some g → ∃ c fr, w.heap[g]? = some (.cells c e fr) := fun g hg => by
  rcases h.2 with ⟨h1, -⟩ | ⟨g', cap, cur, h1, h2, h3, h4⟩
  · rw [h1] at hg; cases hg
  · rw [h1] at hg; cases hg; exact ⟨_, _, h3⟩
theorem own_from {w : World} {B : Nat} {e : TypeId} {s : Nat} {v : Value} {n : Nat} {xs : List Value} (h : w.ownsRow B e s v n xs) : ∀ g, v.ownBlock = some g → B ≤ g := fun g hg => by
  rcases h.2 with ⟨h1, -⟩ | ⟨g', cap, cur, h1, h2, h3, h4⟩
  · rw [h1] at hg; cases hg
  · rw [h1] at hg; cases hg; exact h2
theorem own_low {w : World} {B B' : Nat} {e : TypeId} {s : Nat} {v : Value} {n : Nat} {xs : List Value} (h : w.ownsRow B e s v n xs) (hb : B' ≤ B) : w.ownsRow B' e s v n xs := by
  refine ⟨h.1, ?_⟩
  rcases h.2 with h1 | ⟨g, cap, cur, h1, h2, h3⟩
  · exact .inl h1
  · exact .inr ⟨g, cap, cur, h1, Nat.le_trans hb h2, h3⟩
/-- A link as it lies there: the two, the list's value, the list. -/
abbrev PK : Type := Nat × Nat × Value × List Int
def kC : List PK → List Value
  | [] => []
  | p :: l => .int .i64 (p.1 : Nat) :: .int .i64 (p.2.1 : Nat) :: p.2.2.1 :: kC l
theorem kC_length : ∀ l, (kC l).length = l.length * 3
  | [] => rfl
  | p :: l => by
    show (kC l).length + 1 + 1 + 1 = (l.length + 1) * 3
    rw [kC_length l]; omega
theorem kC_append (p : PK) : ∀ l, kC (l ++ [p]) = kC l ++ [.int .i64 (p.1 : Nat), .int .i64 (p.2.1 : Nat), p.2.2.1]
  | [] => rfl
  | q :: l => by
    show _ :: _ :: _ :: kC (l ++ [p]) = _ :: _ :: _ :: (kC l ++ _)
    rw [kC_append p l]
def OwK (w : World) (B : Nat) (x : Value) (P : List PK) : Prop := w.ownsRow B 47 3 x P.length (kC P) ∧ ∀ p ∈ P, RwI w B p.2.2.1 p.2.2.2
theorem OwK.keep {w w' : World} {B : Nat} {x : Value} {P : List PK} (h : OwK w B x P) (h1 : KpT 47 w w') (h2 : KpT 3 w w') : OwK w' B x P := ⟨own_kp h.1 h1, fun p hp => own_kp (h.2 p hp) h2⟩
theorem Try.infoLink : (Try.prog.info? 47).map (fun i => (i.zero, i.size, i.bytes)) = some (some (.agg #[.int .i64 0, .int .i64 0, .slice none 0 0]), 3, 40) := by kernel_rfl
theorem wp_append_link {w : World} {o : Oper} {a : Act} {K : Act → World → Prop} {Q : Exit → Act → World → Prop} (s x : Operand)
    (ho : o.op = .call { callee := .builtin .append, args := #[s, x], argTypes := #[39, 39] }) (base : Nat) (v : Value) (P : List PK) (x1 x2 : Nat) (d : Option Addr) (nd cd : Nat) (hs : a.eval s = v) (hown : w.ownsRow base 47 3 v P.length (kC P)) (g : Nat) (hx : a.eval x = .slice (some ⟨g, 0, none⟩) 1 1) (hg0 : w.cell? ⟨g, 0, none⟩ = some (.int .i64 (x1 : Nat))) (hg1 : w.cell? ⟨g, 1, none⟩ = some (.int .i64 (x2 : Nat))) (hg2 : w.cell? ⟨g, 2, none⟩ = some (.slice d nd cd)) (hlen : P.length + 1 ≤ 1000) (hbase : base ≤ w.heap.size)
    (h : ∀ v' w', w'.ownsRow base 47 3 v' (P.length + 1) (kC P ++ [.int .i64 (x1 : Nat), .int .i64 (x2 : Nat), .slice d nd cd]) → w.grownBy w' v.ownBlock → K (a.put o.dst v') w') : o.wp Try.prog a w K Q := by
  obtain ⟨i0, hi0, hz0, hz1, hz2⟩ := info_parts Try.infoLink
  refine wp_append_own _ s x 39 ho base 47 i0 (.agg #[.int .i64 0, .int .i64 0, .slice none 0 0]) 3 40 Try.underlying39 hi0 hz0 hz1 hz2 rfl (by decide) v P.length _ hs hown ⟨g, 0, none⟩ 1 1 [.int .i64 (x1 : Nat), .int .i64 (x2 : Nat), .slice d nd cd] hx rfl ?_ ?_ (by unfold maxLen; omega) (by omega) hbase ?_
  · intro j u hj
    match j, hj with
    | 0, hj => cases hj; exact hg0
    | 1, hj => cases hj; exact hg1
    | 2, hj => cases hj; exact hg2
    | j + 3, hj => simp at hj
  · intro u hu
    simp only [List.mem_cons, List.not_mem_nil, or_false] at hu
    rcases hu with rfl | rfl | rfl <;> rfl
  · intro v' w' h1 h2 _
    exact h v' w' h1 h2
/-- What two cliques have in common. -/
def sepN (C : List (List Nat)) (i j : Nat) : List Nat := (C.getD i []).filter fun x => decide (x ∈ C.getD j [])
/-- Those that stand there behind t links. -/
def thR (C : List (List Nat)) : Nat → List Nat
  | 0 => [0]
  | t + 1 => (nrI C (thR C t) 8).b :: thR C t
def lkL (C : List (List Nat)) : Nat → List (Nat × Nat × List Int)
  | 0 => []
  | t + 1 => lkL C t ++ [((nrI C (thR C t) 8).a, (nrI C (thR C t) 8).b, memL (sepN C (nrI C (thR C t) 8).a (nrI C (thR C t) 8).b))]
theorem nrJ_lt {C : List (List Nat)} {s : List Nat} {i : Nat} {st : NSt} (hi : i < C.length) (ha : st.a < C.length) (hb : st.b < C.length) : ∀ j, j ≤ C.length → (nrJ C s i st j).a < C.length ∧ (nrJ C s i st j).b < C.length
  | 0, _ => ⟨ha, hb⟩
  | j + 1, hj => by
    rw [nrJ]
    split
    · exact ⟨hi, by show j < _; omega⟩
    · exact nrJ_lt hi ha hb j (by omega)
theorem nrI_lt {C : List (List Nat)} {s : List Nat} (h : 0 < C.length) (hs : ∀ u ∈ s, u < C.length) : ∀ k, (nrI C s k).a < C.length ∧ (nrI C s k).b < C.length
  | 0 => ⟨h, h⟩
  | k + 1 => by
    rw [nrI]
    split
    · rename_i hk
      exact nrJ_lt (hs k hk) (nrI_lt h hs k).1 (nrI_lt h hs k).2 _ (Nat.le_refl _)
    · exact nrI_lt h hs k
theorem thR_lt {C : List (List Nat)} (h : 0 < C.length) : ∀ t, ∀ u ∈ thR C t, u < C.length
  | 0, u, hu => by
    rcases List.mem_cons.1 hu with rfl | h'
    · exact h
    · cases h'
  | t + 1, u, hu => by
    rcases List.mem_cons.1 hu with rfl | h'
    · exact (nrI_lt h (thR_lt h t) 8).2
    · exact thR_lt h t u h'
def pk3 (p : PK) : Nat × Nat × List Int := (p.1, p.2.1, p.2.2.2)
/-- What link holds. -/
structure LkX (w : World) (C : List (List Nat)) (t : Nat) (x : Value) (P : List PK) (W : World) : Prop where
  own : OwK W w.heap.size x P
  ls : P.map pk3 = lkL C t
  len : P.length = t
  low : Below w.heap.size w W
theorem LkX.below {w : World} {C : List (List Nat)} {t : Nat} {x : Value} {P : List PK} {W W' : World} (h : LkX w C t x P W) (hb : Below W.heap.size W W') : LkX w C t x P W' := ⟨h.own.keep (KpT.below hb) (KpT.below hb), h.ls, h.len, h.low.trans (hb.mono h.low.size)⟩
theorem LkX.slice {w : World} {C : List (List Nat)} {t : Nat} {x : Value} {P : List PK} {W : World} (h : LkX w C t x P W) : ∃ d c, x = .slice d t c := by
  rcases h.own.1.2 with ⟨h1, h2⟩ | ⟨g', cap, cur, h1, h2⟩
  · exact ⟨none, 0, by rw [h1, ← h.len, h2]⟩
  · exact ⟨_, _, by rw [h1, ← h.len]⟩
theorem LkX.push {w : World} {C : List (List Nat)} {t : Nat} {x x' : Value} {P : List PK} {W W' : World} {d : Option Addr} {nd cd : Nat} (h : LkX w C t x P W) (hI : RwI W w.heap.size (.slice d nd cd) (memL (sepN C (nrI C (thR C t) 8).a (nrI C (thR C t) 8).b)))
    (h1 : W'.ownsRow w.heap.size 47 3 x' (P.length + 1) (kC P ++ [.int .i64 ((nrI C (thR C t) 8).a : Nat), .int .i64 ((nrI C (thR C t) 8).b : Nat), .slice d nd cd])) (hg : W.grownBy W' x.ownBlock) :
    LkX w C (t + 1) x' (P ++ [((nrI C (thR C t) 8).a, (nrI C (thR C t) 8).b, .slice d nd cd, memL (sepN C (nrI C (thR C t) 8).a (nrI C (thR C t) 8).b))]) W' := by
  have hk : KpT 3 W W' := KpT.grown hg (own_typed h.own.1) (by decide)
  refine ⟨⟨?_, ?_⟩, ?_, ?_, ?_⟩
  · rw [List.length_append, kC_append]
    exact h1
  · intro p hp
    rcases List.mem_append.1 hp with h' | h'
    · exact own_kp (h.own.2 p h') hk
    · rw [List.mem_singleton.1 h']
      exact own_kp hI hk
  · rw [List.map_append, h.ls]
    rfl
  · rw [List.length_append, h.len]
    rfl
  · exact h.low.grown hg h.low.size (fun k e => own_from h.own.1 k e)
/-- What link answers. -/
def LkR (w : World) (C : List (List Nat)) (e : Ending) (w' : World) : Prop := ∃ x P, e = .returned x ∧ LkX w C (C.length - 1) x P w'

set_option maxRecDepth 100000 in
set_option maxHeartbeats 4000000 in
theorem link_any (G m c : Nat) (C : List (List Nat)) (w : World) (hn : C.length = m + 1) (h8 : m < 8) (hG : G < w.heap.size) (hU : ∀ v, v < m + 1 → w.cell? ⟨G, v, none⟩ = some (.int .u32 (mskN (C.getD v []) : Nat))) (hC : ∀ p ∈ C, ∀ u ∈ p, u < 8) :
    Calls Try.prog 48 #[.slice (some ⟨G, 0, none⟩) (m + 1) c] w (LkR w C) := by
  obtain ⟨i0, hi0, hz0, hz1, hz2⟩ := info_parts Try.infoLink
  have HUU := hid hU
  have HNR : Hid (∀ (s : List Nat) (U : World), Below w.heap.size w U → (∀ u ∈ s, u < m + 1) → Calls Try.prog 63 #[.slice (some ⟨G, 0, none⟩) (m + 1) c, .int .u32 (mskN s : Nat)] U fun e w' => e = .returned (.tuple #[.int .i64 ((nrI C s 8).a : Nat), .int .i64 ((nrI C s 8).b : Nat)]) ∧ Below U.heap.size U w') := fun s U hb hs => nearest_any G (m + 1) c C s U hn h8 (Nat.lt_of_lt_of_le hG hb.size) (fun v hv => (hb.cell (p := ⟨G, v, none⟩) hG).trans (hU v hv)) hC hs
  have HAN := hid (fun i j => bits_and (C.getD i []) (C.getD j []) (getD_small hC i) (getD_small hC j))
  have HLI := hid (fun (i j : Nat) (U : World) => list_any (sepN C i j) U (fil_small (getD_small hC i) _))
  have HWI := hid (fun (s : List Nat) (v : Nat) (U : World) (hs : ∀ u ∈ s, u < m + 1) (hv : v < m + 1) => sWith_any s v U (fun u hu => by have := hs u hu; omega) (by omega))
  have HW0 := hid (fun (U : World) => sWith_any [] 0 U (fun _ h => by cases h) (by omega))
  have HTH : Hid (∀ t, ∀ u ∈ thR C t, u < m + 1) := fun t u hu => by rw [← hn]; exact thR_lt (by omega) t u hu
  have HLT : Hid (∀ s : List Nat, (∀ u ∈ s, u < m + 1) → (nrI C s 8).a < m + 1 ∧ (nrI C s 8).b < m + 1) := fun s hs => by rw [← hn]; exact nrI_lt (by omega) (by rw [hn]; exact hs) 8
  have hlen : C.length - 1 = m := by omega
  have HLEN := hid hlen
  clear hU hn hlen
  have hm : ((m + 1 : Nat) : Int) - 1 = (m : Int) := by omega
  go_enter Try.func48, Try.ntmps48
  go_wp2_with (first
    | (at_make; refine wpList_make_own _ rfl _ _ 39 rfl w.heap.size 47 i0 (.agg #[.int .i64 0, .int .i64 0, .slice none 0 0]) 3 Try.underlying39 hi0 hz0 hz1 .i64 .i64 _ m rfl rfl (by go_num) (by rw [hz2]; omega) (by unfold maxLen; omega) (Nat.le_refl _) ?_; intro w2 hown2 hgrow2))
  have HI : Hid (LkX w C 0 (.slice (some ⟨w.heap.size, 0, none⟩) 0 m) [] w2) := ⟨⟨hown2, fun p hp => by cases hp⟩, rfl, rfl, (Below.refl _ w).grown hgrow2 (Nat.le_refl _) (fun k e => by cases e)⟩
  clear hown2 hgrow2
  go_wp2_with fail
  refine (HW0.out _).mono ?_
  rintro e U ⟨rfl, hU⟩
  subst hU
  have HT0 : Hid (mskN (0 :: []) = mskN (thR C 0)) := rfl
  rw [HT0.out]
  go_wp2_with fail
  go_loopw [3, 4, 15] (fun xv sv iv wr => ∃ (t : Nat) (P : List PK), t ≤ m ∧ iv = .int .i64 t ∧ sv = .int .u32 (mskN (thR C t) : Nat) ∧ Hid (LkX w C t xv P wr)) (fun _ _ iv _ => m - (intOf iv).toNat)
  case atStart => exact ⟨0, [], Nat.zero_le _, rfl, rfl, HI⟩
  case round =>
    obtain ⟨t, P, ht, rfl, rfl, HX⟩ := hrel
    clear HI
    by_cases hlt : t < m
    · have HTt := hid (HTH.out t)
      have HN := hid (HNR.out (thR C t) wr HX.out.low HTt.out)
      have hLT := HLT.out (thR C t) HTt.out
      have HWt := hid (fun U => HWI.out (thR C t) (nrI C (thR C t) 8).b U HTt.out hLT.2)
      have HT1 : Hid (mskN ((nrI C (thR C t) 8).b :: thR C t) = mskN (thR C (t + 1))) := rfl
      obtain ⟨dx, cx, rfl⟩ := HX.out.slice
      have HPS := hid (fun (x' : Value) (W W' : World) (d : Option Addr) (nd cd : Nat) (h : LkX w C t (.slice dx t cx) P W) => LkX.push (x' := x') (W' := W') (d := d) (nd := nd) (cd := cd) h)
      have hAN := HAN.out (nrI C (thR C t) 8).a (nrI C (thR C t) 8).b
      have HLL := hid (HLI.out (nrI C (thR C t) 8).a (nrI C (thR C t) 8).b)
      have HMA := hid (HUU.out (nrI C (thR C t) 8).a hLT.1)
      have HMB := hid (HUU.out (nrI C (thR C t) 8).b hLT.2)
      rw [show ((C.getD (nrI C (thR C t) 8).a []).filter fun x => decide (x ∈ C.getD (nrI C (thR C t) 8).b [])) = sepN C (nrI C (thR C t) 8).a (nrI C (thR C t) 8).b from rfl] at hAN
      rw [HT1.out] at HWt
      generalize hth : thR C (t + 1) = th1 at *
      have HTE := hid hth
      clear hth
      generalize (nrI C (thR C t) 8).a = A at *
      generalize (nrI C (thR C t) 8).b = Bb at *
      have hA := hLT.1
      have hB := hLT.2
      clear hLT
      generalize hsp : memL (sepN C A Bb) = sp at *
      have HSP := hid hsp
      clear hsp
      generalize mskN (sepN C A Bb) = m2 at *
      generalize mskN (C.getD A []) = ma at *
      generalize mskN (C.getD Bb []) = mb at *
      generalize mskN (thR C t) = ms at *
      clear HT1
      go_wp2_with fail
      refine HN.out.mono ?_
      rintro e w1 ⟨rfl, hb⟩
      have hX1 := HX.out.below hb
      clear hb HX HN
      have ka := (hX1.low.cell (p := ⟨G, A, none⟩) hG).trans HMA.out
      have kb := (hX1.low.cell (p := ⟨G, Bb, none⟩) hG).trans HMB.out
      go_upto_region 6 with fail
      refine wp_region_held_drew (S := fun u => u.cell? ⟨G, A, none⟩ = some (.int .u32 (ma : Nat)) ∧ u.cell? ⟨G, Bb, none⟩ = some (.int .u32 (mb : Nat))) (by kernel_rfl) ⟨ka, kb⟩ (fun hSd => ?_)
      have hX2 := hX1.below (W' := w1.drew) ((Below.refl _ w1).drew)
      clear ka kb hX1
      generalize w1.drew = U0 at *
      (try simp only [List.getElem_toArray, List.getElem_cons_zero, List.getElem_cons_succ])
      (try simp only [Act.put, List.setIfInBounds_toArray, List.set_cons_zero, List.set_cons_succ])
      refine wpAnyH_take (i := 0) (oi := _) (v := .slice dx t cx) rfl (by kernel_rfl) (by kernel_rfl) (by kernel_rfl) (fun _ _ _ h => h) (Or.inl ⟨by rfl, ?_⟩) (by assumption) ?_
      · intro u' hSu
        (try simp only [List.getElem_toArray, List.getElem_cons_zero])
        go_simp
      (try simp only [List.getElem_toArray, List.getElem_cons_zero])
      (try simp only [Act.put, List.setIfInBounds_toArray, List.set_cons_zero, List.set_cons_succ])
      refine wpAnyH_take (i := 1) (oi := _) (v := .int .i64 (A : Nat)) rfl (by kernel_rfl) (by kernel_rfl) (by kernel_rfl) (fun _ _ _ h => h) (Or.inl ⟨by rfl, ?_⟩) (by assumption) ?_
      · intro u' hSu
        (try simp only [List.getElem_toArray, List.getElem_cons_zero, List.getElem_cons_succ])
        go_simp
      (try simp only [List.getElem_toArray, List.getElem_cons_zero, List.getElem_cons_succ])
      (try simp only [Act.put, List.setIfInBounds_toArray, List.set_cons_zero, List.set_cons_succ])
      refine wpAnyH_take (i := 2) (oi := _) (v := .int .i64 (Bb : Nat)) rfl (by kernel_rfl) (by kernel_rfl) (by kernel_rfl) (fun _ _ _ h => h) (Or.inl ⟨by rfl, ?_⟩) (by assumption) ?_
      · intro u' hSu
        (try simp only [List.getElem_toArray, List.getElem_cons_zero, List.getElem_cons_succ])
        go_simp
      (try simp only [List.getElem_toArray, List.getElem_cons_zero, List.getElem_cons_succ])
      (try simp only [Act.put, List.setIfInBounds_toArray, List.set_cons_zero, List.set_cons_succ])
      refine wpAnyH_take (i := 3) (oi := _) (v := .slice (some ⟨G, 0, none⟩) (m + 1) c) rfl (by kernel_rfl) (by kernel_rfl) (by kernel_rfl) (fun _ _ _ h => h) (Or.inl ⟨by rfl, ?_⟩) (by assumption) ?_
      · intro u' hSu
        (try simp only [List.getElem_toArray, List.getElem_cons_zero, List.getElem_cons_succ])
        go_simp
      (try simp only [List.getElem_toArray, List.getElem_cons_zero, List.getElem_cons_succ])
      (try simp only [Act.put, List.setIfInBounds_toArray, List.set_cons_zero, List.set_cons_succ])
      refine wpAnyH_take (i := 4) (oi := _) (v := .int .i64 (A : Nat)) rfl (by kernel_rfl) (by kernel_rfl) (by kernel_rfl) (fun _ _ _ h => h) (Or.inl ⟨by rfl, ?_⟩) (by assumption) ?_
      · intro u' hSu
        (try simp only [List.getElem_toArray, List.getElem_cons_zero, List.getElem_cons_succ])
        go_simp
      (try simp only [List.getElem_toArray, List.getElem_cons_zero, List.getElem_cons_succ])
      (try simp only [Act.put, List.setIfInBounds_toArray, List.set_cons_zero, List.set_cons_succ])
      refine wpAnyH_take (i := 5) (oi := _) (v := .pointer (some ⟨G, A, none⟩)) rfl (by kernel_rfl) (by kernel_rfl) (by kernel_rfl) (fun _ _ _ h => h) (Or.inl ⟨by rfl, ?_⟩) (by assumption) ?_
      · intro u' hSu
        (try simp only [List.getElem_toArray, List.getElem_cons_zero, List.getElem_cons_succ])
        go_simp
        intro hx
        omega
      (try simp only [List.getElem_toArray, List.getElem_cons_zero, List.getElem_cons_succ])
      (try simp only [Act.put, List.setIfInBounds_toArray, List.set_cons_zero, List.set_cons_succ])
      refine wpAnyH_take (i := 6) (oi := _) (v := .int .u32 (ma : Nat)) rfl (by kernel_rfl) (by kernel_rfl) (by kernel_rfl) (fun _ _ _ h => h) (Or.inl ⟨by rfl, ?_⟩) (by assumption) ?_
      · intro u' hSu
        (try simp only [List.getElem_toArray, List.getElem_cons_zero, List.getElem_cons_succ])
        obtain ⟨s0, s1⟩ := hSu
        go_simp
      (try simp only [List.getElem_toArray, List.getElem_cons_zero, List.getElem_cons_succ])
      (try simp only [Act.put, List.setIfInBounds_toArray, List.set_cons_zero, List.set_cons_succ])
      refine wpAnyH_take (i := 7) (oi := _) (v := .slice (some ⟨G, 0, none⟩) (m + 1) c) rfl (by kernel_rfl) (by kernel_rfl) (by kernel_rfl) (fun _ _ _ h => h) (Or.inl ⟨by rfl, ?_⟩) (by assumption) ?_
      · intro u' hSu
        (try simp only [List.getElem_toArray, List.getElem_cons_zero, List.getElem_cons_succ])
        go_simp
      (try simp only [List.getElem_toArray, List.getElem_cons_zero, List.getElem_cons_succ])
      (try simp only [Act.put, List.setIfInBounds_toArray, List.set_cons_zero, List.set_cons_succ])
      refine wpAnyH_take (i := 8) (oi := _) (v := .int .i64 (Bb : Nat)) rfl (by kernel_rfl) (by kernel_rfl) (by kernel_rfl) (fun _ _ _ h => h) (Or.inl ⟨by rfl, ?_⟩) (by assumption) ?_
      · intro u' hSu
        (try simp only [List.getElem_toArray, List.getElem_cons_zero, List.getElem_cons_succ])
        go_simp
      (try simp only [List.getElem_toArray, List.getElem_cons_zero, List.getElem_cons_succ])
      (try simp only [Act.put, List.setIfInBounds_toArray, List.set_cons_zero, List.set_cons_succ])
      refine wpAnyH_take (i := 9) (oi := _) (v := .pointer (some ⟨G, Bb, none⟩)) rfl (by kernel_rfl) (by kernel_rfl) (by kernel_rfl) (fun _ _ _ h => h) (Or.inl ⟨by rfl, ?_⟩) (by assumption) ?_
      · intro u' hSu
        (try simp only [List.getElem_toArray, List.getElem_cons_zero, List.getElem_cons_succ])
        go_simp
        intro hx
        omega
      (try simp only [List.getElem_toArray, List.getElem_cons_zero, List.getElem_cons_succ])
      (try simp only [Act.put, List.setIfInBounds_toArray, List.set_cons_zero, List.set_cons_succ])
      refine wpAnyH_take (i := 10) (oi := _) (v := .int .u32 (mb : Nat)) rfl (by kernel_rfl) (by kernel_rfl) (by kernel_rfl) (fun _ _ _ h => h) (Or.inl ⟨by rfl, ?_⟩) (by assumption) ?_
      · intro u' hSu
        (try simp only [List.getElem_toArray, List.getElem_cons_zero, List.getElem_cons_succ])
        obtain ⟨s0, s1⟩ := hSu
        go_simp
      (try simp only [List.getElem_toArray, List.getElem_cons_zero, List.getElem_cons_succ])
      (try simp only [Act.put, List.setIfInBounds_toArray, List.set_cons_zero, List.set_cons_succ])
      refine wpAnyH_take (i := 11) (oi := _) (v := .int .u32 (m2 : Nat)) rfl (by kernel_rfl) (by kernel_rfl) (by kernel_rfl) (fun _ _ _ h => h) (Or.inl ⟨by rfl, ?_⟩) (by assumption) ?_
      · intro u' hSu
        (try simp only [List.getElem_toArray, List.getElem_cons_zero, List.getElem_cons_succ])
        go_simp
      (try simp only [List.getElem_toArray, List.getElem_cons_zero, List.getElem_cons_succ])
      (try simp only [Act.put, List.setIfInBounds_toArray, List.set_cons_zero, List.set_cons_succ])
      refine wpAnyH_ready (rs := [12]) (by kernel_rfl) (by simp) (AllReadyH.cons rfl ?_ (AllReadyH.nil))
      · intro K' hK'
        (try simp only [List.getElem_toArray, List.getElem_cons_zero, List.getElem_cons_succ])
        go_simp
        refine (HLL.out _).mono ?_
        rintro e U1 ⟨v, rfl, hv, hb⟩
        rw [show iL (memU (sepN C A Bb) 8) = sp from HSP.out] at hv
        have hX3 := hX2.below hb
        obtain ⟨d, cd, rfl, -⟩ := hv.ints
        have hI3 := own_low hv hX2.low.size
        refine hK'.out _ _ ⟨(hX3.low.cell (p := ⟨G, A, none⟩) hG).trans HMA.out, (hX3.low.cell (p := ⟨G, Bb, none⟩) hG).trans HMB.out⟩ (fun hSe => ?_)
        clear hK' K' hSd hX2 hb hv
        have hSd := hSe
        clear hSe
        (try simp only [List.getElem_toArray, List.getElem_cons_zero, List.getElem_cons_succ])
        (try simp only [Act.put, List.setIfInBounds_toArray, List.set_cons_zero, List.set_cons_succ])
        refine wpAnyH_take (i := 13) (oi := _) (v := .agg #[.int .i64 (A : Nat), .int .i64 (Bb : Nat), .slice d sp.length cd]) rfl (by kernel_rfl) (by kernel_rfl) (by kernel_rfl) (fun _ _ _ h => h) (Or.inl ⟨by rfl, ?_⟩) (by assumption) ?_
        · intro u' hSu
          (try simp only [List.getElem_toArray, List.getElem_cons_zero, List.getElem_cons_succ])
          go_simp
        (try simp only [List.getElem_toArray, List.getElem_cons_zero, List.getElem_cons_succ])
        (try simp only [Act.put, List.setIfInBounds_toArray, List.set_cons_zero, List.set_cons_succ])
        refine wpAnyH_ready (rs := [14]) (by kernel_rfl) (by simp) (AllReadyH.cons rfl ?_ (AllReadyH.nil))
        · intro K' hK'
          (try simp only [List.getElem_toArray, List.getElem_cons_zero, List.getElem_cons_succ])
          go_simp
          have hbB := (Below.refl _ U1).alloc (Nat.le_refl _) (.cells #[.int .i64 (A : Nat), .int .i64 (Bb : Nat), .slice d sp.length cd] 47)
          have hX4 := hX3.below hbB
          have hI4 := own_kp hI3 (KpT.below hbB)
          have hnb := World.alloc_heap_new U1 (.cells #[.int .i64 (A : Nat), .int .i64 (Bb : Nat), .slice d sp.length cd] 47)
          have HC0 : (U1.alloc (.cells #[.int .i64 (A : Nat), .int .i64 (Bb : Nat), .slice d sp.length cd] 47)).cell? ⟨U1.heap.size, 0, none⟩ = some (.int .i64 (A : Nat)) := cell_of_row _ _ 0 _ _ _ hnb
          have HC1 : (U1.alloc (.cells #[.int .i64 (A : Nat), .int .i64 (Bb : Nat), .slice d sp.length cd] 47)).cell? ⟨U1.heap.size, 1, none⟩ = some (.int .i64 (Bb : Nat)) := cell_of_row _ _ 1 _ _ _ hnb
          have HC2 : (U1.alloc (.cells #[.int .i64 (A : Nat), .int .i64 (Bb : Nat), .slice d sp.length cd] 47)).cell? ⟨U1.heap.size, 2, none⟩ = some (.slice d sp.length cd) := cell_of_row _ _ 2 _ _ _ hnb
          refine hK'.out _ _ ⟨(hX4.low.cell (p := ⟨G, A, none⟩) hG).trans HMA.out, (hX4.low.cell (p := ⟨G, Bb, none⟩) hG).trans HMB.out⟩ (fun hSe => ?_)
          clear hK' K' hSd hX3 hI3 hbB hnb
          have hSd := hSe
          clear hSe
          generalize (U1.alloc (.cells #[.int .i64 (A : Nat), .int .i64 (Bb : Nat), .slice d sp.length cd] 47)) = U2 at *
          generalize U1.heap.size = BN at *
          (try simp only [List.getElem_toArray, List.getElem_cons_zero, List.getElem_cons_succ])
          (try simp only [Act.put, List.setIfInBounds_toArray, List.set_cons_zero, List.set_cons_succ])
          refine wpAnyH_ready (rs := [15]) (by kernel_rfl) (by simp) (AllReadyH.cons rfl ?_ (AllReadyH.nil))
          · intro K' hK'
            rw [if_pos (by rfl)]
            refine wp_append_link _ _ rfl w.heap.size _ P A Bb d sp.length cd rfl hX4.own.1 BN rfl HC0 HC1 HC2 (by have := hX4.len; omega) hX4.low.size ?_
            intro v' w9 hr9 hg9
            have hX5 := HPS.out _ _ _ _ _ _ hX4 hI4 hr9 hg9
            obtain ⟨d9, c9, rfl⟩ := hX5.slice
            refine hK'.out _ _ ⟨(hX5.low.cell (p := ⟨G, A, none⟩) hG).trans HMA.out, (hX5.low.cell (p := ⟨G, Bb, none⟩) hG).trans HMB.out⟩ (fun hSe => ?_)
            clear hK' K' hSd hX4 hI4 hr9 hg9 HC0 HC1 HC2
            have hSd := hSe
            clear hSe
            (try simp only [List.getElem_toArray, List.getElem_cons_zero, List.getElem_cons_succ])
            (try simp only [Act.put, List.setIfInBounds_toArray, List.set_cons_zero, List.set_cons_succ])
            refine wpAnyH_take (i := 16) (oi := _) (v := .slice d9 (t + 1) c9) rfl (by kernel_rfl) (by kernel_rfl) (by kernel_rfl) (fun _ _ _ h => h) (Or.inl ⟨by rfl, ?_⟩) (by assumption) ?_
            · intro u' hSu
              (try simp only [List.getElem_toArray, List.getElem_cons_zero, List.getElem_cons_succ])
              go_simp
            (try simp only [List.getElem_toArray, List.getElem_cons_zero, List.getElem_cons_succ])
            (try simp only [Act.put, List.setIfInBounds_toArray, List.set_cons_zero, List.set_cons_succ])
            refine wpAnyH_done (by kernel_rfl) ?_ _
            clear hSd
            have HX5 := hid hX5
            clear hX5
            go_wp2_with fail
            refine (HWt.out _).mono ?_
            rintro e U9 ⟨rfl, hU9⟩
            subst hU9
            go_wp2_with fail
            go_roundw
            case rel => exact ⟨t + 1, _, by omega, by go_num, by rw [HTE.out], HX5⟩
            case measure => simp [intOf]; omega
    · obtain rfl : t = m := by omega
      go_wp2
      go_ret
      exact ⟨_, P, rfl, by rw [HLEN.out]; exact HX.out⟩
end Go.Proofs.Ytpjgnjdekepbdaa


/- Package graph: Tree. -/
namespace Go.Proofs.Ytpjgnjdekepbdaa
open Go.RowKit Go.Shelf

theorem own_at {w : World} {B : Nat} {e : TypeId} {s : Nat} {v : Value} {n : Nat} {xs : List Value} (h : w.ownsRow B e s v n xs) (hn : 0 < n) : ∃ g c, v = .slice (some ⟨g, 0, none⟩) n c ∧ B ≤ g ∧ g < w.heap.size ∧ ∀ j (hj : j < xs.length), w.cell? ⟨g, j, none⟩ = some xs[j] := by
  rcases h.2 with ⟨h1, h2⟩ | ⟨g', cap, cur, h1, h2, h3, h4, h5, h6, h7⟩
  · omega
  · refine ⟨g', cap, h1, h2, (Array.getElem?_eq_some_iff.1 h3).1, fun j hj => ?_⟩
    have hl : j < n * s := by have := h.1; omega
    rw [cell_of_row w g' j _ _ (0, 0) h3]
    have e' : cur[j]? = (cur.toList.take (n * s))[j]? := by
      rw [List.getElem?_take, if_pos hl, Array.getElem?_toList]
    rw [e', h7, List.getElem?_eq_getElem hj]
/-- Links in memory. -/
def LnS (w : World) (a : Option Addr) (l : List (Nat × Nat × List Int)) : Prop := ∀ k (h : k < l.length), ∃ g d cd, a = some ⟨g, 0, none⟩ ∧ g < w.heap.size ∧ w.cell? ⟨g, k * 3, none⟩ = some (.int .i64 (l[k].1 : Nat)) ∧ w.cell? ⟨g, k * 3 + 1, none⟩ = some (.int .i64 (l[k].2.1 : Nat)) ∧ w.cell? ⟨g, k * 3 + 2, none⟩ = some (.slice d l[k].2.2.length cd) ∧ IntS w d l[k].2.2
theorem LnS.below {w w' : World} {a : Option Addr} {l : List (Nat × Nat × List Int)} (h : LnS w a l) (hb : Below w.heap.size w w') : LnS w' a l := fun k hk => by
  obtain ⟨g, d, cd, h1, h2, h3, h4, h5, h6⟩ := h k hk
  exact ⟨g, d, cd, h1, Nat.lt_of_lt_of_le h2 hb.size, (hb.cell (p := ⟨g, k * 3, none⟩) h2).trans h3, (hb.cell (p := ⟨g, k * 3 + 1, none⟩) h2).trans h4, (hb.cell (p := ⟨g, k * 3 + 2, none⟩) h2).trans h5, h6.below hb⟩
theorem kC_get : ∀ (l : List PK) (k : Nat) (h : k < l.length), (kC l)[k * 3]? = some (.int .i64 (l[k].1 : Nat)) ∧ (kC l)[k * 3 + 1]? = some (.int .i64 (l[k].2.1 : Nat)) ∧ (kC l)[k * 3 + 2]? = some l[k].2.2.1
  | p :: l, 0, _ => ⟨rfl, rfl, rfl⟩
  | p :: l, k + 1, h => by
    have ih := kC_get l k (by simpa using h)
    rw [show (k + 1) * 3 = k * 3 + 1 + 1 + 1 by omega]
    exact ih
theorem LkX.links {w : World} {C : List (List Nat)} {t : Nat} {x : Value} {P : List PK} {W : World} (h : LkX w C t x P W) : ∃ d cd, x = .slice d t cd ∧ LnS W d (lkL C t) := by
  by_cases ht : 0 < t
  · obtain ⟨g, c, h1, h2, h3, h4⟩ := own_at h.own.1 (by rw [h.len]; exact ht)
    refine ⟨_, c, by rw [h1, h.len], fun k hk => ?_⟩
    have hkp : k < P.length := by rw [← h.ls, List.length_map] at hk; exact hk
    have hcl := kC_length P
    obtain ⟨q0, q1, q2⟩ := kC_get P k hkp
    obtain ⟨d, cd, e1, e2⟩ := (h.own.2 _ (List.getElem_mem hkp)).ints
    have el : (lkL C t)[k] = pk3 P[k] := by
      have := List.getElem_map pk3 (l := P) (i := k) (h := by rw [List.length_map]; exact hkp)
      rw [← this]
      congr 1
      exact h.ls.symm
    rw [el]
    have hc : ∀ j v, (kC P)[j]? = some v → W.cell? ⟨g, j, none⟩ = some v := fun j v hj => by
      obtain ⟨hjl, hje⟩ := List.getElem?_eq_some_iff.1 hj
      rw [h4 j hjl, hje]
    exact ⟨g, d, cd, rfl, h3, hc _ _ q0, hc _ _ q1, by rw [hc _ _ q2, e1]; rfl, e2⟩
  · obtain ⟨d, c, hx⟩ := h.slice
    obtain rfl : t = 0 := by omega
    exact ⟨d, c, hx, fun k hk => absurd hk (by simp [lkL])⟩
/-- A set within another is no greater a number. -/
theorem msk_sub {a b : List Nat} (h : ∀ x ∈ a, x ∈ b) : mskN a ≤ mskN b := by
  have e : mskN a &&& mskN b = mskN a := by
    rw [msk_and]
    exact msk_ext fun x => ⟨fun hx => (List.mem_filter.1 hx).1, fun hx => List.mem_filter.2 ⟨hx, decide_eq_true (h x hx)⟩⟩
  rw [← e]
  exact Nat.and_le_right
/-- Some bag stands in no other one. -/
theorem kept_some {B : List (List Nat)} (hn : 0 < B.length) (h8 : ∀ p ∈ B, ∀ u ∈ p, u < 8) : ∃ i, i < B.length ∧ keptB B i = true := by
  refine Classical.byContradiction fun hno => ?_
  have hall : ∀ i, i < B.length → ∃ j, j < B.length ∧ covB B i j = true := fun i hi => by
    refine Classical.byContradiction fun hj => hno ⟨i, hi, kept_yes fun j hjl => ?_⟩
    cases hc : covB B i j
    · rfl
    · exact absurd ⟨j, hjl, hc⟩ hj
  have key : ∀ K : Nat, ∃ i, i < B.length ∧ K ≤ mskN (B.getD i []) * (B.length + 1) + (B.length - i) := fun K => by
    induction K with
    | zero => exact ⟨0, hn, Nat.zero_le _⟩
    | succ K ih =>
      obtain ⟨i, hi, hK⟩ := ih
      obtain ⟨j, hj, hc⟩ := hall i hi
      obtain ⟨_, hs, hd⟩ := of_decide_eq_true hc
      have hle := msk_sub hs
      refine ⟨j, hj, ?_⟩
      rcases Nat.lt_or_eq_of_le hle with hlt | heq
      · have := Nat.mul_le_mul_right (B.length + 1) (show mskN (B.getD i []) + 1 ≤ mskN (B.getD j []) from hlt)
        rw [Nat.add_mul, Nat.one_mul] at this
        omega
      · have hji : j < i := by
          rcases hd with h | h
          · exact absurd heq.symm h
          · exact h
        rw [← heq]
        omega
  obtain ⟨i, hi, hK⟩ := key (256 * (B.length + 1) + B.length + 1)
  have hm : mskN (B.getD i []) < 256 := msk_lt (by
    rw [List.getD_eq_getElem?_getD, List.getElem?_eq_getElem hi]
    exact h8 _ (List.getElem_mem hi))
  have := Nat.mul_le_mul_right (B.length + 1) (Nat.le_of_lt hm)
  omega
theorem ous_pos {B : List (List Nat)} (hn : 0 < B.length) (h8 : ∀ p ∈ B, ∀ u ∈ p, u < 8) : 0 < (ousL B B.length).length := by
  obtain ⟨i, hi, hk⟩ := kept_some hn h8
  rw [ousL, List.length_map]
  exact List.length_pos_of_mem (List.mem_filter.2 ⟨List.mem_range.2 hi, hk⟩)
theorem ous_small {B : List (List Nat)} (h8 : ∀ p ∈ B, ∀ u ∈ p, u < 8) (k : Nat) : ∀ p ∈ ousL B k, ∀ u ∈ p, u < 8 := fun p hp u hu => by
  obtain ⟨i, _, rfl⟩ := List.mem_map.1 hp
  exact getD_small h8 i u hu
theorem bags_parts {L : List (List Int)} (h : bagsB L = true) : 1 ≤ L.length ∧ L.length ≤ 8 ∧ ∀ p ∈ parN L, ∀ u ∈ p, u < 8 := by
  rw [bagsB, Bool.and_eq_true, Bool.and_eq_true, decide_eq_true_iff] at h
  refine ⟨h.1.1, h.1.2, fun p hp => ?_⟩
  obtain ⟨l, hl, rfl⟩ := List.mem_map.1 hp
  exact ris_all (n := 8) (Nat.le_refl _) (List.all_eq_true.1 h.2.1 l hl)
/-- What Tree answers. -/
def TrR (L : List (List Int)) (e : Ending) (w' : World) : Prop :=
  (bagsB L = true ∧ ∃ G d cd, e = .returned (.tuple #[.slice (some ⟨G, 0, none⟩) (ousL (parN L) L.length).length (ousL (parN L) L.length).length, .slice d ((ousL (parN L) L.length).length - 1) cd, .int .i64 0]) ∧ LsS w' (some ⟨G, 0, none⟩) ((ousL (parN L) L.length).map memL) ∧ LnS w' d (lkL (ousL (parN L) L.length) ((ousL (parN L) L.length).length - 1))) ∨
  (bagsB L = false ∧ e = .returned (.tuple #[.slice none 0 0, .slice none 0 0, .int .i64 11]))

set_option maxRecDepth 100000 in
set_option maxHeartbeats 1000000 in
theorem gTree_any (a : Option Addr) (ca : Nat) (L : List (List Int)) (w : World) (h : LsS w a L) (hl : ∀ l ∈ L, l.length ≤ 140737488355328) :
    Calls Try.prog 21 #[.slice a L.length ca] w fun e w' => TrR L e w' ∧ Below w.heap.size w w' := by
  have HRB := hid (readBags_any a ca L w h hl)
  have HOU : Hid (bagsB L = true → ∀ (G : Nat) (U : World), RowU U G (masks L) → Calls Try.prog 47 #[.slice (some ⟨G, 0, none⟩) L.length L.length] U fun e w' => ∃ g m c, e = .returned (.slice (some ⟨g, 0, none⟩) (m + 1) c) ∧ (ousL (parN L) L.length).length = m + 1 ∧ m < 8 ∧ g < w'.heap.size ∧ (∀ v, v < m + 1 → w'.cell? ⟨g, v, none⟩ = some (.int .u32 (mskN ((ousL (parN L) L.length).getD v []) : Nat))) ∧ Below U.heap.size U w') := fun hb G U hU => by
    obtain ⟨h1, h8, h9⟩ := bags_parts hb
    rw [masks_par] at hU
    have e1 : (parN L).length = L.length := by simp [parN]
    refine (outermost_any G L.length L.length (parN L) U e1 h8 hU h9).mono ?_
    rintro e w' ⟨v, rfl, hv, hbl⟩
    have hp : 0 < (ousL (parN L) L.length).length := by rw [← e1]; exact ous_pos (by omega) h9
    obtain ⟨g, c, rfl, hg1, hg2, hg3⟩ := own_at hv (by rw [List.length_map]; exact hp)
    refine ⟨g, (ousL (parN L) L.length).length - 1, c, ?_, by omega, ?_, hg2, fun v hvl => ?_, hbl⟩
    · rw [List.length_map, show (ousL (parN L) L.length).length - 1 + 1 = (ousL (parN L) L.length).length by omega]
    · have := ousL_len (parN L) L.length
      omega
    · have hv2 : v < (ousL (parN L) L.length).length := by omega
      have := hg3 v (by simp; omega)
      rw [this]
      simp [List.getD_eq_getElem?_getD, List.getElem?_eq_getElem hv2, uv]
  have HSM : Hid (bagsB L = true → ∀ p ∈ ousL (parN L) L.length, ∀ u ∈ p, u < 8) := fun hb => ous_small (bags_parts hb).2.2 _
  clear h hl
  go_enter Try.func21, Try.ntmps21
  go_wp2_with fail
  refine HRB.out.mono ?_
  rintro e w1 ⟨hb, ⟨hn, G, rfl, hG, hU⟩ | ⟨hn, rfl⟩⟩
  · have HO := hid (HOU.out hn G _ hU)
    have HC8 := hid (HSM.out hn)
    have HN := hid hn
    have HB := hid hb
    clear hU hb HOU HSM hn
    generalize hC : ousL (parN L) L.length = C at *
    have HCQ := hid hC
    clear hC
    go_wp2_with fail
    refine HO.out.mono ?_
    rintro e w2 ⟨g, m, c, rfl, hlen, h8, hg, hcl, hb2⟩
    have HLI : Hid (Calls Try.prog 42 #[.slice (some ⟨g, 0, none⟩) (m + 1) c] w2 fun e w' => ∃ G, e = .returned (.slice (some ⟨G, 0, none⟩) (m + 1) (m + 1)) ∧ w2.heap.size ≤ G ∧ LsS w' (some ⟨G, 0, none⟩) (C.map memL) ∧ Below w2.heap.size w2 w') := by
      have := lists_any (some ⟨g, 0, none⟩) c C w2 HC8.out (by omega) (fun k hk => ⟨g, 0, rfl, hg, by
        rw [Nat.zero_add, hcl k (by omega), List.getD_eq_getElem?_getD, List.getElem?_eq_getElem hk]; rfl⟩)
      rw [hlen] at this
      exact this
    have HLK : Hid (∀ U : World, Below w2.heap.size w2 U → Calls Try.prog 48 #[.slice (some ⟨g, 0, none⟩) (m + 1) c] U (LkR U C)) := fun U hbU => link_any g m c C U hlen h8 (Nat.lt_of_lt_of_le hg hbU.size) (fun v hv => (hbU.cell (p := ⟨g, v, none⟩) hg).trans (hcl v hv)) HC8.out
    have HB2 := hid (HB.out.trans (hb2.mono HB.out.size))
    have HLE := hid hlen
    clear hcl hb2 hlen
    go_wp2_with fail
    refine HLI.out.mono ?_
    rintro e w3 ⟨G3, rfl, hG3, hL3, hb3⟩
    have HL3 := hid hL3
    have HK3 := hid (HLK.out w3 hb3)
    have HB3 := hid (HB2.out.trans (hb3.mono HB2.out.size))
    clear hb3 hL3 hG3
    go_wp2_with fail
    refine HK3.out.mono ?_
    rintro e w4 ⟨x, P, rfl, hX⟩
    obtain ⟨d, cd, rfl, hK⟩ := hX.links
    have HL4 := hid (HL3.out.below hX.low)
    have HB4 := hid (HB3.out.trans (hX.low.mono HB3.out.size))
    have HK := hid hK
    have hE : C.length - 1 = m := by have := HLE.out; omega
    rw [hE]
    clear hX hK hE
    go_wp2
    refine bodyPost_ret (results_tmp3 rfl _ _ _) rfl ?_
    refine ⟨.inl ⟨HN.out, G3, d, cd, ?_, by rw [HCQ.out]; exact HL4.out, by rw [HCQ.out]; exact HK.out⟩, HB4.out⟩
    rw [HCQ.out, HLE.out]
    rfl
  · have HN := hid hn
    have HB := hid hb
    clear hn hb
    go_wp2
    refine bodyPost_ret (results_tmp3 rfl _ _ _) rfl ?_
    exact ⟨.inr ⟨HN.out, rfl⟩, HB.out⟩
end Go.Proofs.Ytpjgnjdekepbdaa

