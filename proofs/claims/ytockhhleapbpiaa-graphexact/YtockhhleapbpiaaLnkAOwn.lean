/- Package graph: link. -/
import Derived.Test.YtockhhleapbpiaaNrsAOwn
namespace Go.Proofs.Ytockhhleapbpiaa
open Go.RowKit Go.Shelf

/-- Blocks whose cells are of one type lie as they lay. -/
def KpT (t : TypeId) (w w' : World) : Prop := ∀ (k : Nat) (c : Array Value) (fr : Nat × Nat), w.heap[k]? = some (Obj.cells c t fr) → w'.heap[k]? = some (Obj.cells c t fr)
theorem KpT.below {t : TypeId} {w w' : World} (hb : Below w.heap.size w w') : KpT t w w' := fun k _ _ h => (hb.block k (Array.getElem?_eq_some_iff.1 h).1).trans h
theorem KpT.grown {t t' : TypeId} {w w' : World} {row : Option Nat} (hg : w.grownBy w' row) (hr : ∀ g, row = some g → ∃ c fr, w.heap[g]? = some (.cells c t' fr)) (hne : t ≠ t') : KpT t w w' := fun k c fr h => by
  refine (hg.block k (Array.getElem?_eq_some_iff.1 h).1 fun e => ?_).trans h
  obtain ⟨c', fr', h'⟩ := hr k e.symm
  rw [h] at h'
  injection h' with h1
  injection h1 with _ h2 _
  exact hne h2
theorem own_kp {w w' : World} {B : Nat} {e : TypeId} {s : Nat} {v : Value} {n : Nat} {xs : List Value} (h : w.ownsRow B e s v n xs) (hk : KpT e w w') : w'.ownsRow B e s v n xs := by
  refine ⟨h.1, ?_⟩
  rcases h.2 with h1 | ⟨g, cap, cur, h1, h2, h3, h4⟩
  · exact .inl h1
  · exact .inr ⟨g, cap, cur, h1, h2, hk _ _ _ h3, h4⟩
theorem own_typed {w : World} {B : Nat} {e : TypeId} {s : Nat} {v : Value} {n : Nat} {xs : List Value} (h : w.ownsRow B e s v n xs) : ∀ g, v.ownBlock = some g → ∃ c fr, w.heap[g]? = some (.cells c e fr) := fun g hg => by
  rcases h.2 with ⟨h1, -⟩ | ⟨g', cap, cur, h1, h2, h3, h4⟩
  · rw [h1] at hg; cases hg
  · rw [h1] at hg; cases hg; exact ⟨_, _, h3⟩
theorem own_from {w : World} {B : Nat} {e : TypeId} {s : Nat} {v : Value} {n : Nat} {xs : List Value} (h : w.ownsRow B e s v n xs) : ∀ g, v.ownBlock = some g → B ≤ g := fun g hg => by
  rcases h.2 with ⟨h1, -⟩ | ⟨g', cap, cur, h1, h2, h3, h4⟩
  · rw [h1] at hg; cases hg
  · rw [h1] at hg; cases hg; exact h2
theorem own_low {w : World} {B B' : Nat} {e : TypeId} {s : Nat} {v : Value} {n : Nat} {xs : List Value} (h : w.ownsRow B e s v n xs) (hb : B' ≤ B) : w.ownsRow B' e s v n xs := by
  refine ⟨h.1, ?_⟩
  rcases h.2 with h1 | ⟨g, cap, cur, h1, h2, h3⟩
  · exact .inl h1
  · exact .inr ⟨g, cap, cur, h1, Nat.le_trans hb h2, h3⟩
/-- A link as it lies there: the two, the list's value, the list. -/
abbrev PK : Type := Nat × Nat × Value × List Int
def kC : List PK → List Value
  | [] => []
  | p :: l => .int .i64 (p.1 : Nat) :: .int .i64 (p.2.1 : Nat) :: p.2.2.1 :: kC l
theorem kC_length : ∀ l, (kC l).length = l.length * 3
  | [] => rfl
  | p :: l => by
    show (kC l).length + 1 + 1 + 1 = (l.length + 1) * 3
    rw [kC_length l]; omega
theorem kC_append (p : PK) : ∀ l, kC (l ++ [p]) = kC l ++ [.int .i64 (p.1 : Nat), .int .i64 (p.2.1 : Nat), p.2.2.1]
  | [] => rfl
  | q :: l => by
    show _ :: _ :: _ :: kC (l ++ [p]) = _ :: _ :: _ :: (kC l ++ _)
    rw [kC_append p l]
def OwK (w : World) (B : Nat) (x : Value) (P : List PK) : Prop := w.ownsRow B 47 3 x P.length (kC P) ∧ ∀ p ∈ P, RwI w B p.2.2.1 p.2.2.2
theorem OwK.keep {w w' : World} {B : Nat} {x : Value} {P : List PK} (h : OwK w B x P) (h1 : KpT 47 w w') (h2 : KpT 3 w w') : OwK w' B x P := ⟨own_kp h.1 h1, fun p hp => own_kp (h.2 p hp) h2⟩
theorem Try.infoLink : (Try.prog.info? 47).map (fun i => (i.zero, i.size, i.bytes)) = some (some (.agg #[.int .i64 0, .int .i64 0, .slice none 0 0]), 3, 40) := by kernel_rfl
theorem wp_append_link {w : World} {o : Oper} {a : Act} {K : Act → World → Prop} {Q : Exit → Act → World → Prop} (s x : Operand)
    (ho : o.op = .call { callee := .builtin .append, args := #[s, x], argTypes := #[39, 39] }) (base : Nat) (v : Value) (P : List PK) (x1 x2 : Nat) (d : Option Addr) (nd cd : Nat) (hs : a.eval s = v) (hown : w.ownsRow base 47 3 v P.length (kC P)) (g : Nat) (hx : a.eval x = .slice (some ⟨g, 0, none⟩) 1 1) (hg0 : w.cell? ⟨g, 0, none⟩ = some (.int .i64 (x1 : Nat))) (hg1 : w.cell? ⟨g, 1, none⟩ = some (.int .i64 (x2 : Nat))) (hg2 : w.cell? ⟨g, 2, none⟩ = some (.slice d nd cd)) (hlen : P.length + 1 ≤ 1000) (hbase : base ≤ w.heap.size)
    (h : ∀ v' w', w'.ownsRow base 47 3 v' (P.length + 1) (kC P ++ [.int .i64 (x1 : Nat), .int .i64 (x2 : Nat), .slice d nd cd]) → w.grownBy w' v.ownBlock → K (a.put o.dst v') w') : o.wp Try.prog a w K Q := by
  obtain ⟨i0, hi0, hz0, hz1, hz2⟩ := info_parts Try.infoLink
  refine wp_append_own _ s x 39 ho base 47 i0 (.agg #[.int .i64 0, .int .i64 0, .slice none 0 0]) 3 40 Try.underlying39 hi0 hz0 hz1 hz2 rfl (by decide) v P.length _ hs hown ⟨g, 0, none⟩ 1 1 [.int .i64 (x1 : Nat), .int .i64 (x2 : Nat), .slice d nd cd] hx rfl ?_ ?_ (by unfold maxLen; omega) (by omega) hbase ?_
  · intro j u hj
    match j, hj with
    | 0, hj => cases hj; exact hg0
    | 1, hj => cases hj; exact hg1
    | 2, hj => cases hj; exact hg2
    | j + 3, hj => simp at hj
  · intro u hu
    simp only [List.mem_cons, List.not_mem_nil, or_false] at hu
    rcases hu with rfl | rfl | rfl <;> rfl
  · intro v' w' h1 h2 _
    exact h v' w' h1 h2
/-- What two cliques have in common. -/
def sepN (C : List (List Nat)) (i j : Nat) : List Nat := (C.getD i []).filter fun x => decide (x ∈ C.getD j [])
/-- Those that stand there behind t links. -/
def thR (C : List (List Nat)) : Nat → List Nat
  | 0 => [0]
  | t + 1 => (nrI C (thR C t) 8).b :: thR C t
def lkL (C : List (List Nat)) : Nat → List (Nat × Nat × List Int)
  | 0 => []
  | t + 1 => lkL C t ++ [((nrI C (thR C t) 8).a, (nrI C (thR C t) 8).b, memL (sepN C (nrI C (thR C t) 8).a (nrI C (thR C t) 8).b))]
theorem nrJ_lt {C : List (List Nat)} {s : List Nat} {i : Nat} {st : NSt} (hi : i < C.length) (ha : st.a < C.length) (hb : st.b < C.length) : ∀ j, j ≤ C.length → (nrJ C s i st j).a < C.length ∧ (nrJ C s i st j).b < C.length
  | 0, _ => ⟨ha, hb⟩
  | j + 1, hj => by
    rw [nrJ]
    split
    · exact ⟨hi, by show j < _; omega⟩
    · exact nrJ_lt hi ha hb j (by omega)
theorem nrI_lt {C : List (List Nat)} {s : List Nat} (h : 0 < C.length) (hs : ∀ u ∈ s, u < C.length) : ∀ k, (nrI C s k).a < C.length ∧ (nrI C s k).b < C.length
  | 0 => ⟨h, h⟩
  | k + 1 => by
    rw [nrI]
    split
    · rename_i hk
      exact nrJ_lt (hs k hk) (nrI_lt h hs k).1 (nrI_lt h hs k).2 _ (Nat.le_refl _)
    · exact nrI_lt h hs k
theorem thR_lt {C : List (List Nat)} (h : 0 < C.length) : ∀ t, ∀ u ∈ thR C t, u < C.length
  | 0, u, hu => by
    rcases List.mem_cons.1 hu with rfl | h'
    · exact h
    · cases h'
  | t + 1, u, hu => by
    rcases List.mem_cons.1 hu with rfl | h'
    · exact (nrI_lt h (thR_lt h t) 8).2
    · exact thR_lt h t u h'
def pk3 (p : PK) : Nat × Nat × List Int := (p.1, p.2.1, p.2.2.2)
/-- What link holds. -/
structure LkX (w : World) (C : List (List Nat)) (t : Nat) (x : Value) (P : List PK) (W : World) : Prop where
  own : OwK W w.heap.size x P
  ls : P.map pk3 = lkL C t
  len : P.length = t
  low : Below w.heap.size w W
theorem LkX.below {w : World} {C : List (List Nat)} {t : Nat} {x : Value} {P : List PK} {W W' : World} (h : LkX w C t x P W) (hb : Below W.heap.size W W') : LkX w C t x P W' := ⟨h.own.keep (KpT.below hb) (KpT.below hb), h.ls, h.len, h.low.trans (hb.mono h.low.size)⟩
theorem LkX.slice {w : World} {C : List (List Nat)} {t : Nat} {x : Value} {P : List PK} {W : World} (h : LkX w C t x P W) : ∃ d c, x = .slice d t c := by
  rcases h.own.1.2 with ⟨h1, h2⟩ | ⟨g', cap, cur, h1, h2⟩
  · exact ⟨none, 0, by rw [h1, ← h.len, h2]⟩
  · exact ⟨_, _, by rw [h1, ← h.len]⟩
theorem LkX.push {w : World} {C : List (List Nat)} {t : Nat} {x x' : Value} {P : List PK} {W W' : World} {d : Option Addr} {nd cd : Nat} (h : LkX w C t x P W) (hI : RwI W w.heap.size (.slice d nd cd) (memL (sepN C (nrI C (thR C t) 8).a (nrI C (thR C t) 8).b)))
    (h1 : W'.ownsRow w.heap.size 47 3 x' (P.length + 1) (kC P ++ [.int .i64 ((nrI C (thR C t) 8).a : Nat), .int .i64 ((nrI C (thR C t) 8).b : Nat), .slice d nd cd])) (hg : W.grownBy W' x.ownBlock) :
    LkX w C (t + 1) x' (P ++ [((nrI C (thR C t) 8).a, (nrI C (thR C t) 8).b, .slice d nd cd, memL (sepN C (nrI C (thR C t) 8).a (nrI C (thR C t) 8).b))]) W' := by
  have hk : KpT 3 W W' := KpT.grown hg (own_typed h.own.1) (by decide)
  refine ⟨⟨?_, ?_⟩, ?_, ?_, ?_⟩
  · rw [List.length_append, kC_append]
    exact h1
  · intro p hp
    rcases List.mem_append.1 hp with h' | h'
    · exact own_kp (h.own.2 p h') hk
    · rw [List.mem_singleton.1 h']
      exact own_kp hI hk
  · rw [List.map_append, h.ls]
    rfl
  · rw [List.length_append, h.len]
    rfl
  · exact h.low.grown hg h.low.size (fun k e => own_from h.own.1 k e)
/-- What link answers. -/
def LkR (w : World) (C : List (List Nat)) (e : Ending) (w' : World) : Prop := ∃ x P, e = .returned x ∧ LkX w C (C.length - 1) x P w'

set_option maxRecDepth 100000 in
set_option maxHeartbeats 4000000 in
theorem link_any (G m c : Nat) (C : List (List Nat)) (w : World) (hn : C.length = m + 1) (h8 : m < 8) (hG : G < w.heap.size) (hU : ∀ v, v < m + 1 → w.cell? ⟨G, v, none⟩ = some (.int .u32 (mskN (C.getD v []) : Nat))) (hC : ∀ p ∈ C, ∀ u ∈ p, u < 8) :
    Calls Try.prog 55 #[.slice (some ⟨G, 0, none⟩) (m + 1) c] w (LkR w C) := by
  obtain ⟨i0, hi0, hz0, hz1, hz2⟩ := info_parts Try.infoLink
  have HUU := hid hU
  have HNR : Hid (∀ (s : List Nat) (U : World), Below w.heap.size w U → (∀ u ∈ s, u < m + 1) → Calls Try.prog 80 #[.slice (some ⟨G, 0, none⟩) (m + 1) c, .int .u32 (mskN s : Nat)] U fun e w' => e = .returned (.tuple #[.int .i64 ((nrI C s 8).a : Nat), .int .i64 ((nrI C s 8).b : Nat)]) ∧ Below U.heap.size U w') := fun s U hb hs => nearest_any G (m + 1) c C s U hn h8 (Nat.lt_of_lt_of_le hG hb.size) (fun v hv => (hb.cell (p := ⟨G, v, none⟩) hG).trans (hU v hv)) hC hs
  have HAN := hid (fun i j => bits_and (C.getD i []) (C.getD j []) (getD_small hC i) (getD_small hC j))
  have HLI := hid (fun (i j : Nat) (U : World) => list_any (sepN C i j) U (fil_small (getD_small hC i) _))
  have HWI := hid (fun (s : List Nat) (v : Nat) (U : World) (hs : ∀ u ∈ s, u < m + 1) (hv : v < m + 1) => sWith_any s v U (fun u hu => by have := hs u hu; omega) (by omega))
  have HW0 := hid (fun (U : World) => sWith_any [] 0 U (fun _ h => by cases h) (by omega))
  have HTH : Hid (∀ t, ∀ u ∈ thR C t, u < m + 1) := fun t u hu => by rw [← hn]; exact thR_lt (by omega) t u hu
  have HLT : Hid (∀ s : List Nat, (∀ u ∈ s, u < m + 1) → (nrI C s 8).a < m + 1 ∧ (nrI C s 8).b < m + 1) := fun s hs => by rw [← hn]; exact nrI_lt (by omega) (by rw [hn]; exact hs) 8
  have hlen : C.length - 1 = m := by omega
  have HLEN := hid hlen
  clear hU hn hlen
  have hm : ((m + 1 : Nat) : Int) - 1 = (m : Int) := by omega
  go_enter Try.func55, Try.ntmps55
  go_wp2_with (first
    | (at_make; refine wpList_make_own _ rfl _ _ 39 rfl w.heap.size 47 i0 (.agg #[.int .i64 0, .int .i64 0, .slice none 0 0]) 3 Try.underlying39 hi0 hz0 hz1 .i64 .i64 _ m rfl rfl (by go_num) (by rw [hz2]; omega) (by unfold maxLen; omega) (Nat.le_refl _) ?_; intro w2 hown2 hgrow2))
  have HI : Hid (LkX w C 0 (.slice (some ⟨w.heap.size, 0, none⟩) 0 m) [] w2) := ⟨⟨hown2, fun p hp => by cases hp⟩, rfl, rfl, (Below.refl _ w).grown hgrow2 (Nat.le_refl _) (fun k e => by cases e)⟩
  clear hown2 hgrow2
  go_wp2_with fail
  refine (HW0.out _).mono ?_
  rintro e U ⟨rfl, hU⟩
  subst hU
  have HT0 : Hid (mskN (0 :: []) = mskN (thR C 0)) := rfl
  rw [HT0.out]
  go_wp2_with fail
  go_loopw [3, 4, 15] (fun xv sv iv wr => ∃ (t : Nat) (P : List PK), t ≤ m ∧ iv = .int .i64 t ∧ sv = .int .u32 (mskN (thR C t) : Nat) ∧ Hid (LkX w C t xv P wr)) (fun _ _ iv _ => m - (intOf iv).toNat)
  case atStart => exact ⟨0, [], Nat.zero_le _, rfl, rfl, HI⟩
  case round =>
    obtain ⟨t, P, ht, rfl, rfl, HX⟩ := hrel
    clear HI
    by_cases hlt : t < m
    · have HTt := hid (HTH.out t)
      have HN := hid (HNR.out (thR C t) wr HX.out.low HTt.out)
      have hLT := HLT.out (thR C t) HTt.out
      have HWt := hid (fun U => HWI.out (thR C t) (nrI C (thR C t) 8).b U HTt.out hLT.2)
      have HT1 : Hid (mskN ((nrI C (thR C t) 8).b :: thR C t) = mskN (thR C (t + 1))) := rfl
      obtain ⟨dx, cx, rfl⟩ := HX.out.slice
      have HPS := hid (fun (x' : Value) (W W' : World) (d : Option Addr) (nd cd : Nat) (h : LkX w C t (.slice dx t cx) P W) => LkX.push (x' := x') (W' := W') (d := d) (nd := nd) (cd := cd) h)
      have hAN := HAN.out (nrI C (thR C t) 8).a (nrI C (thR C t) 8).b
      have HLL := hid (HLI.out (nrI C (thR C t) 8).a (nrI C (thR C t) 8).b)
      have HMA := hid (HUU.out (nrI C (thR C t) 8).a hLT.1)
      have HMB := hid (HUU.out (nrI C (thR C t) 8).b hLT.2)
      rw [show ((C.getD (nrI C (thR C t) 8).a []).filter fun x => decide (x ∈ C.getD (nrI C (thR C t) 8).b [])) = sepN C (nrI C (thR C t) 8).a (nrI C (thR C t) 8).b from rfl] at hAN
      rw [HT1.out] at HWt
      generalize hth : thR C (t + 1) = th1 at *
      have HTE := hid hth
      clear hth
      generalize (nrI C (thR C t) 8).a = A at *
      generalize (nrI C (thR C t) 8).b = Bb at *
      have hA := hLT.1
      have hB := hLT.2
      clear hLT
      generalize hsp : memL (sepN C A Bb) = sp at *
      have HSP := hid hsp
      clear hsp
      generalize mskN (sepN C A Bb) = m2 at *
      generalize mskN (C.getD A []) = ma at *
      generalize mskN (C.getD Bb []) = mb at *
      generalize mskN (thR C t) = ms at *
      clear HT1
      go_wp2_with fail
      refine HN.out.mono ?_
      rintro e w1 ⟨rfl, hb⟩
      have hX1 := HX.out.below hb
      clear hb HX HN
      have ka := (hX1.low.cell (p := ⟨G, A, none⟩) hG).trans HMA.out
      have kb := (hX1.low.cell (p := ⟨G, Bb, none⟩) hG).trans HMB.out
      go_upto_region 6 with fail
      refine wp_region_held_drew (S := fun u => u.cell? ⟨G, A, none⟩ = some (.int .u32 (ma : Nat)) ∧ u.cell? ⟨G, Bb, none⟩ = some (.int .u32 (mb : Nat))) (by kernel_rfl) ⟨ka, kb⟩ (fun hSd => ?_)
      have hX2 := hX1.below (W' := w1.drew) ((Below.refl _ w1).drew)
      clear ka kb hX1
      generalize w1.drew = U0 at *
      (try simp only [List.getElem_toArray, List.getElem_cons_zero, List.getElem_cons_succ])
      (try simp only [Act.put, List.setIfInBounds_toArray, List.set_cons_zero, List.set_cons_succ])
      refine wpAnyH_take (i := 0) (oi := _) (v := .slice dx t cx) rfl (by kernel_rfl) (by kernel_rfl) (by kernel_rfl) (fun _ _ _ h => h) (Or.inl ⟨by rfl, ?_⟩) (by assumption) ?_
      · intro u' hSu
        (try simp only [List.getElem_toArray, List.getElem_cons_zero])
        go_simp
      (try simp only [List.getElem_toArray, List.getElem_cons_zero])
      (try simp only [Act.put, List.setIfInBounds_toArray, List.set_cons_zero, List.set_cons_succ])
      refine wpAnyH_take (i := 1) (oi := _) (v := .int .i64 (A : Nat)) rfl (by kernel_rfl) (by kernel_rfl) (by kernel_rfl) (fun _ _ _ h => h) (Or.inl ⟨by rfl, ?_⟩) (by assumption) ?_
      · intro u' hSu
        (try simp only [List.getElem_toArray, List.getElem_cons_zero, List.getElem_cons_succ])
        go_simp
      (try simp only [List.getElem_toArray, List.getElem_cons_zero, List.getElem_cons_succ])
      (try simp only [Act.put, List.setIfInBounds_toArray, List.set_cons_zero, List.set_cons_succ])
      refine wpAnyH_take (i := 2) (oi := _) (v := .int .i64 (Bb : Nat)) rfl (by kernel_rfl) (by kernel_rfl) (by kernel_rfl) (fun _ _ _ h => h) (Or.inl ⟨by rfl, ?_⟩) (by assumption) ?_
      · intro u' hSu
        (try simp only [List.getElem_toArray, List.getElem_cons_zero, List.getElem_cons_succ])
        go_simp
      (try simp only [List.getElem_toArray, List.getElem_cons_zero, List.getElem_cons_succ])
      (try simp only [Act.put, List.setIfInBounds_toArray, List.set_cons_zero, List.set_cons_succ])
      refine wpAnyH_take (i := 3) (oi := _) (v := .slice (some ⟨G, 0, none⟩) (m + 1) c) rfl (by kernel_rfl) (by kernel_rfl) (by kernel_rfl) (fun _ _ _ h => h) (Or.inl ⟨by rfl, ?_⟩) (by assumption) ?_
      · intro u' hSu
        (try simp only [List.getElem_toArray, List.getElem_cons_zero, List.getElem_cons_succ])
        go_simp
      (try simp only [List.getElem_toArray, List.getElem_cons_zero, List.getElem_cons_succ])
      (try simp only [Act.put, List.setIfInBounds_toArray, List.set_cons_zero, List.set_cons_succ])
      refine wpAnyH_take (i := 4) (oi := _) (v := .int .i64 (A : Nat)) rfl (by kernel_rfl) (by kernel_rfl) (by kernel_rfl) (fun _ _ _ h => h) (Or.inl ⟨by rfl, ?_⟩) (by assumption) ?_
      · intro u' hSu
        (try simp only [List.getElem_toArray, List.getElem_cons_zero, List.getElem_cons_succ])
        go_simp
      (try simp only [List.getElem_toArray, List.getElem_cons_zero, List.getElem_cons_succ])
      (try simp only [Act.put, List.setIfInBounds_toArray, List.set_cons_zero, List.set_cons_succ])
      refine wpAnyH_take (i := 5) (oi := _) (v := .pointer (some ⟨G, A, none⟩)) rfl (by kernel_rfl) (by kernel_rfl) (by kernel_rfl) (fun _ _ _ h => h) (Or.inl ⟨by rfl, ?_⟩) (by assumption) ?_
      · intro u' hSu
        (try simp only [List.getElem_toArray, List.getElem_cons_zero, List.getElem_cons_succ])
        go_simp
        intro hx
        omega
      (try simp only [List.getElem_toArray, List.getElem_cons_zero, List.getElem_cons_succ])
      (try simp only [Act.put, List.setIfInBounds_toArray, List.set_cons_zero, List.set_cons_succ])
      refine wpAnyH_take (i := 6) (oi := _) (v := .int .u32 (ma : Nat)) rfl (by kernel_rfl) (by kernel_rfl) (by kernel_rfl) (fun _ _ _ h => h) (Or.inl ⟨by rfl, ?_⟩) (by assumption) ?_
      · intro u' hSu
        (try simp only [List.getElem_toArray, List.getElem_cons_zero, List.getElem_cons_succ])
        obtain ⟨s0, s1⟩ := hSu
        go_simp
      (try simp only [List.getElem_toArray, List.getElem_cons_zero, List.getElem_cons_succ])
      (try simp only [Act.put, List.setIfInBounds_toArray, List.set_cons_zero, List.set_cons_succ])
      refine wpAnyH_take (i := 7) (oi := _) (v := .slice (some ⟨G, 0, none⟩) (m + 1) c) rfl (by kernel_rfl) (by kernel_rfl) (by kernel_rfl) (fun _ _ _ h => h) (Or.inl ⟨by rfl, ?_⟩) (by assumption) ?_
      · intro u' hSu
        (try simp only [List.getElem_toArray, List.getElem_cons_zero, List.getElem_cons_succ])
        go_simp
      (try simp only [List.getElem_toArray, List.getElem_cons_zero, List.getElem_cons_succ])
      (try simp only [Act.put, List.setIfInBounds_toArray, List.set_cons_zero, List.set_cons_succ])
      refine wpAnyH_take (i := 8) (oi := _) (v := .int .i64 (Bb : Nat)) rfl (by kernel_rfl) (by kernel_rfl) (by kernel_rfl) (fun _ _ _ h => h) (Or.inl ⟨by rfl, ?_⟩) (by assumption) ?_
      · intro u' hSu
        (try simp only [List.getElem_toArray, List.getElem_cons_zero, List.getElem_cons_succ])
        go_simp
      (try simp only [List.getElem_toArray, List.getElem_cons_zero, List.getElem_cons_succ])
      (try simp only [Act.put, List.setIfInBounds_toArray, List.set_cons_zero, List.set_cons_succ])
      refine wpAnyH_take (i := 9) (oi := _) (v := .pointer (some ⟨G, Bb, none⟩)) rfl (by kernel_rfl) (by kernel_rfl) (by kernel_rfl) (fun _ _ _ h => h) (Or.inl ⟨by rfl, ?_⟩) (by assumption) ?_
      · intro u' hSu
        (try simp only [List.getElem_toArray, List.getElem_cons_zero, List.getElem_cons_succ])
        go_simp
        intro hx
        omega
      (try simp only [List.getElem_toArray, List.getElem_cons_zero, List.getElem_cons_succ])
      (try simp only [Act.put, List.setIfInBounds_toArray, List.set_cons_zero, List.set_cons_succ])
      refine wpAnyH_take (i := 10) (oi := _) (v := .int .u32 (mb : Nat)) rfl (by kernel_rfl) (by kernel_rfl) (by kernel_rfl) (fun _ _ _ h => h) (Or.inl ⟨by rfl, ?_⟩) (by assumption) ?_
      · intro u' hSu
        (try simp only [List.getElem_toArray, List.getElem_cons_zero, List.getElem_cons_succ])
        obtain ⟨s0, s1⟩ := hSu
        go_simp
      (try simp only [List.getElem_toArray, List.getElem_cons_zero, List.getElem_cons_succ])
      (try simp only [Act.put, List.setIfInBounds_toArray, List.set_cons_zero, List.set_cons_succ])
      refine wpAnyH_take (i := 11) (oi := _) (v := .int .u32 (m2 : Nat)) rfl (by kernel_rfl) (by kernel_rfl) (by kernel_rfl) (fun _ _ _ h => h) (Or.inl ⟨by rfl, ?_⟩) (by assumption) ?_
      · intro u' hSu
        (try simp only [List.getElem_toArray, List.getElem_cons_zero, List.getElem_cons_succ])
        go_simp
      (try simp only [List.getElem_toArray, List.getElem_cons_zero, List.getElem_cons_succ])
      (try simp only [Act.put, List.setIfInBounds_toArray, List.set_cons_zero, List.set_cons_succ])
      refine wpAnyH_ready (rs := [12]) (by kernel_rfl) (by simp) (AllReadyH.cons rfl ?_ (AllReadyH.nil))
      · intro K' hK'
        (try simp only [List.getElem_toArray, List.getElem_cons_zero, List.getElem_cons_succ])
        go_simp
        refine (HLL.out _).mono ?_
        rintro e U1 ⟨v, rfl, hv, hb⟩
        rw [show iL (memU (sepN C A Bb) 8) = sp from HSP.out] at hv
        have hX3 := hX2.below hb
        obtain ⟨d, cd, rfl, -⟩ := hv.ints
        have hI3 := own_low hv hX2.low.size
        refine hK'.out _ _ ⟨(hX3.low.cell (p := ⟨G, A, none⟩) hG).trans HMA.out, (hX3.low.cell (p := ⟨G, Bb, none⟩) hG).trans HMB.out⟩ (fun hSe => ?_)
        clear hK' K' hSd hX2 hb hv
        have hSd := hSe
        clear hSe
        (try simp only [List.getElem_toArray, List.getElem_cons_zero, List.getElem_cons_succ])
        (try simp only [Act.put, List.setIfInBounds_toArray, List.set_cons_zero, List.set_cons_succ])
        refine wpAnyH_take (i := 13) (oi := _) (v := .agg #[.int .i64 (A : Nat), .int .i64 (Bb : Nat), .slice d sp.length cd]) rfl (by kernel_rfl) (by kernel_rfl) (by kernel_rfl) (fun _ _ _ h => h) (Or.inl ⟨by rfl, ?_⟩) (by assumption) ?_
        · intro u' hSu
          (try simp only [List.getElem_toArray, List.getElem_cons_zero, List.getElem_cons_succ])
          go_simp
        (try simp only [List.getElem_toArray, List.getElem_cons_zero, List.getElem_cons_succ])
        (try simp only [Act.put, List.setIfInBounds_toArray, List.set_cons_zero, List.set_cons_succ])
        refine wpAnyH_ready (rs := [14]) (by kernel_rfl) (by simp) (AllReadyH.cons rfl ?_ (AllReadyH.nil))
        · intro K' hK'
          (try simp only [List.getElem_toArray, List.getElem_cons_zero, List.getElem_cons_succ])
          go_simp
          have hbB := (Below.refl _ U1).alloc (Nat.le_refl _) (.cells #[.int .i64 (A : Nat), .int .i64 (Bb : Nat), .slice d sp.length cd] 47)
          have hX4 := hX3.below hbB
          have hI4 := own_kp hI3 (KpT.below hbB)
          have hnb := World.alloc_heap_new U1 (.cells #[.int .i64 (A : Nat), .int .i64 (Bb : Nat), .slice d sp.length cd] 47)
          have HC0 : (U1.alloc (.cells #[.int .i64 (A : Nat), .int .i64 (Bb : Nat), .slice d sp.length cd] 47)).cell? ⟨U1.heap.size, 0, none⟩ = some (.int .i64 (A : Nat)) := cell_of_row _ _ 0 _ _ _ hnb
          have HC1 : (U1.alloc (.cells #[.int .i64 (A : Nat), .int .i64 (Bb : Nat), .slice d sp.length cd] 47)).cell? ⟨U1.heap.size, 1, none⟩ = some (.int .i64 (Bb : Nat)) := cell_of_row _ _ 1 _ _ _ hnb
          have HC2 : (U1.alloc (.cells #[.int .i64 (A : Nat), .int .i64 (Bb : Nat), .slice d sp.length cd] 47)).cell? ⟨U1.heap.size, 2, none⟩ = some (.slice d sp.length cd) := cell_of_row _ _ 2 _ _ _ hnb
          refine hK'.out _ _ ⟨(hX4.low.cell (p := ⟨G, A, none⟩) hG).trans HMA.out, (hX4.low.cell (p := ⟨G, Bb, none⟩) hG).trans HMB.out⟩ (fun hSe => ?_)
          clear hK' K' hSd hX3 hI3 hbB hnb
          have hSd := hSe
          clear hSe
          generalize (U1.alloc (.cells #[.int .i64 (A : Nat), .int .i64 (Bb : Nat), .slice d sp.length cd] 47)) = U2 at *
          generalize U1.heap.size = BN at *
          (try simp only [List.getElem_toArray, List.getElem_cons_zero, List.getElem_cons_succ])
          (try simp only [Act.put, List.setIfInBounds_toArray, List.set_cons_zero, List.set_cons_succ])
          refine wpAnyH_ready (rs := [15]) (by kernel_rfl) (by simp) (AllReadyH.cons rfl ?_ (AllReadyH.nil))
          · intro K' hK'
            rw [if_pos (by rfl)]
            refine wp_append_link _ _ rfl w.heap.size _ P A Bb d sp.length cd rfl hX4.own.1 BN rfl HC0 HC1 HC2 (by have := hX4.len; omega) hX4.low.size ?_
            intro v' w9 hr9 hg9
            have hX5 := HPS.out _ _ _ _ _ _ hX4 hI4 hr9 hg9
            obtain ⟨d9, c9, rfl⟩ := hX5.slice
            refine hK'.out _ _ ⟨(hX5.low.cell (p := ⟨G, A, none⟩) hG).trans HMA.out, (hX5.low.cell (p := ⟨G, Bb, none⟩) hG).trans HMB.out⟩ (fun hSe => ?_)
            clear hK' K' hSd hX4 hI4 hr9 hg9 HC0 HC1 HC2
            have hSd := hSe
            clear hSe
            (try simp only [List.getElem_toArray, List.getElem_cons_zero, List.getElem_cons_succ])
            (try simp only [Act.put, List.setIfInBounds_toArray, List.set_cons_zero, List.set_cons_succ])
            refine wpAnyH_take (i := 16) (oi := _) (v := .slice d9 (t + 1) c9) rfl (by kernel_rfl) (by kernel_rfl) (by kernel_rfl) (fun _ _ _ h => h) (Or.inl ⟨by rfl, ?_⟩) (by assumption) ?_
            · intro u' hSu
              (try simp only [List.getElem_toArray, List.getElem_cons_zero, List.getElem_cons_succ])
              go_simp
            (try simp only [List.getElem_toArray, List.getElem_cons_zero, List.getElem_cons_succ])
            (try simp only [Act.put, List.setIfInBounds_toArray, List.set_cons_zero, List.set_cons_succ])
            refine wpAnyH_done (by kernel_rfl) ?_ _
            clear hSd
            have HX5 := hid hX5
            clear hX5
            go_wp2_with fail
            refine (HWt.out _).mono ?_
            rintro e U9 ⟨rfl, hU9⟩
            subst hU9
            go_wp2_with fail
            go_roundw
            case rel => exact ⟨t + 1, _, by omega, by go_num, by rw [HTE.out], HX5⟩
            case measure => simp [intOf]; omega
    · obtain rfl : t = m := by omega
      go_wp2
      go_ret
      exact ⟨_, P, rfl, by rw [HLEN.out]; exact HX.out⟩
end Go.Proofs.Ytockhhleapbpiaa

