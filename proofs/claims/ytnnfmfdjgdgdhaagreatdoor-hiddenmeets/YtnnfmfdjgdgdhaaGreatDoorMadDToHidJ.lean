/- The document's answer: a net under way. -/
import Derived.Test.YtnnfmfdjgdgdhaaGreatDoorMadBToCofI
import Derived.Test.YtnnfmfdjgdgdhaaGreatDoorHidEToSumM
namespace Go.Proofs.YtnnfmfdjgdgdhaaGreatDoor
open Go.RowKit Go.Shelf Go.Lib

theorem grown_low {w W W' : World} {v : Value} {n : Nat} {tt : TypeId} {sz0 : Nat} {xs : List Value} (hb : Below w.heap.size w W) (ho : W.ownsRow w.heap.size tt sz0 v n xs) (hg : W.grownBy W' v.ownBlock) : Below w.heap.size w W' := hb.grown hg hb.size (fun k e => owns_from ho k e)
/-- The variables made so far. -/
structure VK (v : Nat) (Vs : List PV) : Prop where
  len : Vs.length = v
  each : ∀ j (h : j < Vs.length), Vs[j].1 = nmB 110 j ∧ ∃ k, 1 ≤ k ∧ k ≤ 3 ∧ Vs[j].2.2 = valsN k
theorem VK.snoc {v : Nat} {Vs : List PV} (h : VK v Vs) (q : Value) {k : Nat} (h1 : 1 ≤ k) (h3 : k ≤ 3) : VK (v + 1) (Vs ++ [(nmB 110 v, q, valsN k)]) := by
  refine ⟨by simp [h.len], fun j hj => ?_⟩
  rcases Nat.lt_or_ge j Vs.length with hlt | hge
  · rw [List.getElem_append_left hlt]
    exact h.each j hlt
  · rw [List.getElem_append_right hge]
    have e : j = v := by simp at hj; have := h.len; omega
    subst e
    simp [h.len]
    exact ⟨k, h1, h3, rfl⟩
def vOf (Vs : List PV) : List Vr := Vs.map fun p => (p.1, p.2.2)
def lOf (Ls : List PL) : List (List Int) := Ls.map (·.2)
def rOf (Rs : List PR) : List (List Fr) := Rs.map (·.2)
/-- What parents may be. -/
structure ParOK (bk : Bool) (n j : Nat) (l : List Int) : Prop where
  up : Up l n
  few : l.length ≤ 3
  rank : ∀ x ∈ l, if bk = true then (j : Int) < x else x < (j : Int)
/-- What a variable's rows are. -/
structure RowOK (S : List Nat) (j : Nat) (l : List Int) (r : List Fr) : Prop where
  len : r.length = cnt S (toN l) * sz S j
  rows : ∀ i, i < cnt S (toN l) → rowB (chunkF r (sz S j) i) = true
  small : ∀ f ∈ r, f.2.1.size + f.2.2.size ≤ 2
structure LK2 (bk : Bool) (n v : Nat) (S : List Nat) (Ls : List PL) (Rs : List PR) : Prop where
  len : Ls.length = v
  lenR : Rs.length = v
  pars : ∀ j (h : j < Ls.length), ParOK bk n j Ls[j].2
  rows : ∀ j (h : j < Ls.length) (h' : j < Rs.length), RowOK S j Ls[j].2 Rs[j].2
theorem LK2.snoc {bk : Bool} {n v : Nat} {S : List Nat} {Ls : List PL} {Rs : List PR} (h : LK2 bk n v S Ls Rs) {q q' : Value} {l : List Int} {r : List Fr} (h1 : ParOK bk n v l) (h2 : RowOK S v l r) : LK2 bk n (v + 1) S (Ls ++ [(q, l)]) (Rs ++ [(q', r)]) := by
  refine ⟨by simp [h.len], by simp [h.lenR], fun j hj => ?_, fun j hj hj' => ?_⟩
  · rcases Nat.lt_or_ge j Ls.length with hlt | hge
    · rw [List.getElem_append_left hlt]
      exact h.pars j hlt
    · rw [List.getElem_append_right hge]
      have e : j = v := by simp at hj; have := h.len; omega
      subst e
      simpa [h.len] using h1
  · rcases Nat.lt_or_ge j Ls.length with hlt | hge
    · have hlt' : j < Rs.length := by have := h.len; have := h.lenR; omega
      rw [List.getElem_append_left hlt, List.getElem_append_left hlt']
      exact h.rows j hlt hlt'
    · have hge' : Rs.length ≤ j := by have := h.len; have := h.lenR; omega
      rw [List.getElem_append_right hge, List.getElem_append_right hge']
      have e : j = v := by simp at hj; have := h.len; omega
      subst e
      simpa [h.len, h.lenR] using h2
/-- Parents under way. -/
structure PP (bk : Bool) (n v u : Nat) (l : List Int) : Prop where
  ok : ParOK bk n v l
  lt : ∀ x ∈ l, x < (u : Int)
theorem PP.nil (bk : Bool) (n v : Nat) : PP bk n v 0 [] := ⟨⟨up_iff.2 ⟨fun x hx => (List.not_mem_nil hx).elim, List.Pairwise.nil⟩, by simp, fun x hx => (List.not_mem_nil hx).elim⟩, fun x hx => (List.not_mem_nil hx).elim⟩
theorem PP.skip {bk : Bool} {n v u : Nat} {l : List Int} (h : PP bk n v u l) : PP bk n v (u + 1) l := ⟨h.ok, fun x hx => by have := h.lt x hx; omega⟩
theorem PP.snoc {bk : Bool} {n v u : Nat} {l : List Int} (h : PP bk n v u l) (hu : u < n) (h3 : l.length ≠ 3) (hr : if bk = true then v < u else u < v) : PP bk n v (u + 1) (l ++ [(u : Int)]) := by
  refine ⟨⟨up_iff.2 ⟨fun x hx => ?_, ?_⟩, ?_, fun x hx => ?_⟩, fun x hx => ?_⟩
  · rcases List.mem_append.1 hx with hx | hx
    · exact (up_iff.1 h.ok.up).1 x hx
    · rw [List.mem_singleton.1 hx]; omega
  · rw [List.pairwise_append]
    refine ⟨(up_iff.1 h.ok.up).2, List.pairwise_singleton _ _, fun x hx y hy => ?_⟩
    rw [List.mem_singleton.1 hy]
    exact h.lt x hx
  · have := h.ok.few
    simp
    omega
  · rcases List.mem_append.1 hx with hx | hx
    · exact h.ok.rank x hx
    · rw [List.mem_singleton.1 hx]
      cases bk
      · simp at hr ⊢; exact hr
      · simp at hr ⊢; exact hr
  · rcases List.mem_append.1 hx with hx | hx
    · have := h.lt x hx; omega
    · rw [List.mem_singleton.1 hx]; omega
/-- Rows under way. -/
structure RP (s k : Nat) (r : List Fr) : Prop where
  len : r.length = k * s
  rows : ∀ i, i < k → rowB (chunkF r s i) = true
  small : ∀ f ∈ r, f.2.1.size + f.2.2.size ≤ 2
theorem RP.nil (s : Nat) : RP s 0 [] := ⟨by simp, fun i hi => by omega, fun f hf => by cases hf⟩
theorem RP.snoc {s k : Nat} {r l : List Fr} (h : RP s k r) (hl : l.length = s) (hrow : rowB l = true) (hsm : ∀ f ∈ l, f.2.1.size + f.2.2.size ≤ 2) : RP s (k + 1) (r ++ l) := by
  refine ⟨by rw [List.length_append, h.len, hl, Nat.add_mul, Nat.one_mul], fun i hi => ?_, fun f hf => ?_⟩
  · have hm : i * s + s ≤ k * s ∨ i = k := by
      rcases Nat.lt_or_ge i k with h1 | h1
      · left
        have := Nat.mul_le_mul_right s h1
        rw [Nat.succ_mul] at this
        exact this
      · right; omega
    rcases hm with hm | rfl
    · have hik : i < k := by
        rcases Nat.lt_or_ge i k with h1 | h1
        · exact h1
        · have h2 := Nat.mul_le_mul_right s h1
          by_cases hs0 : s = 0
          · subst hs0
            have : l = [] := List.length_eq_zero_iff.1 hl
            subst this
            exact absurd hrow (by decide)
          · omega
      have e : chunkF (r ++ l) s i = chunkF r s i := by
        rw [chunkF, chunkF, List.drop_append_of_le_length (by rw [h.len]; omega), List.take_append_of_le_length (by rw [List.length_drop, h.len]; omega)]
      rw [e]
      exact h.rows i hik
    · have e : chunkF (r ++ l) s i = l := by
        rw [chunkF, ← h.len, List.drop_left, ← hl, List.take_length]
      rw [e]
      exact hrow
  · rcases List.mem_append.1 hf with hf | hf
    · exact h.small f hf
    · exact hsm f hf
theorem OwL.pars {W : World} {B : Nat} {y : Value} {Ls : List PL} (h : OwL W B y Ls) : ∃ a c, y = .slice a (lOf Ls).length c ∧ LsS W a (lOf Ls) ∧ LsN W a (lOf Ls) := by
  have hl : (lOf Ls).length = Ls.length := by simp [lOf]
  obtain ⟨a, c, rfl, _⟩ := owns_slice h.1
  have key : ∀ k (hk : k < Ls.length), ∃ g, a = some ⟨g, 0, none⟩ ∧ g < W.heap.size ∧ ∃ b cb, W.cell? ⟨g, k, none⟩ = some (.slice b Ls[k].2.length cb) ∧ IntS W b Ls[k].2 ∧ (b = none → cb = 0) := fun k hk => by
    obtain ⟨g, rfl, hg, c1⟩ := owns_cell h.1 (j := k) (by simpa using hk)
    have hin := h.2 Ls[k] (List.getElem_mem hk)
    obtain ⟨b, cb, eb, hn⟩ := owns_slice hin
    obtain ⟨b', cb', eb', hst⟩ := hin.ints
    rw [eb] at eb'
    cases eb'
    refine ⟨g, rfl, hg, b, cb, ?_, hst, hn⟩
    rw [c1]
    simp [eb]
  refine ⟨a, c, by rw [hl], fun k hk => ?_, fun k hk g o b n' c' ea hc hn => ?_⟩
  · rw [hl] at hk
    obtain ⟨g, rfl, hg, b, cb, c1, hst, _⟩ := key k hk
    exact ⟨g, 0, b, cb, rfl, hg, by rw [Nat.zero_add, c1]; simp [lOf], by simpa [lOf] using hst⟩
  · rw [hl] at hk
    obtain ⟨g', e', _, b', cb', c1, _, h0⟩ := key k hk
    rw [ea] at e'
    cases e'
    rw [Nat.zero_add, c1] at hc
    cases hc
    exact h0 hn
theorem OwR.rows {W : World} {B : Nat} {z : Value} {Rs : List PR} (h : OwR W B z Rs) : ∃ a c, z = .slice a (rOf Rs).length c ∧ FsS W a (rOf Rs) := by
  have hl : (rOf Rs).length = Rs.length := by simp [rOf]
  obtain ⟨a, c, rfl, _⟩ := owns_slice h.1
  refine ⟨a, c, by rw [hl], fun k hk => ?_⟩
  rw [hl] at hk
  obtain ⟨g, rfl, hg, c1⟩ := owns_cell h.1 (j := k) (by simpa using hk)
  have hin := h.2 Rs[k] (List.getElem_mem hk)
  obtain ⟨b, cb, eb, hst⟩ := hin.fr
  have hcap : Rs[k].2.length ≤ cb := by
    rcases hin.2 with ⟨h1, h2⟩ | ⟨g2, cap, cur, h1, _, _, h4, _⟩
    · omega
    · rw [eb] at h1
      injection h1 with _ _ h6
      omega
  exact ⟨g, 0, b, cb, rfl, hg, by rw [Nat.zero_add, c1]; simp [rOf, eb], by simpa [rOf] using hst, by simpa [rOf] using hcap⟩
/-- What the sizes are. -/
structure SK (n : Nat) (S : List Nat) : Prop where
  len : S.length = n
  each : ∀ x ∈ S, 1 ≤ x ∧ x ≤ 3
theorem VK.sizes {n : Nat} {Vs : List PV} (h : VK n Vs) : SK n (sizesN (vOf Vs)) := by
  refine ⟨by simp [sizesN, vOf, h.len], fun x hx => ?_⟩
  obtain ⟨p, hp, rfl⟩ := List.mem_map.1 hx
  obtain ⟨q, hq, rfl⟩ := List.mem_map.1 hp
  obtain ⟨j, hj, rfl⟩ := List.getElem_of_mem hq
  obtain ⟨_, k, h1, h3, e⟩ := h.each j hj
  show 1 ≤ Vs[j].2.2.length ∧ Vs[j].2.2.length ≤ 3
  rw [e, valsN_length]
  exact ⟨h1, h3⟩
theorem SK.fine {n : Nat} {S : List Nat} (h : SK n S) (h1 : 1 ≤ n) (h8 : n ≤ 8) : Fine (iL S) := by
  have hl := h.len
  refine ⟨by rw [iL_length]; omega, by rw [iL_length]; omega, fun v hv => ?_⟩
  have hv' : v < S.length := by rw [iL_length] at hv; exact hv
  have e : (iL S)[v] = ((S[v]'hv' : Nat) : Int) := by simp [iL]
  have := h.each _ (List.getElem_mem hv')
  rw [e]
  omega
theorem SK.sz {n : Nat} {S : List Nat} (h : SK n S) (u : Nat) : 1 ≤ sz S u ∧ sz S u ≤ 3 := by
  rw [Go.Proofs.YtnnfmfdjgdgdhaaGreatDoor.sz]
  cases e : S[u]? with
  | none => exact ⟨by decide, by decide⟩
  | some x => exact h.each x (List.mem_of_getElem? e)
theorem cnt_27 {n : Nat} {S : List Nat} (h : SK n S) {l : List Nat} (hl : l.length ≤ 3) : 1 ≤ cnt S l ∧ cnt S l ≤ 27 := by
  have h1 := cnt_three (S := S) (fun v => (h.sz v).2) l
  have h2 : 3 ^ l.length ≤ 3 ^ 3 := Nat.pow_le_pow_right (by omega) hl
  have h3 : ∀ l : List Nat, 1 ≤ cnt S l := fun l => by
    induction l with
    | nil => exact Nat.le_refl _
    | cons v l ih => exact Nat.mul_pos (h.sz v).1 ih
  exact ⟨h3 l, by omega⟩
end Go.Proofs.YtnnfmfdjgdgdhaaGreatDoor


/- The document's answer: a hidden chain of raw numbers; the law's signs. -/
namespace Go.Proofs.YtnnfmfdjgdgdhaaGreatDoor
open Go.RowKit Go.Shelf Go.Lib

theorem HBox.set1 {w : World} {g : Nat} {x y z : Value} (h : HBox w g x y z) (v : Value) : HBox (w.setCell ⟨g, 1, none⟩ v) g x v z := by
  have h1 : (w.setCell ⟨g, 1, none⟩ v).heap[g]? = some (.cells (#[x, y, z].setIfInBounds 1 v) 27 (0, 0)) := heap_setCell_same w g 1 _ _ _ h
  exact h1
theorem HBox.set2 {w : World} {g : Nat} {x y z : Value} (h : HBox w g x y z) (v : Value) : HBox (w.setCell ⟨g, 2, none⟩ v) g x y v := by
  have h1 : (w.setCell ⟨g, 2, none⟩ v).heap[g]? = some (.cells (#[x, y, z].setIfInBounds 2 v) 27 (0, 0)) := heap_setCell_same w g 2 _ _ _ h
  exact h1
theorem HBox.set3 {w : World} {g : Nat} {x y z : Value} (h : HBox w g x y z) (a b c : Value) : HBox (((w.setCell ⟨g, 0, none⟩ a).setCell ⟨g, 1, none⟩ b).setCell ⟨g, 2, none⟩ c) g a b c := by
  have h1 : (w.setCell ⟨g, 0, none⟩ a).heap[g]? = some (.cells (#[x, y, z].setIfInBounds 0 a) 27 (0, 0)) := heap_setCell_same w g 0 _ _ _ h
  have h2 : HBox (w.setCell ⟨g, 0, none⟩ a) g a y z := h1
  exact (h2.set1 b).set2 c
theorem HBox.fz {w : World} {g : Nat} {x y z : Value} (h : HBox w g x y z) (j : Nat) : w.frozen? ⟨g, j, none⟩ = false := frozen_of_row w g j _ _ h
theorem HBox.result {w : World} {g : Nat} {x y z : Value} (h : HBox w g x y z) {fn : Func} {p : Tmp} (hr : fn.results = #[.cell p 27]) (tmps : Array Value) (hp : tmps.getD p undef = .pointer (some ⟨g, 0, none⟩)) :
    (results fn tmps).run Tryz.prog w = .ok (.agg #[x, y, z]) w :=
  results_cell_row hr tmps w g _ _ _ _ hp h Tryz.underlying27 rfl (by kernel_rfl)
/-- Two rows whose first cells differ lie in two blocks. -/
theorem owns_apart {w : World} {B B' : Nat} {v v' x x' : Value} {n n' : Nat} {xs xs' : List Value} (h : w.ownsRow B 24 1 v n (x :: xs)) (h' : w.ownsRow B' 24 1 v' n' (x' :: xs')) (hne : x ≠ x') : ∀ g, v'.ownBlock = some g → v.ownBlock ≠ some g := fun g hg hg' => by
  rcases h.2 with ⟨h1, _⟩ | ⟨g1, cap, cur, h1, _, h3, _, _, _, h7⟩
  · rw [h1] at hg'; cases hg'
  · rcases h'.2 with ⟨k1, _⟩ | ⟨g2, cap', cur', k1, _, k3, _, _, _, k7⟩
    · rw [k1] at hg; cases hg
    · rw [h1] at hg'
      rw [k1] at hg
      cases hg
      cases hg'
      rw [h3] at k3
      cases k3
      have e1 : cur.toList[0]? = some x := by
        have : (cur.toList.take (n * 1))[0]? = some x := by rw [h7]; rfl
        rw [List.getElem?_take] at this
        by_cases hn : 0 < n * 1
        · rwa [if_pos hn] at this
        · rw [if_neg hn] at this; cases this
      have e2 : cur.toList[0]? = some x' := by
        have : (cur.toList.take (n' * 1))[0]? = some x' := by rw [k7]; rfl
        rw [List.getElem?_take] at this
        by_cases hn : 0 < n' * 1
        · rwa [if_pos hn] at this
        · rw [if_neg hn] at this; cases this
      rw [e1] at e2
      cases e2
      exact hne rfl
/-- A hidden chain under way. -/
structure HoS (w : World) (gB : Nat) (x y z : Value) (l : List Fr) (P1 P2 : List PR) (U : World) : Prop where
  bx : HBox U gB x y z
  rb : HBox U w.heap.size (.slice none 0 0) (.slice none 0 0) (.slice none 0 0)
  st : RwF U w.heap.size x l
  mv : OwR U w.heap.size y P1
  sh : OwR U w.heap.size z P2
  gb : w.heap.size < gB
  bel : Below w.heap.size w U
theorem HoS.step {w U U' : World} {gB : Nat} {x y z : Value} {l : List Fr} {P1 P2 : List PR} (h : HoS w gB x y z l P1 P2 U) (hb : Below U.heap.size U U') : HoS w gB x y z l P1 P2 U' :=
  ⟨h.bx.below hb h.bx.lt, h.rb.below hb h.rb.lt, h.st.below hb, h.mv.keep (KeepT.below hb) (KeepT.below hb), h.sh.keep (KeepT.below hb) (KeepT.below hb), h.gb, h.bel.trans (hb.mono h.bel.size)⟩
theorem OwR.other {w w' : World} {B : Nat} {y z : Value} {P : List PR} (h : OwR w B z P) (hg : w.grownBy w' y.ownBlock) (hk : KeepT 32 w w') (hd : ∀ g, z.ownBlock = some g → y.ownBlock ≠ some g) : OwR w' B z P := by
  refine ⟨⟨h.1.1, ?_⟩, fun p hp => owns_keep (h.2 p hp) hk⟩
  rcases h.1.2 with h1 | ⟨g, cap, cur, h1, h2, h3, h4⟩
  · exact .inl h1
  · exact .inr ⟨g, cap, cur, h1, h2, (hg.block g (Array.getElem?_eq_some_iff.1 h3).1 (fun e => hd g (by rw [h1]; rfl) e.symm)).trans h3, h4⟩
theorem HoS.pushM {w U U' : World} {gB : Nat} {x y z : Value} {l : List Fr} {P1 P2 : List PR} (h : HoS w gB x y z l P1 P2 U) {v' q : Value} {r : List Fr} (hr : U'.ownsRow w.heap.size 24 1 v' (P1.length + 1) (P1.map (·.1) ++ [q])) (hg : U.grownBy U' y.ownBlock) (hq : RwF U w.heap.size q r) (hd : ∀ g, z.ownBlock = some g → y.ownBlock ≠ some g) :
    HBox U' gB x y z ∧ HoS w gB x v' z l (P1 ++ [(q, r)]) P2 (U'.setCell ⟨gB, 1, none⟩ v') := by
  have kk : ∀ tt : TypeId, tt ≠ 24 → KeepT tt U U' := fun tt hne => KeepT.grown hg (owns_typed h.mv.1) hne
  have hbox : HBox U' gB x y z := kk 27 (by decide) _ _ _ h.bx
  have ks : ∀ tt : TypeId, tt ≠ 27 → KeepT tt U' (U'.setCell ⟨gB, 1, none⟩ v') := fun tt hne => KeepT.set hbox hne 1 v'
  have hgb := h.gb
  refine ⟨hbox, hbox.set1 v', ?_, ?_, ⟨?_, ?_⟩, ?_, h.gb, ?_⟩
  · exact (Below.heap_setCell U' ⟨gB, 1, none⟩ v' w.heap.size (by show w.heap.size ≠ gB; omega)).trans (kk 27 (by decide) _ _ _ h.rb)
  · exact owns_keep h.st ((kk 32 (by decide)).trans (ks 32 (by decide)))
  · rw [List.map_append, List.length_append]
    exact owns_keep hr (ks 24 (by decide))
  · intro p hp
    have hk := (kk 32 (by decide)).trans (ks 32 (by decide))
    rcases List.mem_append.1 hp with hp | hp
    · exact owns_keep (h.mv.2 p hp) hk
    · rw [List.mem_singleton.1 hp]
      exact owns_keep hq hk
  · exact (h.sh.other hg (kk 32 (by decide)) hd).keep (ks 24 (by decide)) (ks 32 (by decide))
  · exact (grown_low h.bel h.mv.1 hg).setCell (p := ⟨gB, 1, none⟩) (by show w.heap.size ≤ gB; omega) _
theorem HoS.pushS {w U U' : World} {gB : Nat} {x y z : Value} {l : List Fr} {P1 P2 : List PR} (h : HoS w gB x y z l P1 P2 U) {v' q : Value} {r : List Fr} (hr : U'.ownsRow w.heap.size 24 1 v' (P2.length + 1) (P2.map (·.1) ++ [q])) (hg : U.grownBy U' z.ownBlock) (hq : RwF U w.heap.size q r) (hd : ∀ g, y.ownBlock = some g → z.ownBlock ≠ some g) :
    HBox U' gB x y z ∧ HoS w gB x y v' l P1 (P2 ++ [(q, r)]) (U'.setCell ⟨gB, 2, none⟩ v') := by
  have kk : ∀ tt : TypeId, tt ≠ 24 → KeepT tt U U' := fun tt hne => KeepT.grown hg (owns_typed h.sh.1) hne
  have hbox : HBox U' gB x y z := kk 27 (by decide) _ _ _ h.bx
  have ks : ∀ tt : TypeId, tt ≠ 27 → KeepT tt U' (U'.setCell ⟨gB, 2, none⟩ v') := fun tt hne => KeepT.set hbox hne 2 v'
  have hgb := h.gb
  refine ⟨hbox, hbox.set2 v', ?_, ?_, ?_, ⟨?_, ?_⟩, h.gb, ?_⟩
  · exact (Below.heap_setCell U' ⟨gB, 2, none⟩ v' w.heap.size (by show w.heap.size ≠ gB; omega)).trans (kk 27 (by decide) _ _ _ h.rb)
  · exact owns_keep h.st ((kk 32 (by decide)).trans (ks 32 (by decide)))
  · exact (h.mv.other hg (kk 32 (by decide)) hd).keep (ks 24 (by decide)) (ks 32 (by decide))
  · rw [List.map_append, List.length_append]
    exact owns_keep hr (ks 24 (by decide))
  · intro p hp
    have hk := (kk 32 (by decide)).trans (ks 32 (by decide))
    rcases List.mem_append.1 hp with hp | hp
    · exact owns_keep (h.sh.2 p hp) hk
    · rw [List.mem_singleton.1 hp]
      exact owns_keep hq hk
  · exact (grown_low h.bel h.sh.1 hg).setCell (p := ⟨gB, 2, none⟩) (by show w.heap.size ≤ gB; omega) _
/-- Both are empty, or their first rows lie apart. -/
def Hd (y z : Value) (P1 P2 : List PR) : Prop := (P1 = [] ∧ P2 = [] ∧ y = .slice none 0 0 ∧ z = .slice none 0 0) ∨ ∃ p Q1 q Q2, P1 = p :: Q1 ∧ P2 = q :: Q2 ∧ p.1 ≠ q.1
theorem Hd.first {w U : World} {gB : Nat} {x y z : Value} {l : List Fr} {P1 P2 : List PR} (h : HoS w gB x y z l P1 P2 U) (hd : Hd y z P1 P2) : ∀ g, z.ownBlock = some g → y.ownBlock ≠ some g := by
  rcases hd with ⟨_, _, _, rfl⟩ | ⟨p, Q1, q, Q2, rfl, rfl, hne⟩
  · intro g hg; cases hg
  · exact owns_apart h.mv.1 h.sh.1 hne
theorem Hd.second {w U : World} {gB : Nat} {x y z y' : Value} {l : List Fr} {P1 P2 : List PR} {a b : PR} (h : HoS w gB x y' z l (P1 ++ [a]) P2 U) (hd : Hd y z P1 P2) : (∀ g, y'.ownBlock = some g → z.ownBlock ≠ some g) ∧ (a.1 ≠ b.1 → ∀ z', Hd y' z' (P1 ++ [a]) (P2 ++ [b])) := by
  rcases hd with ⟨rfl, rfl, _, rfl⟩ | ⟨p, Q1, q, Q2, rfl, rfl, hne⟩
  · refine ⟨fun g _ hg => (by cases hg), fun hab z' => .inr ⟨a, [], b, [], rfl, rfl, hab⟩⟩
  · refine ⟨fun g h1 h2 => owns_apart h.mv.1 h.sh.1 hne g h2 h1, fun _ z' => .inr ⟨p, Q1 ++ [a], q, Q2 ++ [b], rfl, rfl, hne⟩⟩
/-- Rows of raw weights, of so many each. -/
def RwP (i k : Nat) (P : List PR) : Prop := P.length = i ∧ ∀ p ∈ P, ∃ Ls, p.2 = rawF Ls ∧ Wts Ls k ∧ 1 ≤ Ls.sum
theorem RwP.push {i k : Nat} {P : List PR} (h : RwP i k P) (q : Value) {Ls : List Nat} (h1 : Wts Ls k) (h2 : 1 ≤ Ls.sum) : RwP (i + 1) k (P ++ [(q, rawF Ls)]) := by
  refine ⟨by rw [List.length_append, h.1]; rfl, fun p hp => ?_⟩
  rcases List.mem_append.1 hp with hp | hp
  · exact h.2 p hp
  · rw [List.mem_singleton.1 hp]
    exact ⟨Ls, rfl, h1, h2⟩
theorem RwF.apart {w : World} {B B' : Nat} {v v' : Value} {l l' : List Fr} (h : RwF w B v l) (h' : RwF w B' v' l') (h1 : 1 ≤ l.length) (h2 : 1 ≤ l'.length) (hb : ∀ g, v.ownBlock = some g → g < B') : v ≠ v' := fun e => by
  subst e
  rcases h.2 with ⟨_, k⟩ | ⟨g, cap, cur, e1, _⟩
  · omega
  · have h3 := hb g (by rw [e1]; rfl)
    have h4 : B' ≤ g := by
      rcases h'.2 with ⟨_, k⟩ | ⟨g', cap', cur', e2, k2, _⟩
      · omega
      · rw [e1] at e2
        injection e2 with e3 _ _
        injection e3 with e4
        injection e4 with e5 _ _
        rw [e5]
        exact k2
    omega

set_option maxRecDepth 100000 in
set_option maxHeartbeats 2000000 in
theorem hiddenOf_any (d : Option Addr) (cd n m : Nat) (W : List Int) (w : World) (hW : IntS w d W) (hr : ∀ x ∈ W, -9223372036854775808 ≤ x ∧ x ≤ 9223372036854775807) (hWl : W.length ≤ 140737488355328) (hn1 : 1 ≤ n) (hn : n ≤ 4) (hm1 : 1 ≤ m) (hm : m ≤ 4) :
    Calls Tryz.prog 5 #[.slice d W.length cd, .int .i64 (n : Nat), .int .i64 (m : Nat)] w fun e w' => ∃ (x y z : Value) (Ls : List Nat) (P1 P2 : List PR), e = .returned (.agg #[x, y, z]) ∧ Wts Ls n ∧ 1 ≤ Ls.sum ∧ RwF w' w.heap.size x (rawF Ls) ∧ OwR w' w.heap.size y P1 ∧ OwR w' w.heap.size z P2 ∧ RwP n n P1 ∧ RwP n m P2 ∧ Below w.heap.size w w' := by
  have HROW := hid (fun (k : Nat) (hk : k ≤ 100000) (j : Nat) (h1 : 1 ≤ j) (h4 : j ≤ 4) (U : World) (hU : IntS U d W) => rowOf_any d cd k j W U hU hr hk h1 (by omega) hWl)
  have HW := hid hW
  clear hW hr
  have hrb := HBox.new w (.slice none 0 0) (.slice none 0 0) (.slice none 0 0)
  have hA := (Below.refl w.heap.size w).alloc (Nat.le_refl _) (HC3 (.slice none 0 0) (.slice none 0 0) (.slice none 0 0))
  go_enter Tryz.func5, Tryz.ntmps5
  go_wp2_with fail
  generalize (w.alloc (HC3 (.slice none 0 0) (.slice none 0 0) (.slice none 0 0))) = w0 at *
  refine (HROW.out 0 (by omega) n hn1 hn _ (HW.out.below hA)).mono ?_
  rintro e w1 ⟨x, Ls, rfl, hx, hwt, hs1, hb1⟩
  obtain ⟨dx, nx, cx, rfl⟩ := hx.slv
  have HWT := hid hwt
  have HS1 := hid hs1
  have hA1 := hA.trans (hb1.mono hA.size)
  have hrb1 := hrb.below hb1 hrb.lt
  have hbl : w.heap.size < w1.heap.size := hrb1.lt
  have HK0 : Hid (HoS w w1.heap.size (.slice dx nx cx) (.slice none 0 0) (.slice none 0 0) (rawF Ls) [] [] (w1.alloc (HC3 (.slice dx nx cx) (.slice none 0 0) (.slice none 0 0)))) := by
    have hst := (Below.refl w1.heap.size w1).alloc (Nat.le_refl _) (HC3 (.slice dx nx cx) (.slice none 0 0) (.slice none 0 0))
    exact ⟨HBox.new w1 _ _ _, hrb1.below hst hrb1.lt, (hx.lower hA.size).below hst, OwR.nil _ _, OwR.nil _ _, hbl, hA1.trans (hst.mono hA1.size)⟩
  clear hx hwt hs1 hb1 hA hrb hA1 hrb1
  go_wp2_with fail
  generalize (w1.alloc (HC3 (.slice dx nx cx) (.slice none 0 0) (.slice none 0 0))) = w2 at *
  generalize w1.heap.size = gB at *
  go_loopw [8] (fun iv wr => ∃ i : Nat, i ≤ n ∧ iv = .int .i64 i ∧ ∃ (y z : Value) (P1 P2 : List PR), Hid (HoS w gB (.slice dx nx cx) y z (rawF Ls) P1 P2 wr) ∧ Hid (Hd y z P1 P2) ∧ Hid (RwP i n P1) ∧ Hid (RwP i m P2)) (fun iv _ => n - (intOf iv).toNat)
  case atStart => exact ⟨0, Nat.zero_le _, rfl, .slice none 0 0, .slice none 0 0, [], [], HK0, .inl ⟨rfl, rfl, rfl, rfl⟩, ⟨rfl, fun p hp => by cases hp⟩, ⟨rfl, fun p hp => by cases hp⟩⟩
  case round =>
    obtain ⟨i, hi, rfl, y, z, P1, P2, HK, HD, HP1, HP2⟩ := hrel
    clear HK0
    by_cases hlt : i < n
    · obtain ⟨dy, ny, cy, rfl⟩ : SlV y := by
        obtain ⟨a', c', e', _⟩ := owns_slice HK.out.mv.1
        exact ⟨a', _, c', e'⟩
      obtain ⟨dz, nz, cz, rfl⟩ : SlV z := by
        obtain ⟨a', c', e', _⟩ := owns_slice HK.out.sh.1
        exact ⟨a', _, c', e'⟩
      obtain ⟨k1, hk1⟩ : ∃ k1, k1 = 3 + i * n := ⟨_, rfl⟩
      obtain ⟨k2, hk2⟩ : ∃ k2, k2 = 7 + i * m := ⟨_, rfl⟩
      have hin : i * n ≤ 16 := Nat.le_trans (Nat.mul_le_mul (by omega : i ≤ 4) hn) (by decide)
      have him : i * m ≤ 16 := Nat.le_trans (Nat.mul_le_mul (by omega : i ≤ 4) hm) (by decide)
      have ein : (i : Int) * (n : Int) = ((i * n : Nat) : Int) := by push_cast; rfl
      have eim : (i : Int) * (m : Int) = ((i * m : Nat) : Int) := by push_cast; rfl
      have hw1 : IntKind.i64.wrap ((i : Int) * (n : Int)) = ((i * n : Nat) : Int) := by rw [ein, IntKind.wrap_i64]; omega
      have hw2 : IntKind.i64.wrap ((i : Int) * (m : Int)) = ((i * m : Nat) : Int) := by rw [eim, IntKind.wrap_i64]; omega
      have HE1 : Hid ((3 : Int) + ((i * n : Nat) : Int) = (k1 : Int)) := by show _ = _; omega
      have HE2 : Hid ((7 : Int) + ((i * m : Nat) : Int) = (k2 : Int)) := by show _ = _; omega
      have HL1 := hid HP1.out.1
      have HL2 := hid HP2.out.1
      generalize i * n = in_ at *
      generalize i * m = im_ at *
      clear ein eim
      go_wp2_with fail
      rw [HE1.out]
      refine (HROW.out k1 (by omega) n hn1 hn _ (HW.out.below HK.out.bel)).mono ?_
      rintro e w3 ⟨xa, La, rfl, hxa, hwa, hsa, hb3⟩
      obtain ⟨da, na, ca, rfl⟩ := hxa.slv
      have hbs0 : w.heap.size ≤ wr.heap.size := HK.out.bel.size
      replace HK := hid (HK.out.step hb3)
      have HA := hid (hxa.lower hbs0)
      have HWA := hid hwa
      have HSA := hid hsa
      have hbs3 : w.heap.size ≤ w3.heap.size := HK.out.bel.size
      clear hb3 hxa hwa hsa hbs0
      go_wp2_with fail
      rw [HE2.out]
      refine (HROW.out k2 (by omega) m hm1 hm _ (HW.out.below HK.out.bel)).mono ?_
      rintro e w4 ⟨xb, Lb, rfl, hxb, hwb, hsb, hb4⟩
      obtain ⟨db, nb, cb, rfl⟩ := hxb.slv
      have HAB : Hid ((Value.slice da na ca) ≠ .slice db nb cb) := (HA.out.below hb4).apart hxb (by rw [rawF_length, HWA.out.len]; omega) (by rw [rawF_length, hwb.len]; omega) (fun g hg => by
        obtain ⟨c, fr, h⟩ := owns_typed HA.out g hg
        exact (Array.getElem?_eq_some_iff.1 h).1)
      have HB := hid (hxb.lower hbs3)
      have HWB := hid hwb
      have HSB := hid hsb
      replace HK := hid (HK.out.step hb4)
      replace HA := hid (HA.out.below hb4)
      clear hb4 hxb hwb hsb hbs3
      obtain ⟨e0, e1, e2⟩ := HK.out.bx.cells
      have hAL := (Below.refl w4.heap.size w4).alloc (Nat.le_refl _) (.cells #[.slice da na ca] 24)
      have hone : (w4.alloc (.cells #[.slice da na ca] 24)).heap[w4.heap.size]? = some (.cells #[.slice da na ca] 24 (0, 0)) := heap_alloc_new w4 _
      have HC1 : Hid ((w4.alloc (.cells #[.slice da na ca] 24)).cell? ⟨w4.heap.size, 0, none⟩ = some (.slice da na ca)) := by
        show _ = _
        rw [cell_of_row _ _ _ _ _ (0, 0) hone]
        rfl
      replace HK := hid (HK.out.step hAL)
      replace HA := hid (HA.out.below hAL)
      replace HB := hid (HB.out.below hAL)
      have HBS : Hid (w.heap.size ≤ (w4.alloc (.cells #[.slice da na ca] 24)).heap.size) := HK.out.bel.size
      have HBLK : Hid (w4.heap.size < (w4.alloc (.cells #[.slice da na ca] 24)).heap.size) := by show _ < _; simp
      clear hAL hone
      go_upto_region 8 with (at_builtin; refine wpList_append_rs rfl _ _ rfl w.heap.size (.slice dy ny cy) P1 (.slice da na ca) ⟨_, _, _, rfl⟩ rfl HK.out.mv.1 w4.heap.size rfl HC1.out (by rw [HL1.out]; omega) HBS.out ?_; intro v5 w5 hr5 hg5; obtain ⟨a5, c5, rfl, -⟩ := owns_slice hr5; obtain ⟨hbx5, hk5⟩ := HK.out.pushM hr5 hg5 HA.out (Hd.first HK.out HD.out); obtain ⟨q0, q1, q2⟩ := hbx5.cells; have qf := hbx5.fz 1; have HK5 := hid hk5; have HB5 : Hid (RwF (w5.setCell ⟨gB, 1, none⟩ (.slice a5 (P1.length + 1) c5)) w.heap.size (.slice db nb cb) (rawF Lb)) := owns_keep HB.out ((KeepT.grown hg5 (owns_typed HK.out.mv.1) (by decide)).trans (KeepT.set hbx5 (by decide) 1 _)))
      clear e0 e1 e2 q0 q1 q2 qf hbx5 hk5 hr5 hg5 HC1 HBS HBLK HA HB HK
      generalize (w5.setCell ⟨gB, 1, none⟩ (.slice a5 (P1.length + 1) c5)) = w6 at *
      obtain ⟨hdj, hdn⟩ := Hd.second (b := (.slice db nb cb, rawF Lb)) HK5.out HD.out
      have HDN := hid (hdn HAB.out)
      have HDJ := hid hdj
      obtain ⟨e0, e1, e2⟩ := HK5.out.bx.cells
      have hAL := (Below.refl w6.heap.size w6).alloc (Nat.le_refl _) (.cells #[.slice db nb cb] 24)
      have hone : (w6.alloc (.cells #[.slice db nb cb] 24)).heap[w6.heap.size]? = some (.cells #[.slice db nb cb] 24 (0, 0)) := heap_alloc_new w6 _
      have HC1 : Hid ((w6.alloc (.cells #[.slice db nb cb] 24)).cell? ⟨w6.heap.size, 0, none⟩ = some (.slice db nb cb)) := by
        show _ = _
        rw [cell_of_row _ _ _ _ _ (0, 0) hone]
        rfl
      have HK6 := hid (HK5.out.step hAL)
      replace HB5 := hid (HB5.out.below hAL)
      have HBS : Hid (w.heap.size ≤ (w6.alloc (.cells #[.slice db nb cb] 24)).heap.size) := HK6.out.bel.size
      clear hAL hone hdj hdn HK5 HD
      go_wp2_with (at_builtin; refine wpList_append_rs rfl _ _ rfl w.heap.size (.slice dz nz cz) P2 (.slice db nb cb) ⟨_, _, _, rfl⟩ rfl HK6.out.sh.1 w6.heap.size rfl HC1.out (by rw [HL2.out]; omega) HBS.out ?_; intro v7 w7 hr7 hg7; obtain ⟨a7, c7, rfl, -⟩ := owns_slice hr7; obtain ⟨hbx7, hk7⟩ := HK6.out.pushS hr7 hg7 HB5.out HDJ.out; obtain ⟨q0, q1, q2⟩ := hbx7.cells; have qf := hbx7.fz 2; have HK7 := hid hk7)
      go_roundw
      case rel => exact ⟨i + 1, by omega, by go_num, _, _, _, _, HK7, HDN.out _, HP1.out.push _ HWA.out HSA.out, HP2.out.push _ HWB.out HSB.out⟩
      case measure => simp [intOf]; omega
    · obtain rfl : i = n := by omega
      obtain ⟨dy, ny, cy, rfl⟩ : SlV y := by
        obtain ⟨a', c', e', _⟩ := owns_slice HK.out.mv.1
        exact ⟨a', _, c', e'⟩
      obtain ⟨dz, nz, cz, rfl⟩ : SlV z := by
        obtain ⟨a', c', e', _⟩ := owns_slice HK.out.sh.1
        exact ⟨a', _, c', e'⟩
      obtain ⟨e0, e1, e2⟩ := HK.out.bx.cells
      obtain ⟨r0, r1, r2⟩ := HK.out.rb.cells
      have f0 := HK.out.rb.fz 0
      have f1 := HK.out.rb.fz 1
      have f2 := HK.out.rb.fz 2
      have HRS := hid (HK.out.rb.set3 (.slice dx nx cx) (.slice dy ny cy) (.slice dz nz cz))
      have ks : ∀ tt : TypeId, tt ≠ 27 → KeepT tt wr (((wr.setCell ⟨w.heap.size, 0, none⟩ (.slice dx nx cx)).setCell ⟨w.heap.size, 1, none⟩ (.slice dy ny cy)).setCell ⟨w.heap.size, 2, none⟩ (.slice dz nz cz)) := fun tt hne => by
        have h1 : HBox (wr.setCell ⟨w.heap.size, 0, none⟩ (.slice dx nx cx)) w.heap.size (.slice dx nx cx) (.slice none 0 0) (.slice none 0 0) := heap_setCell_same wr w.heap.size 0 _ _ _ HK.out.rb
        exact ((KeepT.set HK.out.rb hne 0 _).trans (KeepT.set h1 hne 1 _)).trans (KeepT.set (h1.set1 (.slice dy ny cy)) hne 2 _)
      have HF1 : Hid (RwF (((wr.setCell ⟨w.heap.size, 0, none⟩ (.slice dx nx cx)).setCell ⟨w.heap.size, 1, none⟩ (.slice dy ny cy)).setCell ⟨w.heap.size, 2, none⟩ (.slice dz nz cz)) w.heap.size (.slice dx nx cx) (rawF Ls)) := owns_keep HK.out.st (ks _ (by decide))
      have HF2 := hid (HK.out.mv.keep (ks 24 (by decide)) (ks 32 (by decide)))
      have HF3 := hid (HK.out.sh.keep (ks 24 (by decide)) (ks 32 (by decide)))
      have HFB := hid (((HK.out.bel.setCell (p := ⟨w.heap.size, 0, none⟩) (Nat.le_refl _) (.slice dx nx cx)).setCell (p := ⟨w.heap.size, 1, none⟩) (Nat.le_refl _) (.slice dy ny cy)).setCell (p := ⟨w.heap.size, 2, none⟩) (Nat.le_refl _) (.slice dz nz cz))
      clear ks HK
      go_wp2
      refine bodyPost_ret (HRS.out.result rfl _ rfl) rfl ?_
      exact ⟨_, _, _, Ls, P1, P2, rfl, HWT.out, HS1.out, HF1.out, HF2.out, HF3.out, HP1.out, HP2.out, HFB.out⟩
end Go.Proofs.YtnnfmfdjgdgdhaaGreatDoor

