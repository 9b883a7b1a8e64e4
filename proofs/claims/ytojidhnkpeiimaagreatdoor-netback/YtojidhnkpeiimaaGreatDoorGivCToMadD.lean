/- Nets: what Given of package net stands on. -/
import Derived.Test.YtojidhnkpeiimaaGreatDoorRowAToTextC
import Derived.Test.YtojidhnkpeiimaaGreatDoorIterBToNetC
import Derived.Shelf.Slices.CompactI
import Derived.Test.YtojidhnkpeiimaaGreatDoorBakPToMadC
namespace Go.Proofs.YtojidhnkpeiimaaGreatDoor
open Go.RowKit Go.Shelf
theorem noSelf_of {L : List (List Int)} {V : List Vr} {R : List (List Fr)} (h : netE V L R = 0) {v : Nat} (hv : v < L.length) : ¬ v ∈ toN L[v] := by
  rw [netE] at h
  by_cases h1 : L.length = V.length ∧ R.length = V.length
  · rw [if_pos h1] at h
    by_cases h2 : gcE L = 0
    · rw [gcE] at h2
      by_cases h3 : gB L = true
      · rw [gB, Bool.and_eq_true, Bool.and_eq_true, noSelf, List.all_eq_true] at h3
        have := h3.2 v (List.mem_range.2 hv)
        rw [List.getD_eq_getElem?_getD, List.getElem?_eq_getElem hv] at this
        simpa using this
      · rw [if_neg h3] at h2; cases h2
    · rw [if_neg h2] at h; exact absurd h h2
  · rw [if_neg h1] at h; cases h
end Go.Proofs.YtojidhnkpeiimaaGreatDoor

/- Plain: all assignments of a net together are as likely as 1; what is given of a variable is 1 for each assignment of its parents. -/
namespace Go.Proofs.YtojidhnkpeiimaaGreatDoor
open Go.RowKit Go.Shelf
def over (vs : List Nat) (f g : Nat → Nat) : Nat → Nat := fun u => if u ∈ vs then g u else f u
end Go.Proofs.YtojidhnkpeiimaaGreatDoor

/- The document's answer: a net under way. -/
namespace Go.Proofs.YtojidhnkpeiimaaGreatDoor
open Go.RowKit Go.Shelf Go.Lib
structure MS (w W : World) (s e t : Value) (bk : Bool) (x y z : Value) (Vs : List PV) (Ls : List PL) (Rs : List PR) : Prop where
  rb : W.heap[w.heap.size]? = some (.cells #[s, e, t, .bool bk] 24 (0, 0))
  res : NBox W (w.heap.size + 1) (.slice none 0 0) (.slice none 0 0) (.slice none 0 0)
  box : NBox W (w.heap.size + 2) x y z
  vs : OwV W w.heap.size x Vs
  ls : OwL W w.heap.size y Ls
  rs : OwR W w.heap.size z Rs
  bel : Below w.heap.size w W
theorem MS.step {w W W' : World} {s e t : Value} {bk : Bool} {x y z : Value} {Vs : List PV} {Ls : List PL} {Rs : List PR} (h : MS w W s e t bk x y z Vs Ls Rs) (hb : Below W.heap.size W W') : MS w W' s e t bk x y z Vs Ls Rs :=
  ⟨(hb.block _ (Array.getElem?_eq_some_iff.1 h.rb).1).trans h.rb, h.res.below hb h.res.lt, h.box.below hb h.box.lt, h.vs.keep (.below hb) (.below hb), h.ls.keep (.below hb) (.below hb), h.rs.keep (.below hb) (.below hb), h.bel.trans (hb.mono h.bel.size)⟩
theorem MS.cells {w W : World} {s e t : Value} {bk : Bool} {x y z : Value} {Vs : List PV} {Ls : List PL} {Rs : List PR} (h : MS w W s e t bk x y z Vs Ls Rs) : W.cell? ⟨w.heap.size, 0, none⟩ = some s ∧ W.cell? ⟨w.heap.size, 1, none⟩ = some e ∧ W.cell? ⟨w.heap.size, 2, none⟩ = some t ∧ W.cell? ⟨w.heap.size, 3, none⟩ = some (.bool bk) := by
  refine ⟨?_, ?_, ?_, ?_⟩ <;> (rw [cell_of_row W w.heap.size _ _ _ (0, 0) h.rb]; rfl)
theorem MS.lt {w W : World} {s e t : Value} {bk : Bool} {x y z : Value} {Vs : List PV} {Ls : List PL} {Rs : List PR} (h : MS w W s e t bk x y z Vs Ls Rs) : w.heap.size + 2 < W.heap.size := h.box.lt
theorem grown_low {w W W' : World} {v : Value} {n : Nat} {tt : TypeId} {sz0 : Nat} {xs : List Value} (hb : Below w.heap.size w W) (ho : W.ownsRow w.heap.size tt sz0 v n xs) (hg : W.grownBy W' v.ownBlock) : Below w.heap.size w W' := hb.grown hg hb.size (fun k e => owns_from ho k e)
theorem NBox.set0 {W : World} {g : Nat} {x y z : Value} (h : NBox W g x y z) (v : Value) : NBox (W.setCell ⟨g, 0, none⟩ v) g v y z := heap_setCell_same W g 0 _ _ v h
theorem NBox.set1 {W : World} {g : Nat} {x y z : Value} (h : NBox W g x y z) (v : Value) : NBox (W.setCell ⟨g, 1, none⟩ v) g x v z := heap_setCell_same W g 1 _ _ v h
theorem NBox.set2 {W : World} {g : Nat} {x y z : Value} (h : NBox W g x y z) (v : Value) : NBox (W.setCell ⟨g, 2, none⟩ v) g x y v := heap_setCell_same W g 2 _ _ v h
theorem MS.pushV {w W W' : World} {s e t : Value} {bk : Bool} {x y z : Value} {Vs : List PV} {Ls : List PL} {Rs : List PR} (h : MS w W s e t bk x y z Vs Ls Rs) {v' : Value} {nm : ByteArray} {q : Value} {l : List ByteArray} (hr : W'.ownsRow w.heap.size 47 2 v' (Vs.length + 1) (vC Vs ++ [.string nm, q])) (hg : W.grownBy W' x.ownBlock) (hq : RwS W w.heap.size q l) :
    NBox W' (w.heap.size + 2) x y z ∧ MS w (W'.setCell ⟨w.heap.size + 2, 0, none⟩ v') s e t bk v' y z (Vs ++ [(nm, q, l)]) Ls Rs := by
  have kk : ∀ tt : TypeId, tt ≠ 47 → KeepT tt W W' := fun tt hne => KeepT.grown hg (owns_typed h.vs.1) hne
  have hbox : NBox W' (w.heap.size + 2) x y z := kk 29 (by decide) _ _ _ h.box
  have ks : ∀ tt : TypeId, tt ≠ 29 → KeepT tt W' (W'.setCell ⟨w.heap.size + 2, 0, none⟩ v') := fun tt hne => KeepT.set hbox hne 0 v'
  refine ⟨hbox, ?_, ?_, hbox.set0 v', ⟨?_, ?_⟩, ?_, ?_, ?_⟩
  · exact ks 24 (by decide) _ _ _ (kk 24 (by decide) _ _ _ h.rb)
  · exact (Below.heap_setCell W' ⟨w.heap.size + 2, 0, none⟩ v' (w.heap.size + 1) (by show w.heap.size + 1 ≠ w.heap.size + 2; omega)).trans (kk 29 (by decide) _ _ _ h.res)
  · rw [vC_append, List.length_append]
    exact owns_keep hr (ks 47 (by decide))
  · intro p hp
    have hk := (kk 9 (by decide)).trans (ks 9 (by decide))
    rcases List.mem_append.1 hp with hp | hp
    · exact owns_keep (h.vs.2 p hp) hk
    · rw [List.mem_singleton.1 hp]
      exact owns_keep hq hk
  · exact h.ls.keep ((kk _ (by decide)).trans (ks _ (by decide))) ((kk _ (by decide)).trans (ks _ (by decide)))
  · exact h.rs.keep ((kk _ (by decide)).trans (ks _ (by decide))) ((kk _ (by decide)).trans (ks _ (by decide)))
  · exact (grown_low h.bel h.vs.1 hg).setCell (p := ⟨w.heap.size + 2, 0, none⟩) (by show w.heap.size ≤ w.heap.size + 2; omega) _
theorem MS.pushL {w W W' : World} {s e t : Value} {bk : Bool} {x y z : Value} {Vs : List PV} {Ls : List PL} {Rs : List PR} (h : MS w W s e t bk x y z Vs Ls Rs) {v' : Value} {q : Value} {l : List Int} (hr : W'.ownsRow w.heap.size 22 1 v' (Ls.length + 1) (Ls.map (·.1) ++ [q])) (hg : W.grownBy W' y.ownBlock) (hq : RwI W w.heap.size q l) :
    NBox W' (w.heap.size + 2) x y z ∧ MS w (W'.setCell ⟨w.heap.size + 2, 1, none⟩ v') s e t bk x v' z Vs (Ls ++ [(q, l)]) Rs := by
  have kk : ∀ tt : TypeId, tt ≠ 22 → KeepT tt W W' := fun tt hne => KeepT.grown hg (owns_typed h.ls.1) hne
  have hbox : NBox W' (w.heap.size + 2) x y z := kk 29 (by decide) _ _ _ h.box
  have ks : ∀ tt : TypeId, tt ≠ 29 → KeepT tt W' (W'.setCell ⟨w.heap.size + 2, 1, none⟩ v') := fun tt hne => KeepT.set hbox hne 1 v'
  refine ⟨hbox, ?_, ?_, hbox.set1 v', ?_, ⟨?_, ?_⟩, ?_, ?_⟩
  · exact ks 24 (by decide) _ _ _ (kk 24 (by decide) _ _ _ h.rb)
  · exact (Below.heap_setCell W' ⟨w.heap.size + 2, 1, none⟩ v' (w.heap.size + 1) (by show w.heap.size + 1 ≠ w.heap.size + 2; omega)).trans (kk 29 (by decide) _ _ _ h.res)
  · exact h.vs.keep ((kk _ (by decide)).trans (ks _ (by decide))) ((kk _ (by decide)).trans (ks _ (by decide)))
  · rw [List.map_append, List.length_append]
    exact owns_keep hr (ks 22 (by decide))
  · intro p hp
    have hk := (kk 3 (by decide)).trans (ks 3 (by decide))
    rcases List.mem_append.1 hp with hp | hp
    · exact owns_keep (h.ls.2 p hp) hk
    · rw [List.mem_singleton.1 hp]
      exact owns_keep hq hk
  · exact h.rs.keep ((kk _ (by decide)).trans (ks _ (by decide))) ((kk _ (by decide)).trans (ks _ (by decide)))
  · exact (grown_low h.bel h.ls.1 hg).setCell (p := ⟨w.heap.size + 2, 1, none⟩) (by show w.heap.size ≤ w.heap.size + 2; omega) _
theorem MS.pushR {w W W' : World} {s e t : Value} {bk : Bool} {x y z : Value} {Vs : List PV} {Ls : List PL} {Rs : List PR} (h : MS w W s e t bk x y z Vs Ls Rs) {v' : Value} {q : Value} {l : List Fr} (hr : W'.ownsRow w.heap.size 51 1 v' (Rs.length + 1) (Rs.map (·.1) ++ [q])) (hg : W.grownBy W' z.ownBlock) (hq : RwF W w.heap.size q l) :
    NBox W' (w.heap.size + 2) x y z ∧ MS w (W'.setCell ⟨w.heap.size + 2, 2, none⟩ v') s e t bk x y v' Vs Ls (Rs ++ [(q, l)]) := by
  have kk : ∀ tt : TypeId, tt ≠ 51 → KeepT tt W W' := fun tt hne => KeepT.grown hg (owns_typed h.rs.1) hne
  have hbox : NBox W' (w.heap.size + 2) x y z := kk 29 (by decide) _ _ _ h.box
  have ks : ∀ tt : TypeId, tt ≠ 29 → KeepT tt W' (W'.setCell ⟨w.heap.size + 2, 2, none⟩ v') := fun tt hne => KeepT.set hbox hne 2 v'
  refine ⟨hbox, ?_, ?_, hbox.set2 v', ?_, ?_, ⟨?_, ?_⟩, ?_⟩
  · exact ks 24 (by decide) _ _ _ (kk 24 (by decide) _ _ _ h.rb)
  · exact (Below.heap_setCell W' ⟨w.heap.size + 2, 2, none⟩ v' (w.heap.size + 1) (by show w.heap.size + 1 ≠ w.heap.size + 2; omega)).trans (kk 29 (by decide) _ _ _ h.res)
  · exact h.vs.keep ((kk _ (by decide)).trans (ks _ (by decide))) ((kk _ (by decide)).trans (ks _ (by decide)))
  · exact h.ls.keep ((kk _ (by decide)).trans (ks _ (by decide))) ((kk _ (by decide)).trans (ks _ (by decide)))
  · rw [List.map_append, List.length_append]
    exact owns_keep hr (ks 51 (by decide))
  · intro p hp
    have hk := (kk 58 (by decide)).trans (ks 58 (by decide))
    rcases List.mem_append.1 hp with hp | hp
    · exact owns_keep (h.rs.2 p hp) hk
    · rw [List.mem_singleton.1 hp]
      exact owns_keep hq hk
  · exact (grown_low h.bel h.rs.1 hg).setCell (p := ⟨w.heap.size + 2, 2, none⟩) (by show w.heap.size ≤ w.heap.size + 2; omega) _
structure VK (v : Nat) (Vs : List PV) : Prop where
  len : Vs.length = v
  each : ∀ j (h : j < Vs.length), Vs[j].1 = nmB 110 j ∧ ∃ k, 1 ≤ k ∧ k ≤ 3 ∧ Vs[j].2.2 = valsN k
theorem VK.snoc {v : Nat} {Vs : List PV} (h : VK v Vs) (q : Value) {k : Nat} (h1 : 1 ≤ k) (h3 : k ≤ 3) : VK (v + 1) (Vs ++ [(nmB 110 v, q, valsN k)]) := by
  refine ⟨by simp [h.len], fun j hj => ?_⟩
  rcases Nat.lt_or_ge j Vs.length with hlt | hge
  · rw [List.getElem_append_left hlt]
    exact h.each j hlt
  · rw [List.getElem_append_right hge]
    have e : j = v := by simp at hj; have := h.len; omega
    subst e
    simp [h.len]
    exact ⟨k, h1, h3, rfl⟩
def vOf (Vs : List PV) : List Vr := Vs.map fun p => (p.1, p.2.2)
def lOf (Ls : List PL) : List (List Int) := Ls.map (·.2)
def rOf (Rs : List PR) : List (List Fr) := Rs.map (·.2)
structure ParOK (bk : Bool) (n j : Nat) (l : List Int) : Prop where
  up : Up l n
  few : l.length ≤ 3
  rank : ∀ x ∈ l, if bk = true then (j : Int) < x else x < (j : Int)
structure RowOK (S : List Nat) (j : Nat) (l : List Int) (r : List Fr) : Prop where
  len : r.length = cnt S (toN l) * sz S j
  rows : ∀ i, i < cnt S (toN l) → rowB (chunkF r (sz S j) i) = true
  small : ∀ f ∈ r, f.2.1.size + f.2.2.size ≤ 2
structure LK2 (bk : Bool) (n v : Nat) (S : List Nat) (Ls : List PL) (Rs : List PR) : Prop where
  len : Ls.length = v
  lenR : Rs.length = v
  pars : ∀ j (h : j < Ls.length), ParOK bk n j Ls[j].2
  rows : ∀ j (h : j < Ls.length) (h' : j < Rs.length), RowOK S j Ls[j].2 Rs[j].2
theorem LK2.snoc {bk : Bool} {n v : Nat} {S : List Nat} {Ls : List PL} {Rs : List PR} (h : LK2 bk n v S Ls Rs) {q q' : Value} {l : List Int} {r : List Fr} (h1 : ParOK bk n v l) (h2 : RowOK S v l r) : LK2 bk n (v + 1) S (Ls ++ [(q, l)]) (Rs ++ [(q', r)]) := by
  refine ⟨by simp [h.len], by simp [h.lenR], fun j hj => ?_, fun j hj hj' => ?_⟩
  · rcases Nat.lt_or_ge j Ls.length with hlt | hge
    · rw [List.getElem_append_left hlt]
      exact h.pars j hlt
    · rw [List.getElem_append_right hge]
      have e : j = v := by simp at hj; have := h.len; omega
      subst e
      simpa [h.len] using h1
  · rcases Nat.lt_or_ge j Ls.length with hlt | hge
    · have hlt' : j < Rs.length := by have := h.len; have := h.lenR; omega
      rw [List.getElem_append_left hlt, List.getElem_append_left hlt']
      exact h.rows j hlt hlt'
    · have hge' : Rs.length ≤ j := by have := h.len; have := h.lenR; omega
      rw [List.getElem_append_right hge, List.getElem_append_right hge']
      have e : j = v := by simp at hj; have := h.len; omega
      subst e
      simpa [h.len, h.lenR] using h2
structure PP (bk : Bool) (n v u : Nat) (l : List Int) : Prop where
  ok : ParOK bk n v l
  lt : ∀ x ∈ l, x < (u : Int)
theorem PP.nil (bk : Bool) (n v : Nat) : PP bk n v 0 [] := ⟨⟨up_iff.2 ⟨fun x hx => (List.not_mem_nil hx).elim, List.Pairwise.nil⟩, by simp, fun x hx => (List.not_mem_nil hx).elim⟩, fun x hx => (List.not_mem_nil hx).elim⟩
theorem PP.skip {bk : Bool} {n v u : Nat} {l : List Int} (h : PP bk n v u l) : PP bk n v (u + 1) l := ⟨h.ok, fun x hx => by have := h.lt x hx; omega⟩
theorem PP.snoc {bk : Bool} {n v u : Nat} {l : List Int} (h : PP bk n v u l) (hu : u < n) (h3 : l.length ≠ 3) (hr : if bk = true then v < u else u < v) : PP bk n v (u + 1) (l ++ [(u : Int)]) := by
  refine ⟨⟨up_iff.2 ⟨fun x hx => ?_, ?_⟩, ?_, fun x hx => ?_⟩, fun x hx => ?_⟩
  · rcases List.mem_append.1 hx with hx | hx
    · exact (up_iff.1 h.ok.up).1 x hx
    · rw [List.mem_singleton.1 hx]; omega
  · rw [List.pairwise_append]
    refine ⟨(up_iff.1 h.ok.up).2, List.pairwise_singleton _ _, fun x hx y hy => ?_⟩
    rw [List.mem_singleton.1 hy]
    exact h.lt x hx
  · have := h.ok.few
    simp
    omega
  · rcases List.mem_append.1 hx with hx | hx
    · exact h.ok.rank x hx
    · rw [List.mem_singleton.1 hx]
      cases bk
      · simp at hr ⊢; exact hr
      · simp at hr ⊢; exact hr
  · rcases List.mem_append.1 hx with hx | hx
    · have := h.lt x hx; omega
    · rw [List.mem_singleton.1 hx]; omega
structure RP (s k : Nat) (r : List Fr) : Prop where
  len : r.length = k * s
  rows : ∀ i, i < k → rowB (chunkF r s i) = true
  small : ∀ f ∈ r, f.2.1.size + f.2.2.size ≤ 2
theorem RP.nil (s : Nat) : RP s 0 [] := ⟨by simp, fun i hi => by omega, fun f hf => by cases hf⟩
theorem RP.snoc {s k : Nat} {r l : List Fr} (h : RP s k r) (hl : l.length = s) (hrow : rowB l = true) (hsm : ∀ f ∈ l, f.2.1.size + f.2.2.size ≤ 2) : RP s (k + 1) (r ++ l) := by
  refine ⟨by rw [List.length_append, h.len, hl, Nat.add_mul, Nat.one_mul], fun i hi => ?_, fun f hf => ?_⟩
  · have hm : i * s + s ≤ k * s ∨ i = k := by
      rcases Nat.lt_or_ge i k with h1 | h1
      · left
        have := Nat.mul_le_mul_right s h1
        rw [Nat.succ_mul] at this
        exact this
      · right; omega
    rcases hm with hm | rfl
    · have hik : i < k := by
        rcases Nat.lt_or_ge i k with h1 | h1
        · exact h1
        · have h2 := Nat.mul_le_mul_right s h1
          by_cases hs0 : s = 0
          · subst hs0
            have : l = [] := List.length_eq_zero_iff.1 hl
            subst this
            exact absurd hrow (by decide)
          · omega
      have e : chunkF (r ++ l) s i = chunkF r s i := by
        rw [chunkF, chunkF, List.drop_append_of_le_length (by rw [h.len]; omega), List.take_append_of_le_length (by rw [List.length_drop, h.len]; omega)]
      rw [e]
      exact h.rows i hik
    · have e : chunkF (r ++ l) s i = l := by
        rw [chunkF, ← h.len, List.drop_left, ← hl, List.take_length]
      rw [e]
      exact hrow
  · rcases List.mem_append.1 hf with hf | hf
    · exact h.small f hf
    · exact hsm f hf
theorem OwV.vars {W : World} {B : Nat} {x : Value} {Vs : List PV} (h : OwV W B x Vs) : ∃ a c, x = .slice a (vOf Vs).length c ∧ VsS W a (vOf Vs) := by
  have hl : (vOf Vs).length = Vs.length := by simp [vOf]
  obtain ⟨a, c, rfl, _⟩ := owns_slice h.1
  refine ⟨a, c, by rw [hl], fun k hk => ?_⟩
  rw [hl] at hk
  obtain ⟨e1, e2⟩ := vC_get Vs k hk
  obtain ⟨g, rfl, hg, c1⟩ := owns_cell h.1 (j := k * 2) (by rw [vC_length]; omega)
  obtain ⟨g', e, _, c2⟩ := owns_cell h.1 (j := k * 2 + 1) (by rw [vC_length]; omega)
  cases e
  rw [e1] at c1
  rw [e2] at c2
  have hin := h.2 Vs[k] (List.getElem_mem hk)
  obtain ⟨b, cb, eb, hst⟩ := hin.st
  have hcap : Vs[k].2.2.length ≤ cb := by
    rcases hin.2 with ⟨h1, h2⟩ | ⟨g2, cap, cur, h1, _, _, h4, _⟩
    · omega
    · rw [eb] at h1
      injection h1 with _ _ h6
      omega
  refine ⟨g, 0, b, cb, rfl, hg, ?_, ?_, ?_, ?_⟩
  · rw [Nat.zero_add, c1]; simp [vOf]
  · rw [Nat.zero_add, c2, eb]; simp [vOf]
  · simpa [vOf] using hst
  · simpa [vOf] using hcap
theorem OwL.pars {W : World} {B : Nat} {y : Value} {Ls : List PL} (h : OwL W B y Ls) : ∃ a c, y = .slice a (lOf Ls).length c ∧ LsS W a (lOf Ls) ∧ LsN W a (lOf Ls) := by
  have hl : (lOf Ls).length = Ls.length := by simp [lOf]
  obtain ⟨a, c, rfl, _⟩ := owns_slice h.1
  have key : ∀ k (hk : k < Ls.length), ∃ g, a = some ⟨g, 0, none⟩ ∧ g < W.heap.size ∧ ∃ b cb, W.cell? ⟨g, k, none⟩ = some (.slice b Ls[k].2.length cb) ∧ IntS W b Ls[k].2 ∧ (b = none → cb = 0) := fun k hk => by
    obtain ⟨g, rfl, hg, c1⟩ := owns_cell h.1 (j := k) (by simpa using hk)
    have hin := h.2 Ls[k] (List.getElem_mem hk)
    obtain ⟨b, cb, eb, hn⟩ := owns_slice hin
    obtain ⟨b', cb', eb', hst⟩ := hin.ints
    rw [eb] at eb'
    cases eb'
    refine ⟨g, rfl, hg, b, cb, ?_, hst, hn⟩
    rw [c1]
    simp [eb]
  refine ⟨a, c, by rw [hl], fun k hk => ?_, fun k hk g o b n' c' ea hc hn => ?_⟩
  · rw [hl] at hk
    obtain ⟨g, rfl, hg, b, cb, c1, hst, _⟩ := key k hk
    exact ⟨g, 0, b, cb, rfl, hg, by rw [Nat.zero_add, c1]; simp [lOf], by simpa [lOf] using hst⟩
  · rw [hl] at hk
    obtain ⟨g', e', _, b', cb', c1, _, h0⟩ := key k hk
    rw [ea] at e'
    cases e'
    rw [Nat.zero_add, c1] at hc
    cases hc
    exact h0 hn
theorem OwR.rows {W : World} {B : Nat} {z : Value} {Rs : List PR} (h : OwR W B z Rs) : ∃ a c, z = .slice a (rOf Rs).length c ∧ FsS W a (rOf Rs) := by
  have hl : (rOf Rs).length = Rs.length := by simp [rOf]
  obtain ⟨a, c, rfl, _⟩ := owns_slice h.1
  refine ⟨a, c, by rw [hl], fun k hk => ?_⟩
  rw [hl] at hk
  obtain ⟨g, rfl, hg, c1⟩ := owns_cell h.1 (j := k) (by simpa using hk)
  have hin := h.2 Rs[k] (List.getElem_mem hk)
  obtain ⟨b, cb, eb, hst⟩ := hin.fr
  have hcap : Rs[k].2.length ≤ cb := by
    rcases hin.2 with ⟨h1, h2⟩ | ⟨g2, cap, cur, h1, _, _, h4, _⟩
    · omega
    · rw [eb] at h1
      injection h1 with _ _ h6
      omega
  exact ⟨g, 0, b, cb, rfl, hg, by rw [Nat.zero_add, c1]; simp [rOf, eb], by simpa [rOf] using hst, by simpa [rOf] using hcap⟩
theorem push_keep {w W W' : World} {x y z : Value} {u v' : Value} {tt : TypeId} {sz0 n0 j : Nat} {xs : List Value} (ho : W.ownsRow w.heap.size tt sz0 u n0 xs) (hg : W.grownBy W' u.ownBlock) (hb : NBox W' (w.heap.size + 2) x y z) (t0 : TypeId) (h1 : t0 ≠ tt) (h2 : t0 ≠ 29) : KeepT t0 W (W'.setCell ⟨w.heap.size + 2, j, none⟩ v') :=
  (KeepT.grown hg (owns_typed ho) h1).trans (KeepT.set hb h2 j v')
structure SK (n : Nat) (S : List Nat) : Prop where
  len : S.length = n
  each : ∀ x ∈ S, 1 ≤ x ∧ x ≤ 3
theorem VK.sizes {n : Nat} {Vs : List PV} (h : VK n Vs) : SK n (sizesN (vOf Vs)) := by
  refine ⟨by simp [sizesN, vOf, h.len], fun x hx => ?_⟩
  obtain ⟨p, hp, rfl⟩ := List.mem_map.1 hx
  obtain ⟨q, hq, rfl⟩ := List.mem_map.1 hp
  obtain ⟨j, hj, rfl⟩ := List.getElem_of_mem hq
  obtain ⟨_, k, h1, h3, e⟩ := h.each j hj
  show 1 ≤ Vs[j].2.2.length ∧ Vs[j].2.2.length ≤ 3
  rw [e, valsN_length]
  exact ⟨h1, h3⟩
theorem SK.fine {n : Nat} {S : List Nat} (h : SK n S) (h1 : 1 ≤ n) (h8 : n ≤ 8) : Fine (iL S) := by
  have hl := h.len
  refine ⟨by rw [iL_length]; omega, by rw [iL_length]; omega, fun v hv => ?_⟩
  have hv' : v < S.length := by rw [iL_length] at hv; exact hv
  have e : (iL S)[v] = ((S[v]'hv' : Nat) : Int) := by simp [iL]
  have := h.each _ (List.getElem_mem hv')
  rw [e]
  omega
theorem SK.sz {n : Nat} {S : List Nat} (h : SK n S) (u : Nat) : 1 ≤ sz S u ∧ sz S u ≤ 3 := by
  rw [Go.Proofs.YtojidhnkpeiimaaGreatDoor.sz]
  cases e : S[u]? with
  | none => exact ⟨by decide, by decide⟩
  | some x => exact h.each x (List.mem_of_getElem? e)
theorem cnt_27 {n : Nat} {S : List Nat} (h : SK n S) {l : List Nat} (hl : l.length ≤ 3) : 1 ≤ cnt S l ∧ cnt S l ≤ 27 := by
  have h1 := cnt_three (S := S) (fun v => (h.sz v).2) l
  have h2 : 3 ^ l.length ≤ 3 ^ 3 := Nat.pow_le_pow_right (by omega) hl
  have h3 : ∀ l : List Nat, 1 ≤ cnt S l := fun l => by
    induction l with
    | nil => exact Nat.le_refl _
    | cons v l ih => exact Nat.mul_pos (h.sz v).1 ih
  exact ⟨h3 l, by omega⟩
theorem MS.out3 {w W : World} {s e t : Value} {bk : Bool} {x y z : Value} {Vs : List PV} {Ls : List PL} {Rs : List PR} (h : MS w W s e t bk x y z Vs Ls Rs) :
    NBox (((W.setCell ⟨w.heap.size + 1, 0, none⟩ x).setCell ⟨w.heap.size + 1, 1, none⟩ y).setCell ⟨w.heap.size + 1, 2, none⟩ z) (w.heap.size + 1) x y z ∧ OwV (((W.setCell ⟨w.heap.size + 1, 0, none⟩ x).setCell ⟨w.heap.size + 1, 1, none⟩ y).setCell ⟨w.heap.size + 1, 2, none⟩ z) w.heap.size x Vs ∧ OwL (((W.setCell ⟨w.heap.size + 1, 0, none⟩ x).setCell ⟨w.heap.size + 1, 1, none⟩ y).setCell ⟨w.heap.size + 1, 2, none⟩ z) w.heap.size y Ls ∧ OwR (((W.setCell ⟨w.heap.size + 1, 0, none⟩ x).setCell ⟨w.heap.size + 1, 1, none⟩ y).setCell ⟨w.heap.size + 1, 2, none⟩ z) w.heap.size z Rs ∧ Below w.heap.size w (((W.setCell ⟨w.heap.size + 1, 0, none⟩ x).setCell ⟨w.heap.size + 1, 1, none⟩ y).setCell ⟨w.heap.size + 1, 2, none⟩ z) := by
  have n0 := h.res.set0 x
  have n1 := n0.set1 y
  have n2 := n1.set2 z
  have ks : ∀ tt : TypeId, tt ≠ 29 → KeepT tt W (((W.setCell ⟨w.heap.size + 1, 0, none⟩ x).setCell ⟨w.heap.size + 1, 1, none⟩ y).setCell ⟨w.heap.size + 1, 2, none⟩ z) := fun tt hne => ((KeepT.set h.res hne 0 x).trans (KeepT.set n0 hne 1 y)).trans (KeepT.set n1 hne 2 z)
  refine ⟨n2, h.vs.keep (ks _ (by decide)) (ks _ (by decide)), h.ls.keep (ks _ (by decide)) (ks _ (by decide)), h.rs.keep (ks _ (by decide)) (ks _ (by decide)), ?_⟩
  exact ((h.bel.setCell (p := ⟨w.heap.size + 1, 0, none⟩) (by show w.heap.size ≤ w.heap.size + 1; omega) _).setCell (p := ⟨w.heap.size + 1, 1, none⟩) (by show w.heap.size ≤ w.heap.size + 1; omega) _).setCell (p := ⟨w.heap.size + 1, 2, none⟩) (by show w.heap.size ≤ w.heap.size + 1; omega) _
end Go.Proofs.YtojidhnkpeiimaaGreatDoor
