/- Regions that draw their order: a condition on the world that holds until one operation (a store, say) has come up, and another one behind it. What yields its value under the first may be taken ahead of all, if that operation waits for it. -/
import Derived.OrdersHeld
import Derived.Deep.RegionHeld
import Derived.Test.YtbejijgelljeaaaGreatDoorChnCPw
import Derived.Test.YtbejijgelljeaaaGreatDoorChnEPwHidF
namespace Go.Proofs.YtbejijgelljeaaaGreatDoor
section
variable {P : Program} {ops : Array Oper} {Q : Exit → Act → World → Prop} {md : Region.Mode} {S : Bool → World → Prop} {k : Nat}
/-- Any order from here on; behind each operation S holds: S false as long as number k has not come up, S true from then on. -/
def wpU (P : Program) (md : Region.Mode) (ops : Array Oper) (Q : Exit → Act → World → Prop) (S : Bool → World → Prop) (k : Nat) : Nat → Array Bool → Act → World → Prop
  | 0, l, a, w => Region.ready md ops l = [] ∧ Q .normal a w
  | n + 1, l, a, w => (Region.ready md ops l = [] → Q .normal a w) ∧ ∀ i ∈ Region.ready md ops l, wpOp P ops Q i (fun a' w' => S ((l.setIfInBounds i true).getD k true) w' ∧ wpU P md ops Q S k n (l.setIfInBounds i true) a' w') a w
theorem wpU_any : ∀ (n : Nat) (l : Array Bool) (a : Act) (w : World), wpU P md ops Q S k n l a w → wpAny P md ops Q n l a w
  | 0, _, _, _, h => h
  | n + 1, _, _, _, h => ⟨h.1, fun i hi => wpOp_mono (fun a' w' h' => wpU_any n _ a' w' h'.2) (h.2 i hi)⟩
theorem ready_un {l : Array Bool} {i : Nat} (h : i ∈ Region.ready md ops l) : l.getD i true = false := (mem_ready.1 h).1
/-- Taken first: i yields v wherever S holds with a flag that W allows, and W's flags last while i has not come up. -/
theorem wpU_first {i : Nat} {oi : Oper} {v : Value} (W : Bool → Prop) (hi : ops[i]? = some oi) (hsel : ∀ (j : Nat) (o : Oper) cs b, ops[j]? = some o → o.op ≠ .select cs b)
    (hQ : ∀ c a w, Q (.panic c) (a.put oi.dst v) w → Q (.panic c) a w)
    (hW : ∀ (l : Array Bool) (j : Nat), i ∈ Region.ready md ops l → j ∈ Region.ready md ops l → j ≠ i → W (l.getD k true) → W ((l.setIfInBounds j true).getD k true)) (hk : k ≠ i) :
    ∀ (n : Nat) (l : Array Bool) (a : Act) (w : World),
      (∀ j oj, ops[j]? = some oj → j ≠ i → l.getD j true = false → (∀ e ∈ oj.after, Region.binds md e = true → e.on ≠ i) → oi.apart ops oj = true) →
      i ∈ Region.ready md ops l → YieldsIf P ops (fun u => ∃ b, W b ∧ S b u) oi v a → W (l.getD k true) → S (l.getD k true) w →
      wpU P md ops Q S k n (l.setIfInBounds i true) (a.put oi.dst v) w → wpU P md ops Q S k (n + 1) l a w := by
  have hflag : ∀ l : Array Bool, (l.setIfInBounds i true).getD k true = l.getD k true := fun l => getD_set_ne true (Ne.symm hk)
  intro n
  induction n with
  | zero =>
    intro l a w _ hr hy hw hS H
    refine ⟨fun h => (by rw [h] at hr; cases hr), fun j hj => ?_⟩
    by_cases hji : j = i
    · subst hji
      exact hy.wpOp hi ⟨_, hw, hS⟩ ⟨by rw [hflag]; exact hS, H⟩
    · have := ready_mono hj hji
      rw [H.1] at this
      cases this
  | succ n ih =>
    intro l a w hfree hr hy hw hS H
    refine ⟨fun h => (by rw [h] at hr; cases hr), fun j hj => ?_⟩
    by_cases hji : j = i
    · subst hji
      exact hy.wpOp hi ⟨_, hw, hS⟩ ⟨by rw [hflag]; exact hS, H⟩
    · have h1 := H.2 j (ready_mono hj hji)
      obtain ⟨hjun, oj, hoj, hall⟩ := mem_ready.1 hj
      have hnot : ∀ e ∈ oj.after, Region.binds md e = true → e.on ≠ i := fun e he hb heq => by
        have h1 := hall e he hb
        have h0 := ready_un hr
        rw [heq] at h1
        rcases Nat.lt_or_ge i l.size with h' | h'
        · simp [h'] at h0 h1; rw [h0] at h1; cases h1
        · simp [Array.getElem?_eq_none h'] at h1
      have h2 := wpOp_putIf hoj (hfree j oj hoj hji hjun hnot) (fun cs b => hsel i oi cs b hi) (fun cs b => hsel j oj cs b hoj) hQ hy h1
      have hfree' : ∀ x ox, ops[x]? = some ox → x ≠ i → (l.setIfInBounds j true).getD x true = false → (∀ e ∈ ox.after, Region.binds md e = true → e.on ≠ i) → oi.apart ops ox = true := fun x ox hx hxi hun hno => by
        refine hfree x ox hx hxi ?_ hno
        by_cases hjx : j = x
        · subst hjx; exact hjun
        · rw [getD_set_ne true hjx] at hun; exact hun
      have hw' := hW l j hr hj hji hw
      have ecomm : (l.setIfInBounds i true).setIfInBounds j true = (l.setIfInBounds j true).setIfInBounds i true := Array.setIfInBounds_comm _ _ (Ne.symm hji)
      refine wpOp_mono (fun a' w' h3 => ?_) h2
      have hS' : S ((l.setIfInBounds j true).getD k true) w' := by
        have := h3.2.1
        rwa [ecomm, getD_set_ne true (Ne.symm hk)] at this
      refine ⟨hS', ih (l.setIfInBounds j true) a' w' hfree' (ready_mono hr (Ne.symm hji)) h3.1 hw' hS' ?_⟩
      rw [← ecomm]
      exact h3.2.2
/-- Whatever S says at the time: what yields under both. -/
theorem wpU_take {i : Nat} {oi : Oper} {v : Value} {n : Nat} {l : Array Bool} {a : Act} {w : World} (hi : ops[i]? = some oi)
    (hs : Region.noSelect ops = true) (hf : Region.free md ops l i = true) (hr : (Region.ready md ops l).contains i = true) (hk : k ≠ i)
    (hQ : ∀ c a w, Q (.panic c) (a.put oi.dst v) w → Q (.panic c) a w) (hy : YieldsIf P ops (fun u => ∃ b, S b u) oi v a) {b : Bool} (hb : l.getD k true = b) (hS : S b w)
    (h : wpU P md ops Q S k n (l.setIfInBounds i true) (a.put oi.dst v) w) : wpU P md ops Q S k (n + 1) l a w :=
  wpU_first (fun _ => True) hi (Region.noSelect_spec hs) hQ (fun _ _ _ _ _ h => h) hk n l a w (Region.free_spec hi hf) (by simpa using hr) (hy.imp (fun ⟨h1, h2⟩ => ⟨h1, fun u ⟨b, _, hu⟩ => h2 u ⟨b, hu⟩⟩) id) trivial (by rw [hb]; exact hS) h
/-- What k waits for: what yields ahead of k. -/
theorem wpU_ahead {i : Nat} {oi ok : Oper} {v : Value} {n : Nat} {l : Array Bool} {a : Act} {w : World} (hi : ops[i]? = some oi)
    (hs : Region.noSelect ops = true) (hf : Region.free md ops l i = true) (hr : (Region.ready md ops l).contains i = true) (hk : k ≠ i)
    (hok : ops[k]? = some ok) (hw : (ok.after.any fun e => Region.binds md e && e.on == i) = true)
    (hQ : ∀ c a w, Q (.panic c) (a.put oi.dst v) w → Q (.panic c) a w) (hy : YieldsIf P ops (S false) oi v a) (hb : l.getD k true = false) (hS : S false w)
    (h : wpU P md ops Q S k n (l.setIfInBounds i true) (a.put oi.dst v) w) : wpU P md ops Q S k (n + 1) l a w := by
  refine wpU_first (fun b => b = false) hi (Region.noSelect_spec hs) hQ (fun l j hri hj hji e => ?_) hk n l a w (Region.free_spec hi hf) (by simpa using hr) (hy.imp (fun ⟨h1, h2⟩ => ⟨h1, fun u ⟨b, hb, hu⟩ => h2 u (by subst hb; exact hu)⟩) id) hb (by rw [hb]; exact hS) h
  by_cases hjk : j = k
  · subst hjk
    exfalso
    obtain ⟨_, oj, hoj, hall⟩ := mem_ready.1 hj
    rw [hok] at hoj
    cases hoj
    obtain ⟨e, he, h2⟩ := Array.any_eq_true'.1 hw
    obtain ⟨h3, h4⟩ := Bool.and_eq_true_iff.1 h2
    have h5 := hall e he h3
    have h0 := ready_un hri
    rw [eq_of_beq h4] at h5
    rcases Nat.lt_or_ge i l.size with h' | h'
    · simp [h'] at h0 h5; rw [h0] at h5; cases h5
    · simp [Array.getElem?_eq_none h'] at h5
  · rw [getD_set_ne true hjk]
    exact e
/-- Each of these comes up next. -/
def AllU (P : Program) (md : Region.Mode) (ops : Array Oper) (Q : Exit → Act → World → Prop) (S : Bool → World → Prop) (k n : Nat) (l : Array Bool) (a : Act) (w : World) (rs : List Nat) : Prop :=
  ∀ i ∈ rs, wpOp P ops Q i (fun a' w' => S ((l.setIfInBounds i true).getD k true) w' ∧ wpU P md ops Q S k n (l.setIfInBounds i true) a' w') a w
theorem AllU.nil {n : Nat} {l : Array Bool} {a : Act} {w : World} : AllU P md ops Q S k n l a w [] := fun _ h => by cases h
theorem AllU.cons {n : Nat} {l : Array Bool} {a : Act} {w : World} {i : Nat} {o : Oper} {rs : List Nat} {b : Bool} (ho : ops[i]? = some o) (hb : (l.setIfInBounds i true).getD k true = b)
    (h : ∀ K' : Act → World → Prop, Go.Shut (∀ a w, S b w → (S b w → wpU P md ops Q S k n (l.setIfInBounds i true) a w) → K' a w) → if Region.wanted o (yielded ops a.tmps) = true then Oper.wp P o a w K' Q else K' (a.put o.dst undef) w)
    (hs : AllU P md ops Q S k n l a w rs) : AllU P md ops Q S k n l a w (i :: rs) := fun j hj => by
  rcases List.mem_cons.1 hj with rfl | hj
  · exact wpOp_step ho (fun K' hK => h K' (fun a w hS hU => hK a w ⟨by rw [hb]; exact hS, hU hS⟩))
  · exact hs j hj
theorem wpU_ready {rs : List Nat} {n : Nat} {l : Array Bool} {a : Act} {w : World} (hr : Region.ready md ops l = rs) (hne : rs ≠ []) (h : AllU P md ops Q S k n l a w rs) : wpU P md ops Q S k (n + 1) l a w :=
  ⟨fun h0 => absurd (hr ▸ h0) hne, hr ▸ h⟩
theorem wpU_done {l : Array Bool} {a : Act} {w : World} (hr : Region.ready md ops l = []) (h : Q .normal a w) : ∀ n, wpU P md ops Q S k n l a w
  | 0 => ⟨hr, h⟩
  | _ + 1 => ⟨fun _ => h, by rw [hr]; simp⟩
theorem wp_region_until {id : Nat} {a : Act} {w : World} (k : Nat) (S : Bool → World → Prop) (hm : P.follows .mixedOrders = true) (hS : S false w.drew) (h : S false w.drew → wpU P .any ops Q S k ops.size (Array.replicate ops.size false) a w.drew) : (Code.region id ops true).wp P Q a w :=
  wp_region_any hm (wpU_any _ _ _ _ (h hS))
end
end Go.Proofs.YtbejijgelljeaaaGreatDoor

/- hitsFrom of package chain: equations that are made row by row. -/
namespace Go.Proofs.YtbejijgelljeaaaGreatDoor
open Go.RowKit Go.Shelf
theorem nodup_at {l : List Nat} (h : l.Nodup) {i j : Nat} (hi : i < l.length) (hj : j < l.length) (e : l[i] = l[j]) : i = j := by
  rcases Nat.lt_trichotomy i j with h1 | h1 | h1
  · exact absurd e (List.pairwise_iff_getElem.1 h i j hi hj h1)
  · exact h1
  · exact absurd e.symm (List.pairwise_iff_getElem.1 h j i hj hi h1)
theorem lF_snoc (j : Nat) (f : Nat → Rat) : lF (j + 1) f = lF j f ++ [qF (f j)] := by simp [lF, List.range_succ]
/-- What the block of all equations holds while row k is made. -/
def tpV (n k m : Nat) (g c : Nat → Nat) (v : Value) : List Value := (List.range n).map fun t => if t < k then .slice (some ⟨g t, 0, none⟩) m (c t) else if t = k then v else .slice none 0 0
theorem tpV_length (n k m : Nat) (g c : Nat → Nat) (v : Value) : (tpV n k m g c v).length = n := by simp [tpV]
theorem tpV_set (n k m : Nat) (g c : Nat → Nat) (v v' : Value) : (tpV n k m g c v).set k v' = tpV n k m g c v' := by
  refine List.ext_getElem (by rw [List.length_set, tpV_length, tpV_length]) fun j h1 h2 => ?_
  rw [List.getElem_set]
  by_cases e : k = j
  · subst e; simp [tpV]
  · rw [if_neg e]
    simp only [tpV, List.getElem_map, List.getElem_range]
    by_cases h : j < k
    · rw [if_pos h, if_pos h]
    · rw [if_neg h, if_neg h, if_neg (fun e' => e e'.symm), if_neg (fun e' => e e'.symm)]
/-- Equations of which the first k are made. -/
structure HfS (w : World) (n m G k : Nat) (g c : Nat → Nat) (M : Nat → Nat → Rat) (U : World) : Prop where
  top : RowV U G (tpV n k m g c (.slice none 0 0))
  row : ∀ t, t < k → EqR U w.heap.size (g t) m (c t) (M t)
  inj : ∀ t t', t < k → t' < k → g t = g t' → t = t'
  gl : w.heap.size ≤ G
  bel : Below w.heap.size w U
/-- Equations of which the first k are made, and of the next one so many numbers. -/
structure HgS (w : World) (n m G k Mk : Nat) (g c : Nat → Nat) (M : Nat → Nat → Rat) (v : Value) (j : Nat) (U : World) : Prop where
  top : RowV U G (tpV n k m g c v)
  row : ∀ t, t < k → EqR U w.heap.size (g t) m (c t) (M t) ∧ g t < Mk
  inj : ∀ t t', t < k → t' < k → g t = g t' → t = t'
  cur : RwF U Mk v (lF j (M k))
  gl : w.heap.size ≤ G
  gm : G < Mk
  mu : Mk ≤ U.heap.size
  bel : Below w.heap.size w U
theorem HfS.step {w U U' : World} {n m G k : Nat} {g c : Nat → Nat} {M : Nat → Nat → Rat} (h : HfS w n m G k g c M U) (hb : Below U.heap.size U U') : HfS w n m G k g c M U' := ⟨h.top.below hb h.top.lt, fun t ht => (h.row t ht).below hb, h.inj, h.gl, h.bel.trans (hb.mono h.bel.size)⟩
theorem HgS.step {w U U' : World} {n m G k Mk j : Nat} {g c : Nat → Nat} {M : Nat → Nat → Rat} {v : Value} (h : HgS w n m G k Mk g c M v j U) (hb : Below U.heap.size U U') : HgS w n m G k Mk g c M v j U' := ⟨h.top.below hb h.top.lt, fun t ht => ⟨(h.row t ht).1.below hb, (h.row t ht).2⟩, h.inj, h.cur.below hb, h.gl, h.gm, Nat.le_trans h.mu hb.size, h.bel.trans (hb.mono h.bel.size)⟩
theorem HgS.cell {w U : World} {n m G k Mk j : Nat} {g c : Nat → Nat} {M : Nat → Nat → Rat} {v : Value} (h : HgS w n m G k Mk g c M v j U) (hk : k < n) : U.cell? ⟨G, k, none⟩ = some v := by
  rw [h.top.cell k (by rw [tpV_length]; exact hk)]
  simp [tpV]
theorem HfS.into {w U : World} {n m G k : Nat} {g c : Nat → Nat} {M : Nat → Nat → Rat} (h : HfS w n m G k g c M U) : HgS w n m G k U.heap.size g c M (.slice none 0 0) 0 U := ⟨h.top, fun t ht => ⟨h.row t ht, (h.row t ht).lt⟩, h.inj, RwF.empty _ _, h.gl, h.top.lt, Nat.le_refl _, h.bel⟩
theorem HgS.pre {w U U' : World} {n m G k Mk j : Nat} {g c : Nat → Nat} {M : Nat → Nat → Rat} {v : Value} (h : HgS w n m G k Mk g c M v j U) (hg : U.grownBy U' v.ownBlock) : RowV U' G (tpV n k m g c v) := (hg.block G h.top.lt fun e => by have h1 := h.cur.own G e.symm; have h2 := h.gm; omega).trans h.top
theorem HgS.push {w U U' : World} {n m G k Mk j : Nat} {g c : Nat → Nat} {M : Nat → Nat → Rat} {v v' : Value} (h : HgS w n m G k Mk g c M v j U) (hg : U.grownBy U' v.ownBlock) (hr : RwF U' Mk v' (lF j (M k) ++ [qF (M k j)])) : HgS w n m G k Mk g c M v' (j + 1) (U'.setCell ⟨G, k, none⟩ v') := by
  have ht := h.pre hg
  have hset := ht.set k v'
  rw [tpV_set] at hset
  refine ⟨hset, fun t htk => ?_, h.inj, ?_, h.gl, h.gm, Nat.le_trans h.mu (Nat.le_trans hg.size (by simp [World.setCell])), ?_⟩
  · have h1 := h.row t htk
    have hne : v.ownBlock ≠ some (g t) := fun e => by have := h.cur.own (g t) e; omega
    have h2 : EqR U' w.heap.size (g t) m (c t) (M t) := World.ownsRow.kept h1.1 hg (.inr fun e => hne e.symm)
    exact ⟨owns_keep h2 (KeepT.set ht (by decide) k _), h1.2⟩
  · rw [lF_snoc]
    exact hr.off G k v' h.gm
  · exact (h.bel.grown hg h.bel.size (fun x e => Nat.le_trans (Nat.le_trans h.gl (Nat.le_of_lt h.gm)) (h.cur.own x e))).setCell (p := ⟨G, k, none⟩) h.gl _
theorem HgS.done {w U : World} {n m G k Mk : Nat} {g c : Nat → Nat} {M : Nat → Nat → Rat} {v : Value} (h : HgS w n m G k Mk g c M v m U) (hm : 1 ≤ m) : ∃ g' c' : Nat → Nat, HfS w n m G (k + 1) g' c' M U := by
  have hl := lF_length m (M k)
  obtain ⟨gk, ck, e, _, _, _⟩ := h.cur.some' (by omega)
  rw [hl] at e
  subst e
  have hE : EqR U Mk gk m ck (M k) := EqR.of h.cur
  have hlow := hE.block.1
  refine ⟨fun t => if t = k then gk else g t, fun t => if t = k then ck else c t, ?_, fun t ht => ?_, fun t t' ht ht' e => ?_, h.gl, h.bel⟩
  · have e : tpV n k m g c (.slice (some ⟨gk, 0, none⟩) m ck) = tpV n (k + 1) m (fun t => if t = k then gk else g t) (fun t => if t = k then ck else c t) (.slice none 0 0) := by
      refine List.map_congr_left fun t _ => ?_
      by_cases h1 : t < k
      · have hne : ¬ t = k := by omega
        rw [if_pos h1, if_pos (by omega)]
        simp only [if_neg hne]
      · rw [if_neg h1]
        by_cases h2 : t = k
        · rw [if_pos h2, if_pos (by omega)]
          simp only [if_pos h2]
        · rw [if_neg h2, if_neg (by omega), ite_self]
    rw [← e]
    exact h.top
  · by_cases h2 : t = k
    · subst h2
      simp only [if_pos]
      exact EqR.of (h.cur.lower (Nat.le_trans h.gl (Nat.le_of_lt h.gm)))
    · simp only [if_neg h2]
      exact (h.row t (by omega)).1
  · have e' : (if t = k then gk else g t) = (if t' = k then gk else g t') := e
    by_cases h1 : t = k
    · by_cases h2 : t' = k
      · rw [h1, h2]
      · rw [if_pos h1, if_neg h2] at e'
        have := (h.row t' (by omega)).2
        omega
    · by_cases h2 : t' = k
      · rw [if_neg h1, if_pos h2] at e'
        have := (h.row t (by omega)).2
        omega
      · rw [if_neg h1, if_neg h2] at e'
        exact h.inj t t' (by omega) (by omega) e'
theorem HfS.all {w U : World} {n m G : Nat} {g c : Nat → Nat} {M : Nat → Nat → Rat} (h : HfS w n m G n g c M U) : EqS w.heap.size n m G g c M U := by
  refine ⟨?_, h.row, h.inj, h.gl⟩
  have e : tpV n n m g c (.slice none 0 0) = (List.range n).map fun k => Value.slice (some ⟨g k, 0, none⟩) m (c k) := List.map_congr_left fun t ht => if_pos (List.mem_range.1 ht)
  have := h.top
  rw [e] at this
  exact this
/-- The equations of what is come to. -/
def hM (P : Nat → Nat → Rat) (l s : List Nat) (k c : Nat) : Rat := if c < l.length then P (l.getD k 0) (l.getD c 0) - (if k = c then 1 else 0) else 0 - lsm (P (l.getD k 0)) s
end Go.Proofs.YtbejijgelljeaaaGreatDoor
