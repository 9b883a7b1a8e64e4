/- Plain: a net's numbers, all together; what is left of what is given. -/
import Derived.Test.YtbejijgelljeaaaGreatDoorChnHToSumN
import Derived.Test.YtbejijgelljeaaaGreatDoorNormBToMadC
import Derived.Test.YtbejijgelljeaaaGreatDoorConRToChnA
import Derived.Test.YtbejijgelljeaaaGreatDoorChnCToChnE
namespace Go.Proofs.YtbejijgelljeaaaGreatDoor
open Go.RowKit Go.Shelf

theorem nodup_le : ∀ (n : Nat) (l : List Nat), l.Nodup → (∀ x ∈ l, x < n) → l.length ≤ n
  | 0, l, _, h => by
    cases l with
    | nil => exact Nat.le_refl _
    | cons a l => exact absurd (h a List.mem_cons_self) (by omega)
  | n + 1, l, hn, h => by
    by_cases hm : n ∈ l
    · have h1 := List.length_erase_of_mem hm
      have h2 := nodup_le n (l.erase n) (hn.erase n) (fun x hx => by
        have h3 := h x (List.mem_of_mem_erase hx)
        have hne : x ≠ n := fun e => by subst e; exact hn.not_mem_erase hx
        omega)
      have h4 := List.length_pos_of_mem hm
      omega
    · have h2 := nodup_le n l hn (fun x hx => by
        have h3 := h x hx
        have hne : x ≠ n := fun e => hm (e ▸ hx)
        omega)
      omega
theorem perm_range : ∀ (n : Nat) (l : List Nat), l.Nodup → (∀ x ∈ l, x < n) → l.length = n → l.Perm (List.range n)
  | 0, l, _, _, h => by
    have := List.length_eq_zero_iff.1 h
    subst this
    exact List.Perm.refl _
  | n + 1, l, hn, h, hl => by
    have hm : n ∈ l := Classical.byContradiction fun hm => by
      have := nodup_le n l hn (fun x hx => by
        have h3 := h x hx
        have hne : x ≠ n := fun e => hm (e ▸ hx)
        omega)
      omega
    have h1 := List.length_erase_of_mem hm
    have h2 := perm_range n (l.erase n) (hn.erase n) (fun x hx => by
      have h3 := h x (List.mem_of_mem_erase hx)
      have hne : x ≠ n := fun e => by subst e; exact hn.not_mem_erase hx
      omega) (by omega)
    rw [List.range_succ]
    exact (List.perm_cons_erase hm).trans ((h2.cons n).trans (List.perm_append_singleton n (List.range n)).symm)
theorem ord_all {V : List Vr} {L : List (List Int)} {R : List (List Fr)} (h : netE V L R = 0) : (ordN (parN L) L.length).length = L.length := by
  rw [netE] at h
  by_cases h1 : L.length = V.length ∧ R.length = V.length
  · rw [if_pos h1] at h
    by_cases h2 : gcE L = 0
    · rw [gcE] at h2
      by_cases h3 : gB L = true
      · rw [if_pos h3] at h2
        by_cases h4 : (ordN (parN L) L.length).length < L.length
        · rw [if_pos h4] at h2; cases h2
        · have := ord_len (parN L) L.length
          omega
      · rw [if_neg h3] at h2; cases h2
    · rw [if_neg h2] at h; exact absurd h h2
  · rw [if_neg h1] at h; cases h
theorem over_all {S vs : List Nat} (k : Nat) : over vs (fun _ => 0) (asg S vs k) = asg S vs k := by
  funext u
  rw [over]
  by_cases e : u ∈ vs
  · rw [if_pos e]
  · rw [if_neg e, asg_out e]
/-- All assignments together are as likely as 1. -/
theorem total_one {V : List Vr} {L : List (List Int)} {R : List (List Fr)} (h0 : netE V L R = 0) : sumQ (fun k => prodV V L R (asg (sizesN V) (List.range V.length) k) V.length) (cnt (sizesN V) (List.range V.length)) = 1 := by
  have hok := netE_ok h0
  have hps : Pos (sizesN V) := by have := hok.fine.pos; rwa [toN_iL] at this
  obtain ⟨hn, hs⟩ := nsum_order h0 L.length (ord_all h0) (Nat.le_refl _)
  have hp : (ordN (parN L) L.length).Perm (List.range V.length) := by
    rw [← hok.len]
    refine perm_range L.length _ hn (fun x hx => ?_) (ord_all h0)
    have := ord_lt (parN L) L.length x hx
    rwa [parN_length] at this
  have hz : ∀ u, (fun _ : Nat => 0) u < sz (sizesN V) u := fun u => sz_pos hps u
  have e := nsum_all (S := sizesN V) (fun g => prodV V L R g V.length) (List.range V.length) (fun _ => 0) List.nodup_range
  rw [sumQ_congr (h := fun k => prodV V L R (asg (sizesN V) (List.range V.length) k) V.length) fun k _ => by rw [over_all]] at e
  rw [e, ← nsum_perm _ hp hn, ← hs (fun _ => 0) hz]
  refine nsum_congr (fun g _ => ?_) _ _ hz
  rw [prodS_range]
  exact (prodS_perm hp).symm
theorem outQ_sum (g : Nat → Rat) : ∀ m, outQ false g m = sumQ g (m + 1)
  | 0 => by show g 0 = 0 + g 0; rw [Rat.zero_add]
  | m + 1 => by
    rw [outQ, outQ_sum g m]
    rfl
theorem likF_congr {V : List Vr} {L : List (List Int)} {R : List (List Fr)} {f g : Nat → Nat} {v : Nat} (h : ∀ u, u = v ∨ u ∈ toN (L.getD v []) → f u = g u) : likF V L R f v = likF V L R g v := by
  rw [likF, likF, likT, likT, pos_congr (sizesN V) (f := f) (g := g) fun u hu => h u (.inr hu), h v (.inl rfl)]
/-- What is given, the variable taken out: 1 everywhere. -/
theorem out_one {V : List Vr} {L : List (List Int)} {R : List (List Fr)} (h0 : netE V L R = 0) {v : Nat} (hv : v < V.length) {rest : List Nat} : ∀ K (h : K < (outL (sizesN V) (toN (gU L v)) rest v false (gL V L R v)).length), (outL (sizesN V) (toN (gU L v)) rest v false (gL V L R v))[K] = qF 1 := by
  have hok := netE_ok h0
  have hvL : v < L.length := by rw [hok.len]; exact hv
  have hps : Pos (sizesN V) := by have := hok.fine.pos; rwa [toN_iL] at this
  have eLv : L.getD v [] = L[v] := by rw [List.getD_eq_getElem?_getD, List.getElem?_eq_getElem hvL]; rfl
  have hup : Up (gU L v) V.length := by rw [gU, eLv]; exact togL_up (hok.up v hvL) (up_one hv)
  have hmem : ∀ u, u = v ∨ u ∈ toN (L.getD v []) → u ∈ toN (gU L v) := fun u hu => by
    obtain ⟨_, h2⟩ := togL_rise (L.getD v []) [(v : Int)]
    rcases hu with rfl | hu
    · exact List.mem_map.2 ⟨(u : Int), (h2 _).2 (.inr (List.mem_singleton.2 rfl)), Int.toNat_natCast u⟩
    · obtain ⟨z, hz, rfl⟩ := List.mem_map.1 hu
      exact List.mem_map.2 ⟨z, (h2 _).2 (.inl hz), rfl⟩
  intro K hK
  have hK' : K < cnt (sizesN V) rest := by simpa [outL] using hK
  have hf := fun z => asg_lt hps rest K z hK'
  have hsv := sz_pos hps v
  simp only [outL, List.getElem_map, List.getElem_range]
  congr 1
  rw [frQ_outN, outQ_sum, show sz (sizesN V) v - 1 + 1 = sz (sizesN V) v by omega, ← row_one h0 hv hf]
  refine sumQ_congr fun x hx => ?_
  have hw : ∀ u, withV (asg (sizesN V) rest K) v x u < sz (sizesN V) u := fun u => by
    rw [withV]
    by_cases e : u = v
    · rw [if_pos e, e]; exact hx
    · rw [if_neg e]; exact hf u
  rw [gL, celF_map _ (pos_lt _ hw _), frQ_qF]
  congr 1
  exact likF_congr fun u hu => asg_pos hps hw hup.nodup u (hmem u hu)
end Go.Proofs.YtbejijgelljeaaaGreatDoor


/- The document's answer: a net under way. -/
namespace Go.Proofs.YtbejijgelljeaaaGreatDoor
open Go.RowKit Go.Shelf Go.Lib

theorem grown_low {w W W' : World} {v : Value} {n : Nat} {tt : TypeId} {sz0 : Nat} {xs : List Value} (hb : Below w.heap.size w W) (ho : W.ownsRow w.heap.size tt sz0 v n xs) (hg : W.grownBy W' v.ownBlock) : Below w.heap.size w W' := hb.grown hg hb.size (fun k e => owns_from ho k e)
/-- The variables made so far. -/
structure VK (v : Nat) (Vs : List PV) : Prop where
  len : Vs.length = v
  each : ∀ j (h : j < Vs.length), Vs[j].1 = nmB 110 j ∧ ∃ k, 1 ≤ k ∧ k ≤ 3 ∧ Vs[j].2.2 = valsN k
theorem VK.snoc {v : Nat} {Vs : List PV} (h : VK v Vs) (q : Value) {k : Nat} (h1 : 1 ≤ k) (h3 : k ≤ 3) : VK (v + 1) (Vs ++ [(nmB 110 v, q, valsN k)]) := by
  refine ⟨by simp [h.len], fun j hj => ?_⟩
  rcases Nat.lt_or_ge j Vs.length with hlt | hge
  · rw [List.getElem_append_left hlt]
    exact h.each j hlt
  · rw [List.getElem_append_right hge]
    have e : j = v := by simp at hj; have := h.len; omega
    subst e
    simp [h.len]
    exact ⟨k, h1, h3, rfl⟩
def vOf (Vs : List PV) : List Vr := Vs.map fun p => (p.1, p.2.2)
def lOf (Ls : List PL) : List (List Int) := Ls.map (·.2)
def rOf (Rs : List PR) : List (List Fr) := Rs.map (·.2)
/-- What parents may be. -/
structure ParOK (bk : Bool) (n j : Nat) (l : List Int) : Prop where
  up : Up l n
  few : l.length ≤ 3
  rank : ∀ x ∈ l, if bk = true then (j : Int) < x else x < (j : Int)
/-- What a variable's rows are. -/
structure RowOK (S : List Nat) (j : Nat) (l : List Int) (r : List Fr) : Prop where
  len : r.length = cnt S (toN l) * sz S j
  rows : ∀ i, i < cnt S (toN l) → rowB (chunkF r (sz S j) i) = true
  small : ∀ f ∈ r, f.2.1.size + f.2.2.size ≤ 2
structure LK2 (bk : Bool) (n v : Nat) (S : List Nat) (Ls : List PL) (Rs : List PR) : Prop where
  len : Ls.length = v
  lenR : Rs.length = v
  pars : ∀ j (h : j < Ls.length), ParOK bk n j Ls[j].2
  rows : ∀ j (h : j < Ls.length) (h' : j < Rs.length), RowOK S j Ls[j].2 Rs[j].2
theorem LK2.snoc {bk : Bool} {n v : Nat} {S : List Nat} {Ls : List PL} {Rs : List PR} (h : LK2 bk n v S Ls Rs) {q q' : Value} {l : List Int} {r : List Fr} (h1 : ParOK bk n v l) (h2 : RowOK S v l r) : LK2 bk n (v + 1) S (Ls ++ [(q, l)]) (Rs ++ [(q', r)]) := by
  refine ⟨by simp [h.len], by simp [h.lenR], fun j hj => ?_, fun j hj hj' => ?_⟩
  · rcases Nat.lt_or_ge j Ls.length with hlt | hge
    · rw [List.getElem_append_left hlt]
      exact h.pars j hlt
    · rw [List.getElem_append_right hge]
      have e : j = v := by simp at hj; have := h.len; omega
      subst e
      simpa [h.len] using h1
  · rcases Nat.lt_or_ge j Ls.length with hlt | hge
    · have hlt' : j < Rs.length := by have := h.len; have := h.lenR; omega
      rw [List.getElem_append_left hlt, List.getElem_append_left hlt']
      exact h.rows j hlt hlt'
    · have hge' : Rs.length ≤ j := by have := h.len; have := h.lenR; omega
      rw [List.getElem_append_right hge, List.getElem_append_right hge']
      have e : j = v := by simp at hj; have := h.len; omega
      subst e
      simpa [h.len, h.lenR] using h2
/-- Parents under way. -/
structure PP (bk : Bool) (n v u : Nat) (l : List Int) : Prop where
  ok : ParOK bk n v l
  lt : ∀ x ∈ l, x < (u : Int)
theorem PP.nil (bk : Bool) (n v : Nat) : PP bk n v 0 [] := ⟨⟨up_iff.2 ⟨fun x hx => (List.not_mem_nil hx).elim, List.Pairwise.nil⟩, by simp, fun x hx => (List.not_mem_nil hx).elim⟩, fun x hx => (List.not_mem_nil hx).elim⟩
theorem PP.skip {bk : Bool} {n v u : Nat} {l : List Int} (h : PP bk n v u l) : PP bk n v (u + 1) l := ⟨h.ok, fun x hx => by have := h.lt x hx; omega⟩
theorem PP.snoc {bk : Bool} {n v u : Nat} {l : List Int} (h : PP bk n v u l) (hu : u < n) (h3 : l.length ≠ 3) (hr : if bk = true then v < u else u < v) : PP bk n v (u + 1) (l ++ [(u : Int)]) := by
  refine ⟨⟨up_iff.2 ⟨fun x hx => ?_, ?_⟩, ?_, fun x hx => ?_⟩, fun x hx => ?_⟩
  · rcases List.mem_append.1 hx with hx | hx
    · exact (up_iff.1 h.ok.up).1 x hx
    · rw [List.mem_singleton.1 hx]; omega
  · rw [List.pairwise_append]
    refine ⟨(up_iff.1 h.ok.up).2, List.pairwise_singleton _ _, fun x hx y hy => ?_⟩
    rw [List.mem_singleton.1 hy]
    exact h.lt x hx
  · have := h.ok.few
    simp
    omega
  · rcases List.mem_append.1 hx with hx | hx
    · exact h.ok.rank x hx
    · rw [List.mem_singleton.1 hx]
      cases bk
      · simp at hr ⊢; exact hr
      · simp at hr ⊢; exact hr
  · rcases List.mem_append.1 hx with hx | hx
    · have := h.lt x hx; omega
    · rw [List.mem_singleton.1 hx]; omega
/-- Rows under way. -/
structure RP (s k : Nat) (r : List Fr) : Prop where
  len : r.length = k * s
  rows : ∀ i, i < k → rowB (chunkF r s i) = true
  small : ∀ f ∈ r, f.2.1.size + f.2.2.size ≤ 2
theorem RP.nil (s : Nat) : RP s 0 [] := ⟨by simp, fun i hi => by omega, fun f hf => by cases hf⟩
theorem RP.snoc {s k : Nat} {r l : List Fr} (h : RP s k r) (hl : l.length = s) (hrow : rowB l = true) (hsm : ∀ f ∈ l, f.2.1.size + f.2.2.size ≤ 2) : RP s (k + 1) (r ++ l) := by
  refine ⟨by rw [List.length_append, h.len, hl, Nat.add_mul, Nat.one_mul], fun i hi => ?_, fun f hf => ?_⟩
  · have hm : i * s + s ≤ k * s ∨ i = k := by
      rcases Nat.lt_or_ge i k with h1 | h1
      · left
        have := Nat.mul_le_mul_right s h1
        rw [Nat.succ_mul] at this
        exact this
      · right; omega
    rcases hm with hm | rfl
    · have hik : i < k := by
        rcases Nat.lt_or_ge i k with h1 | h1
        · exact h1
        · have h2 := Nat.mul_le_mul_right s h1
          by_cases hs0 : s = 0
          · subst hs0
            have : l = [] := List.length_eq_zero_iff.1 hl
            subst this
            exact absurd hrow (by decide)
          · omega
      have e : chunkF (r ++ l) s i = chunkF r s i := by
        rw [chunkF, chunkF, List.drop_append_of_le_length (by rw [h.len]; omega), List.take_append_of_le_length (by rw [List.length_drop, h.len]; omega)]
      rw [e]
      exact h.rows i hik
    · have e : chunkF (r ++ l) s i = l := by
        rw [chunkF, ← h.len, List.drop_left, ← hl, List.take_length]
      rw [e]
      exact hrow
  · rcases List.mem_append.1 hf with hf | hf
    · exact h.small f hf
    · exact hsm f hf
theorem OwL.pars {W : World} {B : Nat} {y : Value} {Ls : List PL} (h : OwL W B y Ls) : ∃ a c, y = .slice a (lOf Ls).length c ∧ LsS W a (lOf Ls) ∧ LsN W a (lOf Ls) := by
  have hl : (lOf Ls).length = Ls.length := by simp [lOf]
  obtain ⟨a, c, rfl, _⟩ := owns_slice h.1
  have key : ∀ k (hk : k < Ls.length), ∃ g, a = some ⟨g, 0, none⟩ ∧ g < W.heap.size ∧ ∃ b cb, W.cell? ⟨g, k, none⟩ = some (.slice b Ls[k].2.length cb) ∧ IntS W b Ls[k].2 ∧ (b = none → cb = 0) := fun k hk => by
    obtain ⟨g, rfl, hg, c1⟩ := owns_cell h.1 (j := k) (by simpa using hk)
    have hin := h.2 Ls[k] (List.getElem_mem hk)
    obtain ⟨b, cb, eb, hn⟩ := owns_slice hin
    obtain ⟨b', cb', eb', hst⟩ := hin.ints
    rw [eb] at eb'
    cases eb'
    refine ⟨g, rfl, hg, b, cb, ?_, hst, hn⟩
    rw [c1]
    simp [eb]
  refine ⟨a, c, by rw [hl], fun k hk => ?_, fun k hk g o b n' c' ea hc hn => ?_⟩
  · rw [hl] at hk
    obtain ⟨g, rfl, hg, b, cb, c1, hst, _⟩ := key k hk
    exact ⟨g, 0, b, cb, rfl, hg, by rw [Nat.zero_add, c1]; simp [lOf], by simpa [lOf] using hst⟩
  · rw [hl] at hk
    obtain ⟨g', e', _, b', cb', c1, _, h0⟩ := key k hk
    rw [ea] at e'
    cases e'
    rw [Nat.zero_add, c1] at hc
    cases hc
    exact h0 hn
theorem OwR.rows {W : World} {B : Nat} {z : Value} {Rs : List PR} (h : OwR W B z Rs) : ∃ a c, z = .slice a (rOf Rs).length c ∧ FsS W a (rOf Rs) := by
  have hl : (rOf Rs).length = Rs.length := by simp [rOf]
  obtain ⟨a, c, rfl, _⟩ := owns_slice h.1
  refine ⟨a, c, by rw [hl], fun k hk => ?_⟩
  rw [hl] at hk
  obtain ⟨g, rfl, hg, c1⟩ := owns_cell h.1 (j := k) (by simpa using hk)
  have hin := h.2 Rs[k] (List.getElem_mem hk)
  obtain ⟨b, cb, eb, hst⟩ := hin.fr
  have hcap : Rs[k].2.length ≤ cb := by
    rcases hin.2 with ⟨h1, h2⟩ | ⟨g2, cap, cur, h1, _, _, h4, _⟩
    · omega
    · rw [eb] at h1
      injection h1 with _ _ h6
      omega
  exact ⟨g, 0, b, cb, rfl, hg, by rw [Nat.zero_add, c1]; simp [rOf, eb], by simpa [rOf] using hst, by simpa [rOf] using hcap⟩
/-- What the sizes are. -/
structure SK (n : Nat) (S : List Nat) : Prop where
  len : S.length = n
  each : ∀ x ∈ S, 1 ≤ x ∧ x ≤ 3
theorem VK.sizes {n : Nat} {Vs : List PV} (h : VK n Vs) : SK n (sizesN (vOf Vs)) := by
  refine ⟨by simp [sizesN, vOf, h.len], fun x hx => ?_⟩
  obtain ⟨p, hp, rfl⟩ := List.mem_map.1 hx
  obtain ⟨q, hq, rfl⟩ := List.mem_map.1 hp
  obtain ⟨j, hj, rfl⟩ := List.getElem_of_mem hq
  obtain ⟨_, k, h1, h3, e⟩ := h.each j hj
  show 1 ≤ Vs[j].2.2.length ∧ Vs[j].2.2.length ≤ 3
  rw [e, valsN_length]
  exact ⟨h1, h3⟩
theorem SK.fine {n : Nat} {S : List Nat} (h : SK n S) (h1 : 1 ≤ n) (h8 : n ≤ 8) : Fine (iL S) := by
  have hl := h.len
  refine ⟨by rw [iL_length]; omega, by rw [iL_length]; omega, fun v hv => ?_⟩
  have hv' : v < S.length := by rw [iL_length] at hv; exact hv
  have e : (iL S)[v] = ((S[v]'hv' : Nat) : Int) := by simp [iL]
  have := h.each _ (List.getElem_mem hv')
  rw [e]
  omega
theorem SK.sz {n : Nat} {S : List Nat} (h : SK n S) (u : Nat) : 1 ≤ sz S u ∧ sz S u ≤ 3 := by
  rw [Go.Proofs.YtbejijgelljeaaaGreatDoor.sz]
  cases e : S[u]? with
  | none => exact ⟨by decide, by decide⟩
  | some x => exact h.each x (List.mem_of_getElem? e)
theorem cnt_27 {n : Nat} {S : List Nat} (h : SK n S) {l : List Nat} (hl : l.length ≤ 3) : 1 ≤ cnt S l ∧ cnt S l ≤ 27 := by
  have h1 := cnt_three (S := S) (fun v => (h.sz v).2) l
  have h2 : 3 ^ l.length ≤ 3 ^ 3 := Nat.pow_le_pow_right (by omega) hl
  have h3 : ∀ l : List Nat, 1 ≤ cnt S l := fun l => by
    induction l with
    | nil => exact Nat.le_refl _
    | cons v l ih => exact Nat.mul_pos (h.sz v).1 ih
  exact ⟨h3 l, by omega⟩
end Go.Proofs.YtbejijgelljeaaaGreatDoor


/- The document's answer: a hidden chain of raw numbers; the law's signs. -/
namespace Go.Proofs.YtbejijgelljeaaaGreatDoor
open Go.RowKit Go.Shelf Go.Lib

/-- Two rows whose first cells differ lie in two blocks. -/
theorem owns_apart {w : World} {B B' : Nat} {v v' x x' : Value} {n n' : Nat} {xs xs' : List Value} (h : w.ownsRow B 27 1 v n (x :: xs)) (h' : w.ownsRow B' 27 1 v' n' (x' :: xs')) (hne : x ≠ x') : ∀ g, v'.ownBlock = some g → v.ownBlock ≠ some g := fun g hg hg' => by
  rcases h.2 with ⟨h1, _⟩ | ⟨g1, cap, cur, h1, _, h3, _, _, _, h7⟩
  · rw [h1] at hg'; cases hg'
  · rcases h'.2 with ⟨k1, _⟩ | ⟨g2, cap', cur', k1, _, k3, _, _, _, k7⟩
    · rw [k1] at hg; cases hg
    · rw [h1] at hg'
      rw [k1] at hg
      cases hg
      cases hg'
      rw [h3] at k3
      cases k3
      have e1 : cur.toList[0]? = some x := by
        have : (cur.toList.take (n * 1))[0]? = some x := by rw [h7]; rfl
        rw [List.getElem?_take] at this
        by_cases hn : 0 < n * 1
        · rwa [if_pos hn] at this
        · rw [if_neg hn] at this; cases this
      have e2 : cur.toList[0]? = some x' := by
        have : (cur.toList.take (n' * 1))[0]? = some x' := by rw [k7]; rfl
        rw [List.getElem?_take] at this
        by_cases hn : 0 < n' * 1
        · rwa [if_pos hn] at this
        · rw [if_neg hn] at this; cases this
      rw [e1] at e2
      cases e2
      exact hne rfl
theorem OwR.other {w w' : World} {B : Nat} {y z : Value} {P : List PR} (h : OwR w B z P) (hg : w.grownBy w' y.ownBlock) (hk : KeepT 33 w w') (hd : ∀ g, z.ownBlock = some g → y.ownBlock ≠ some g) : OwR w' B z P := by
  refine ⟨⟨h.1.1, ?_⟩, fun p hp => owns_keep (h.2 p hp) hk⟩
  rcases h.1.2 with h1 | ⟨g, cap, cur, h1, h2, h3, h4⟩
  · exact .inl h1
  · exact .inr ⟨g, cap, cur, h1, h2, (hg.block g (Array.getElem?_eq_some_iff.1 h3).1 (fun e => hd g (by rw [h1]; rfl) e.symm)).trans h3, h4⟩
/-- Both are empty, or their first rows lie apart. -/
def Hd (y z : Value) (P1 P2 : List PR) : Prop := (P1 = [] ∧ P2 = [] ∧ y = .slice none 0 0 ∧ z = .slice none 0 0) ∨ ∃ p Q1 q Q2, P1 = p :: Q1 ∧ P2 = q :: Q2 ∧ p.1 ≠ q.1
/-- Rows of raw weights, of so many each. -/
def RwP (i k : Nat) (P : List PR) : Prop := P.length = i ∧ ∀ p ∈ P, ∃ Ls, p.2 = rawF Ls ∧ Wts Ls k ∧ 1 ≤ Ls.sum
theorem RwP.push {i k : Nat} {P : List PR} (h : RwP i k P) (q : Value) {Ls : List Nat} (h1 : Wts Ls k) (h2 : 1 ≤ Ls.sum) : RwP (i + 1) k (P ++ [(q, rawF Ls)]) := by
  refine ⟨by rw [List.length_append, h.1]; rfl, fun p hp => ?_⟩
  rcases List.mem_append.1 hp with hp | hp
  · exact h.2 p hp
  · rw [List.mem_singleton.1 hp]
    exact ⟨Ls, rfl, h1, h2⟩
theorem RwF.apart {w : World} {B B' : Nat} {v v' : Value} {l l' : List Fr} (h : RwF w B v l) (h' : RwF w B' v' l') (h1 : 1 ≤ l.length) (h2 : 1 ≤ l'.length) (hb : ∀ g, v.ownBlock = some g → g < B') : v ≠ v' := fun e => by
  subst e
  rcases h.2 with ⟨_, k⟩ | ⟨g, cap, cur, e1, _⟩
  · omega
  · have h3 := hb g (by rw [e1]; rfl)
    have h4 : B' ≤ g := by
      rcases h'.2 with ⟨_, k⟩ | ⟨g', cap', cur', e2, k2, _⟩
      · omega
      · rw [e1] at e2
        injection e2 with e3 _ _
        injection e3 with e4
        injection e4 with e5 _ _
        rw [e5]
        exact k2
    omega

end Go.Proofs.YtbejijgelljeaaaGreatDoor


/- MatrixOf of the document's answer: a chain of raw numbers. -/
namespace Go.Proofs.YtbejijgelljeaaaGreatDoor
open Go.RowKit Go.Shelf

theorem OwR.push {U U' : World} {B : Nat} {y v' q : Value} {r : List Fr} {P : List PR} (h : OwR U B y P) (hr : U'.ownsRow B 27 1 v' (P.length + 1) (P.map (·.1) ++ [q])) (hg : U.grownBy U' y.ownBlock) (hq : RwF U B q r) : OwR U' B v' (P ++ [(q, r)]) := by
  have hk : KeepT 33 U U' := KeepT.grown hg (owns_typed h.1) (by decide)
  refine ⟨by rw [List.length_append, List.map_append]; exact hr, fun p hp => ?_⟩
  rcases List.mem_append.1 hp with hp | hp
  · exact owns_keep (h.2 p hp) hk
  · rw [List.mem_singleton.1 hp]
    exact owns_keep hq hk
theorem OwR.below {U U' : World} {B : Nat} {y : Value} {P : List PR} (h : OwR U B y P) (hb : Below U.heap.size U U') : OwR U' B y P := h.keep (KeepT.below hb) (KeepT.below hb)
set_option maxRecDepth 100000 in
set_option maxHeartbeats 2000000 in
theorem matrixOf_any (d : Option Addr) (cd n : Nat) (W : List Int) (w : World) (hW : IntS w d W) (hr : ∀ x ∈ W, -9223372036854775808 ≤ x ∧ x ≤ 9223372036854775807) (hWl : W.length ≤ 140737488355328) (hn1 : 1 ≤ n) (hn : n ≤ 5) :
    Calls Tryz.prog 8 #[.slice d W.length cd, .int .i64 (n : Nat)] w fun e w' => ∃ (y : Value) (P1 : List PR), e = .returned y ∧ OwR w' w.heap.size y P1 ∧ RwP n n P1 ∧ Below w.heap.size w w' := by
  have HROW := hid (fun (a : Option Addr) (ca : Nat) (L : List Int) (U : World) (hU : IntS U a L) (hr : ∀ x ∈ L, -9223372036854775808 ≤ x ∧ x ≤ 9223372036854775807) (hl : L.length = n) => rowOf_any a ca 0 n L U hU hr (by omega) hn1 hn (by omega))
  have HPK := hid (fun (c : Int) (h : -9223372036854775808 ≤ c ∧ c ≤ 9223372036854775807) (U : World) => rPick_any c 9 U h.1 h.2 (by omega) (by omega))
  have HPL := hid (fun (c : Int) => pickN_lt c (n := 9) (by omega))
  have HW := hid hW
  have HRG := hid hr
  clear hW hr
  go_enter Tryz.func8, Tryz.ntmps8
  go_wp2_with fail
  go_loopw [5, 6] (fun yv iv wr => ∃ i : Nat, i ≤ n ∧ iv = .int .i64 i ∧ ∃ P1 : List PR, Hid (OwR wr w.heap.size yv P1) ∧ Hid (RwP i n P1) ∧ Hid (Below w.heap.size w wr)) (fun _ iv _ => n - (intOf iv).toNat)
  case atStart => exact ⟨0, Nat.zero_le _, rfl, [], OwR.nil _ _, ⟨rfl, fun p hp => by cases hp⟩, Below.refl _ _⟩
  case round =>
    obtain ⟨i, hi, rfl, P1, HK, HP1, HB⟩ := hrel
    by_cases hlt : i < n
    · obtain ⟨B0, hB0⟩ : ∃ x, x = wr.heap.size := ⟨_, rfl⟩
      have HWR : Hid (w.heap.size ≤ B0) := by rw [hB0]; exact HB.out.size
      have HB0 := hid hB0
      clear hB0
      go_wp2_with fail
      go_loopw [7, 8] (fun lv kv wq => ∃ (k : Nat) (L : List Int), k ≤ n ∧ kv = .int .i64 k ∧ L.length = k ∧ Hid (∀ x ∈ L, -9223372036854775808 ≤ x ∧ x ≤ 9223372036854775807) ∧ Hid (RwI wq B0 lv L) ∧ Hid (OwR wq w.heap.size u5 P1) ∧ Hid (Below w.heap.size w wq) ∧ Hid (B0 ≤ wq.heap.size)) (fun _ kv _ => n - (intOf kv).toNat)
      case atStart => exact ⟨0, [], Nat.zero_le _, rfl, rfl, (fun x hx => by cases hx), ⟨rfl, .inl ⟨rfl, rfl⟩⟩, HK, HB, Nat.le_of_eq HB0.out⟩
      case round =>
        obtain ⟨k, L, hk, rfl, hLk, HLR, HL', HK', HB', HSZ'⟩ := hrel
        clear HK HB
        by_cases hlk : k < n
        · by_cases hw0 : 0 < W.length
          · obtain ⟨ik, hik⟩ : ∃ ik, ik = i * n + k := ⟨_, rfl⟩
            have hin : i * n ≤ 25 := Nat.le_trans (Nat.mul_le_mul (by omega : i ≤ 5) hn) (by decide)
            have ein : (i : Int) * (n : Int) = ((i * n : Nat) : Int) := by push_cast; rfl
            have hw1 : IntKind.i64.wrap ((i : Int) * (n : Int)) = ((i * n : Nat) : Int) := by rw [ein, IntKind.wrap_i64]; omega
            have hw2 : IntKind.i64.wrap (((i * n : Nat) : Int) + (k : Int)) = (ik : Int) := by rw [IntKind.wrap_i64]; omega
            generalize i * n = in_ at *
            clear ein
            obtain ⟨t, ht⟩ : ∃ t, t = ik % W.length := ⟨_, rfl⟩
            have htl : t < W.length := by rw [ht]; exact Nat.mod_lt _ hw0
            have hrem : (ik : Int) % (W.length : Int) = (t : Int) := by rw [ht, Int.natCast_emod]
            obtain ⟨g', o', rfl, hg', cW⟩ := (HW.out.below HB'.out) t htl
            have hxr := HRG.out W[t] (List.getElem_mem htl)
            have hpl := HPL.out W[t]
            have HPT := hid (fun U => HPK.out W[t] hxr U)
            have hwpos : (0 : Int) < (W.length : Int) := by omega
            have hwne : ¬ (W.length : Int) = 0 := by omega
            have hwr2 : IntKind.i64.wrap ((ik : Int) % (W.length : Int)) = (t : Int) := by rw [hrem, IntKind.wrap_i64]; omega
            clear ht hik hw0
            generalize W[t] = wt at *
            generalize pickN wt 9 = p at *
            go_wp2_with fail
            refine (HPT.out _).mono ?_
            rintro e w1 ⟨rfl, hb1⟩
            have HL1 := hid (HL'.out.below hb1)
            have HK1 := hid (HK'.out.below hb1)
            have HB1 := hid (HB'.out.trans (hb1.mono HB'.out.size))
            have HSZ1 : Hid (B0 ≤ w1.heap.size) := Nat.le_trans HSZ'.out hb1.size
            clear HL' HK' HB' HSZ' hb1 cW HPT
            by_cases hp3 : p < 3
            · have hneg : ((p : Int) - 3 < 0) := by omega
              have HXA := hid (HL1.out.below ((Below.refl _ w1).alloc (Nat.le_refl _) (.cells #[.int .i64 0] 3)))
              have HBA := hid (HB1.out.alloc HB1.out.size (.cells #[.int .i64 0] 3))
              have HKA := hid (HK1.out.below ((Below.refl _ w1).alloc (Nat.le_refl _) (.cells #[.int .i64 0] 3)))
              have HSA : Hid (B0 ≤ (w1.alloc (.cells #[.int .i64 0] 3)).heap.size) := Nat.le_trans HSZ1.out (by simp)
              have HIA := hid (one_int w1 0)
              have HLR2 : Hid (∀ x ∈ L ++ [(0 : Int)], -9223372036854775808 ≤ x ∧ x ≤ 9223372036854775807) := fun x hx => by
                rcases List.mem_append.1 hx with hx | hx
                · exact HLR.out x hx
                · rw [List.mem_singleton.1 hx]; omega
              clear HL1 HK1 HB1 HSZ1 hpl
              go_wp2_with (at_builtin; refine wpList_append_ints rfl _ _ rfl B0 _ L [(0 : Int)] rfl HXA.out (some ⟨w1.heap.size, 0, none⟩) 1 rfl HIA.out (fun e => by cases e) (by simp; omega) HSA.out ?_; intro v' w3 hr3 hg3; have HB3 := hid (HBA.out.grown hg3 HBA.out.size (fun k e => Nat.le_trans HWR.out (HXA.out.own k e))); have HK3 := hid (HKA.out.keep (KeepT.grown hg3 (owns_typed HXA.out) (by decide)) (KeepT.grown hg3 (owns_typed HXA.out) (by decide))); have HS3 : Hid (B0 ≤ w3.heap.size) := Nat.le_trans HSA.out hg3.size)
              go_roundw
              case rel => exact ⟨k + 1, L ++ [(0 : Int)], by omega, by go_num, by simp [hLk], HLR2, hr3, HK3, HB3, HS3⟩
              case measure => simp [intOf]; omega
            · have hneg : ¬ ((p : Int) - 3 < 0) := by omega
              obtain ⟨z, hz⟩ : ∃ z : Nat, z = p - 3 := ⟨_, rfl⟩
              have hzz : ((p : Int) - 3) = (z : Int) := by omega
              have hnz : ¬ ((z : Int) < 0) := by omega
              have hz9 : z < 9 := by omega
              clear hz
              have HXA := hid (HL1.out.below ((Below.refl _ w1).alloc (Nat.le_refl _) (.cells #[.int .i64 (z : Int)] 3)))
              have HBA := hid (HB1.out.alloc HB1.out.size (.cells #[.int .i64 (z : Int)] 3))
              have HKA := hid (HK1.out.below ((Below.refl _ w1).alloc (Nat.le_refl _) (.cells #[.int .i64 (z : Int)] 3)))
              have HSA : Hid (B0 ≤ (w1.alloc (.cells #[.int .i64 (z : Int)] 3)).heap.size) := Nat.le_trans HSZ1.out (by simp)
              have HIA := hid (one_int w1 (z : Int))
              have HLR2 : Hid (∀ x ∈ L ++ [((z : Int) : Int)], -9223372036854775808 ≤ x ∧ x ≤ 9223372036854775807) := fun x hx => by
                rcases List.mem_append.1 hx with hx | hx
                · exact HLR.out x hx
                · rw [List.mem_singleton.1 hx]; omega
              clear HL1 HK1 HB1 HSZ1 hpl hneg
              go_wp2_with (at_builtin; refine wpList_append_ints rfl _ _ rfl B0 _ L [((z : Int) : Int)] rfl HXA.out (some ⟨w1.heap.size, 0, none⟩) 1 rfl HIA.out (fun e => by cases e) (by simp; omega) HSA.out ?_; intro v' w3 hr3 hg3; have HB3 := hid (HBA.out.grown hg3 HBA.out.size (fun k e => Nat.le_trans HWR.out (HXA.out.own k e))); have HK3 := hid (HKA.out.keep (KeepT.grown hg3 (owns_typed HXA.out) (by decide)) (KeepT.grown hg3 (owns_typed HXA.out) (by decide))); have HS3 : Hid (B0 ≤ w3.heap.size) := Nat.le_trans HSA.out hg3.size)
              go_roundw
              case rel => exact ⟨k + 1, L ++ [((z : Int) : Int)], by omega, by go_num, by simp [hLk], HLR2, hr3, HK3, HB3, HS3⟩
              case measure => simp [intOf]; omega
          · have hgt : ¬ (0 : Int) < (W.length : Int) := by omega
            have hgt2 : decide (0 < W.length) = false := decide_eq_false (by omega)
            have HXA := hid (HL'.out.below ((Below.refl _ wr).alloc (Nat.le_refl _) (.cells #[.int .i64 1] 3)))
            have HBA := hid (HB'.out.alloc HB'.out.size (.cells #[.int .i64 1] 3))
            have HKA := hid (HK'.out.below ((Below.refl _ wr).alloc (Nat.le_refl _) (.cells #[.int .i64 1] 3)))
            have HSA : Hid (B0 ≤ (wr.alloc (.cells #[.int .i64 1] 3)).heap.size) := Nat.le_trans HSZ'.out (by simp)
            have HIA := hid (one_int wr 1)
            have HLR2 : Hid (∀ x ∈ L ++ [(1 : Int)], -9223372036854775808 ≤ x ∧ x ≤ 9223372036854775807) := fun x hx => by
              rcases List.mem_append.1 hx with hx | hx
              · exact HLR.out x hx
              · rw [List.mem_singleton.1 hx]; omega
            clear HL' HK' HB' HSZ' 
            go_wp2_with (at_builtin; refine wpList_append_ints rfl _ _ rfl B0 _ L [(1 : Int)] rfl HXA.out (some ⟨wr.heap.size, 0, none⟩) 1 rfl HIA.out (fun e => by cases e) (by simp; omega) HSA.out ?_; intro v' w3 hr3 hg3; have HB3 := hid (HBA.out.grown hg3 HBA.out.size (fun k e => Nat.le_trans HWR.out (HXA.out.own k e))); have HK3 := hid (HKA.out.keep (KeepT.grown hg3 (owns_typed HXA.out) (by decide)) (KeepT.grown hg3 (owns_typed HXA.out) (by decide))); have HS3 : Hid (B0 ≤ w3.heap.size) := Nat.le_trans HSA.out hg3.size)
            go_roundw
            case rel => exact ⟨k + 1, L ++ [(1 : Int)], by omega, by go_num, by simp [hLk], HLR2, hr3, HK3, HB3, HS3⟩
            case measure => simp [intOf]; omega
        · obtain rfl : k = n := by omega
          obtain ⟨dl, cl, rfl, hii⟩ := RwI.ints HL'.out
          have HRO : Hid (Calls Tryz.prog 29 #[.slice dl k cl, .int .i64 0, .int .i64 (k : Nat)] wr fun e w' => ∃ (x : Value) (Ls : List Nat), e = .returned x ∧ RwF w' wr.heap.size x (rawF Ls) ∧ Wts Ls k ∧ 1 ≤ Ls.sum ∧ Below wr.heap.size wr w') := by
            have h := HROW.out dl cl L _ hii HLR.out hLk
            rw [hLk] at h
            exact h
          clear hii HL'
          go_wp2_with fail
          refine HRO.out.mono ?_
          rintro e w3 ⟨xa, La, rfl, hxa, hwa, hsa, hb3⟩
          obtain ⟨da, na, ca, rfl⟩ := hxa.slv
          obtain ⟨dy, cy, rfl, -⟩ := owns_slice HK'.out.1
          have hAL := (Below.refl w3.heap.size w3).alloc (Nat.le_refl _) (.cells #[.slice da na ca] 27)
          have hone : (w3.alloc (.cells #[.slice da na ca] 27)).heap[w3.heap.size]? = some (.cells #[.slice da na ca] 27 (0, 0)) := heap_alloc_new w3 _
          have HC1 : Hid ((w3.alloc (.cells #[.slice da na ca] 27)).cell? ⟨w3.heap.size, 0, none⟩ = some (.slice da na ca)) := by
            show _ = _
            rw [cell_of_row _ _ _ _ _ (0, 0) hone]
            rfl
          have HB4 := hid ((HB'.out.trans (hb3.mono HB'.out.size)).alloc (Nat.le_trans HB'.out.size hb3.size) (.cells #[.slice da na ca] 27))
          have HA := hid ((hxa.lower HB'.out.size).below hAL)
          have HK4 := hid ((HK'.out.below hb3).below hAL)
          have HPP := hid (HP1.out.push (.slice da na ca) hwa hsa)
          have HL1 := hid HP1.out.1
          clear hone hAL hxa hwa hsa hb3 HK' HB'
          go_wp2_with (at_builtin; refine wpList_append_rs rfl _ _ rfl w.heap.size (.slice dy P1.length cy) P1 (.slice da na ca) ⟨_, _, _, rfl⟩ rfl HK4.out.1 w3.heap.size rfl HC1.out (by rw [HL1.out]; omega) HB4.out.size ?_; intro v5 w5 hr5 hg5; have HK5 := hid (HK4.out.push hr5 hg5 HA.out); have HB5 := hid (HB4.out.grown hg5 HB4.out.size (fun k e => owns_from HK4.out.1 k e)))
          go_roundw
          case rel => exact ⟨i + 1, by omega, by go_num, _, HK5, HPP, HB5⟩
          case measure => simp [intOf]; omega
    · obtain rfl : i = n := by omega
      go_wp2
      go_ret
      exact ⟨_, P1, rfl, HK.out, HP1.out, HB.out⟩
end Go.Proofs.YtbejijgelljeaaaGreatDoor


/- A chain that is made of raw numbers may be; what it is after so many steps. -/
namespace Go.Proofs.YtbejijgelljeaaaGreatDoor
open Go.RowKit Go.Shelf

theorem fw_small : ∀ {l : List Fr}, (∀ f ∈ l, f.2.1.size + f.2.2.size ≤ 2) → fw l ≤ 10 * l.length
  | [], _ => Nat.zero_le _
  | f :: l, h => by
    have h1 := h f List.mem_cons_self
    have h2 := fw_small (l := l) fun g hg => h g (List.mem_cons_of_mem _ hg)
    simp only [fw, List.length_cons]
    omega
theorem raw_lF {Ls : List Nat} {n : Nat} (hw : Wts Ls n) : rawF Ls = lF n fun j => (Ls.getD j 0 : Rat) / (Ls.sum : Rat) := by
  refine List.ext_getElem (by rw [rawF_length, lF_length]; exact hw.len) fun i h1 h2 => ?_
  have hi : i < Ls.length := by rw [rawF_length] at h1; exact h1
  rw [lF_get]
  simp [rawF, hi]
theorem raw_fits {Ls : List Nat} {n : Nat} (hw : Wts Ls n) (hn : n ≤ 5) (hs : 1 ≤ Ls.sum) (j : Nat) : Fits 1 ((Ls.getD j 0 : Rat) / (Ls.sum : Rat)) := by
  have h6 := sum_le6 hw.six
  have hl := hw.len
  have h1 : Ls.getD j 0 ≤ 6 := by
    by_cases hj : j < Ls.length
    · exact hw.six _ (getD_mem hj)
    · rw [List.getD_eq_getElem?_getD, List.getElem?_eq_none (by omega)]; simp
  exact ⟨(Ls.getD j 0 : Int), Ls.sum, by omega, by rw [Rat.mkRat_eq_div]; rfl, by omega, by simp only [Int.natAbs_natCast]; omega⟩
theorem chM_of {n : Nat} {P1 : List PR} (h1 : 1 ≤ n) (h5 : n ≤ 5) (h : RwP n n P1) : ∃ P : Nat → Nat → Rat, rOf P1 = mR n P ∧ ChM n P := by
  have hl : (rOf P1).length = n := by simp [rOf, h.1]
  have key : ∀ i, ∃ f : Nat → Rat, ∀ hi : i < (rOf P1).length, (rOf P1)[i] = lF n f ∧ (∀ j, Fits 1 (f j)) ∧ rowB (lF n f) = true := fun i => by
    by_cases hi : i < (rOf P1).length
    · have hi' : i < P1.length := by simpa [rOf] using hi
      obtain ⟨Ls, e1, e2, e3⟩ := h.2 P1[i] (List.getElem_mem hi')
      refine ⟨fun j => (Ls.getD j 0 : Rat) / (Ls.sum : Rat), fun _ => ⟨by rw [← raw_lF e2, ← e1]; simp [rOf], raw_fits e2 h5 e3, by rw [← raw_lF e2]; exact rawF_row e3⟩⟩
    · exact ⟨fun _ => 0, fun hi' => absurd hi' hi⟩
  have hch : ∃ P : Nat → Nat → Rat, ∀ i (hi : i < (rOf P1).length), (rOf P1)[i] = lF n (P i) ∧ (∀ j, Fits 1 (P i j)) ∧ rowB (lF n (P i)) = true := ⟨fun i => Classical.choose (key i), fun i hi => Classical.choose_spec (key i) hi⟩
  obtain ⟨P, hP⟩ := hch
  have hrow : ∀ i, i < n → rowB (lF n (P i)) = true := fun i hi => (hP i (by omega)).2.2
  have hfit : ∀ i j, i < n → Fits 1 (P i j) := fun i j hi => (hP i (by omega)).2.1 j
  refine ⟨P, List.ext_getElem (by rw [mR_length]; exact hl) fun i q1 q2 => by rw [mR_get]; exact (hP i q1).1, h1, h5, ⟨fun i j hi hj => ?_, fun i hi => ?_⟩, fun i j hi _ => hfit i j hi, ⟨mR_length n P, fun i hi => by rw [mR_get, lF_length], fun i hi => ?_, fun i hi => by rw [mR_get]; exact hrow i (by rw [mR_length] at hi; exact hi)⟩⟩
  · have h9 := hrow i hi
    rw [rowB, Bool.and_eq_true, List.all_eq_true] at h9
    have h8 := h9.1 (qF (P i j)) (List.mem_map.2 ⟨j, List.mem_range.2 hj, rfl⟩)
    rw [frQ_qF] at h8
    exact Rat.not_lt.1 (of_decide_eq_true h8)
  · have h9 := hrow i hi
    rw [rowB, Bool.and_eq_true] at h9
    rw [← fsum_lF]
    exact of_decide_eq_true h9.2
  · have hi' : i < n := by rw [mR_length] at hi; exact hi
    rw [mR_get]
    have h9 := fw_small (l := lF n (P i)) fun f hf => by
      obtain ⟨j, hj, rfl⟩ := List.mem_map.1 hf
      show (nu _).size + (de _).size ≤ 2
      rw [own_size]
      have := fits_qw (hfit i j hi')
      omega
    rw [lF_length] at h9
    omega
/-- What it is after so many steps, from 1 there and 0 elsewhere. -/
def lowQ (n : Nat) (P : Nat → Nat → Rat) (S : List Nat) : Nat → Nat → Rat
  | 0, i => if i ∈ S then 1 else 0
  | k + 1, i => if i ∈ S then 1 else sumR (fun j => P i j * lowQ n P S k j) n
def bL : Nat → Nat
  | 0 => 1
  | k + 1 => 5 * bL k + 11
theorem lowQ_fits {n : Nat} {P : Nat → Nat → Rat} {S : List Nat} (h5 : n ≤ 5) (hf : ∀ i j, i < n → j < n → Fits 1 (P i j)) : ∀ k i, i < n → Fits (bL k) (lowQ n P S k i)
  | 0, i, _ => by
    show Fits 1 (if i ∈ S then 1 else 0)
    by_cases h : i ∈ S
    · rw [if_pos h]; exact fits_one
    · rw [if_neg h]; exact fits_zero
  | k + 1, i, hi => by
    show Fits _ (if i ∈ S then 1 else sumR (fun j => P i j * lowQ n P S k j) n)
    by_cases h : i ∈ S
    · rw [if_pos h]; exact fits_up fits_one (by rw [bL]; omega)
    · rw [if_neg h]
      have h1 := fits_sumR (f := fun j => P i j * lowQ n P S k j) (c := 1 + bL k) (n := n) fun j hj => fits_tim (hf i j hi hj) (lowQ_fits h5 hf k j hj)
      refine fits_up h1 ?_
      have h2 : n * (1 + bL k + 1) ≤ 5 * (1 + bL k + 1) := Nat.mul_le_mul_right _ h5
      rw [bL]
      omega
theorem lowQ_le {n : Nat} {P : Nat → Nat → Rat} {l S : List Nat} {x h : Nat → Rat} (H : Hit n P l S x h) : ∀ k i, i < n → lowQ n P S k i ≤ h i
  | 0, i, hi => by
    show (if i ∈ S then 1 else 0) ≤ h i
    by_cases e : i ∈ S
    · rw [if_pos e, H.ons i e]; exact Rat.le_refl
    · rw [if_neg e]; exact (H.all hi).1
  | k + 1, i, hi => H.most (fun j hj => lowQ_le H k j hj) (fun j _ e => if_pos e) (fun j _ e => if_neg e) i hi
theorem sum_part_qw {n b j : Nat} {F : Nat → Rat} (h5 : n ≤ 5) (hb : b ≤ 3500) (hF : ∀ i, i < n → Fits b (F i)) (hj : j ≤ n) : qw (sumR F j) ≤ 50000 := by
  have h1 := fits_qw (fits_sumR (f := F) (c := b) (n := j) fun i hi => hF i (by omega))
  have h2 : j * (b + 1) ≤ 5 * (b + 1) := Nat.mul_le_mul_right _ (by omega)
  omega
end Go.Proofs.YtbejijgelljeaaaGreatDoor

