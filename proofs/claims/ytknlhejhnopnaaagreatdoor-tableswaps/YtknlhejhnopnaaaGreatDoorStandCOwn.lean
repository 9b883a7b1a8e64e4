/- Package table: where an assignment and a value of one more variable stand in another table. -/
import Derived.Test.YtknlhejhnopnaaaGreatDoorStandAToStandB
namespace Go.Proofs.YtknlhejhnopnaaaGreatDoor
open Go.RowKit Go.Shelf

theorem pos_lt {S : List Nat} (f : Nat → Nat) (hf : ∀ u, f u < sz S u) : ∀ vs : List Nat, pos S f vs < cnt S vs := by
  intro vs
  have key : ∀ (vs : List Nat) (k c : Nat), k < c → vs.foldl (fun k v => k * sz S v + f v) k < c * cnt S vs := by
    intro vs
    induction vs with
    | nil => intro k c h; simpa [cnt] using h
    | cons u vs ih =>
      intro k c h
      have h1 : k * sz S u + f u < c * sz S u := by
        have h2 : (k + 1) * sz S u ≤ c * sz S u := Nat.mul_le_mul_right _ h
        have h3 := hf u
        rw [Nat.add_mul, Nat.one_mul] at h2
        omega
      have := ih _ _ h1
      rwa [Nat.mul_assoc] at this
  have := key vs 0 1 (by omega)
  rwa [Nat.one_mul] at this
theorem asg_lt {S : List Nat} (hp : Pos S) : ∀ (vs : List Nat) (k v : Nat), k < cnt S vs → asg S vs k v < sz S v
  | [], _, v, _ => sz_pos hp v
  | u :: vs, k, v, h => by
    rw [asg]
    by_cases e : v = u
    · rw [if_pos e, e]
      exact (Nat.div_lt_iff_lt_mul (cnt_pos hp vs)).2 h
    · rw [if_neg e]
      exact asg_lt hp vs _ v (Nat.mod_lt _ (cnt_pos hp vs))
/-- One value more. -/
def withV (f : Nat → Nat) (v x : Nat) : Nat → Nat := fun u => if u = v then x else f u
theorem sumL_bump {g h : Nat → Nat} {v : Nat} (hv : g v = 0) (he : ∀ u, ¬ u = v → h u = g u) : ∀ {l : List Nat}, l.Nodup → sumL h l = sumL g l + if v ∈ l then h v else 0
  | [], _ => by simp [sumL]
  | u :: l, hn => by
    rw [List.nodup_cons] at hn
    rw [sumL, sumL, sumL_bump hv he hn.2]
    by_cases e : u = v
    · subst e
      rw [if_neg hn.1, if_pos List.mem_cons_self, hv]
      omega
    · rw [he u e]
      have : v ∈ u :: l ↔ v ∈ l := by rw [List.mem_cons]; exact ⟨fun h => h.elim (fun h => absurd h.symm e) id, .inr⟩
      simp only [this]
      omega
theorem pos_with {S : List Nat} {f : Nat → Nat} {v : Nat} (x : Nat) (hf : f v = 0) {other : List Nat} (hn : other.Nodup) : pos S f other + x * stp S other v = pos S (withV f v x) other := by
  rw [pos_sum S f hn, pos_sum S (withV f v x) hn, sumL_bump (g := fun u => f u * stp S other u) (h := fun u => withV f v x u * stp S other u) (v := v) (by show f v * _ = 0; rw [hf, Nat.zero_mul]) (fun u hu => by show withV f v x u * _ = f u * _; rw [withV, if_neg hu]) hn]
  congr 1
  by_cases h : v ∈ other
  · rw [if_pos h]; show _ = withV f v x v * _; rw [withV, if_pos rfl]
  · rw [if_neg h, stp_out h, Nat.mul_zero]

/-- A function that tells where an assignment of vars, with a value of v, stands in a table of other; what it holds of its own lies at n or above, below m. -/
def StandW (W : World) (n m : Nat) (f : Value) (a b : Option Addr) (ca cb : Nat) (sizes vars other : List Int) (v : Nat) : Prop :=
  ∃ (Bf Bt : Nat) (g : Value), f = .func (.func 113) #[] #[.pointer (some ⟨Bf, 0, none⟩), .pointer (some ⟨Bt, 0, none⟩)] ∧ n ≤ Bf ∧ n ≤ Bt ∧ Bf < m ∧ Bt < m ∧ m ≤ W.heap.size ∧
    W.cell? ⟨Bf, 0, none⟩ = some g ∧ W.cell? ⟨Bt, 0, none⟩ = some (.int .i64 (stp (toN sizes) (toN other) v : Nat)) ∧ StandF W n m g a b ca cb sizes vars other
theorem StandW.kept {W V : World} {n m : Nat} {f : Value} {a b : Option Addr} {ca cb : Nat} {sizes vars other : List Int} {v : Nat} (h : StandW W n m f a b ca cb sizes vars other v) (hk : KeepsIn n m W V) : StandW V n m f a b ca cb sizes vars other v := by
  obtain ⟨Bf, Bt, g, h0, n1, n2, h1, h2, _, h3, h4, h5⟩ := h
  exact ⟨Bf, Bt, g, h0, n1, n2, h1, h2, hk.1, (World.cell?_of_block (hk.2 Bf n1 h1)).trans h3, (World.cell?_of_block (hk.2 Bt n2 h2)).trans h4, h5.kept hk⟩

theorem held2 {w u : World} {p q : Addr} {x y : Value} (hb : Below w.heap.size w u) (hp : p.block < w.heap.size) (hq : q.block < w.heap.size) (h1 : w.cell? p = some x) (h2 : w.cell? q = some y) : (u.cell? p = some x ∧ u.cell? q = some y) ∧ Hid (Below w.heap.size w u) := ⟨⟨(hb.cell hp).trans h1, (hb.cell hq).trans h2⟩, hb⟩

set_option maxRecDepth 100000 in
set_option maxHeartbeats 400000 in
theorem standingWith1_any (Bf Bt : Nat) (lb : Array Value) (K val P st : Nat) (w : World) (hBf : Bf < w.heap.size) (h1 : w.cell? ⟨Bf, 0, none⟩ = some (.func (.func 103) #[] lb)) (hBt : Bt < w.heap.size) (h2 : w.cell? ⟨Bt, 0, none⟩ = some (.int .i64 (st : Nat))) (hc : ∀ V, Below w.heap.size w V → Calls Tryz.prog 103 (#[.int .i64 (K : Nat)] ++ lb) V fun e w' => e = .returned (.int .i64 (P : Nat)) ∧ Below V.heap.size V w') (hP : P ≤ 65536) (hval : val ≤ 4) (hst : st ≤ 65536) :
    Calls Tryz.prog 113 #[.int .i64 (K : Nat), .int .i64 (val : Nat), .pointer (some ⟨Bf, 0, none⟩), .pointer (some ⟨Bt, 0, none⟩)] w fun e w' => e = .returned (.int .i64 (P + val * st : Nat)) ∧ Below w.heap.size w w' := by
  have HC := hid hc
  have h0 : val * st ≤ 262144 := Nat.le_trans (Nat.mul_le_mul hval hst) (by decide)
  have hmc : (val : Int) * (st : Int) = ((val * st : Nat) : Int) := (Int.natCast_mul _ _).symm
  have hw3 : IntKind.i64.wrap ((val : Int) * (st : Int)) = (val : Int) * (st : Int) := by rw [hmc, IntKind.wrap_i64]; omega
  have hw4 : IntKind.i64.wrap ((P : Int) + (val : Int) * (st : Int)) = (P : Int) + (val : Int) * (st : Int) := by rw [hmc, IntKind.wrap_i64]; omega
  have HSU : Hid ((P : Int) + (val : Int) * (st : Int) = ((P + val * st : Nat) : Int)) := by show _ = _; rw [hmc]; exact (Int.natCast_add _ _).symm
  have hB0 : Below w.heap.size w w.drew := (Below.refl w.heap.size w).drew
  clear hc hmc
  go_enter Tryz.func113, Tryz.ntmps113
  go_upto_region 1 with fail
  go_region_held3 (fun u => (u.cell? ⟨Bf, 0, none⟩ = some (.func (.func 103) #[] lb) ∧ u.cell? ⟨Bt, 0, none⟩ = some (.int .i64 (st : Nat))) ∧ Hid (Below w.heap.size w u))
    (first | exact held2 hB1 hBf hBt h1 h2 | exact held2 hB0 hBf hBt h1 h2)
    (first
      | (go_at_call 103; refine (HC.out _ hB0).mono ?_; rintro e w1 ⟨rfl, hb1⟩; have hB1 := hB0.trans (hb1.mono hB0.size)))
  go_wp2
  go_ret
  exact ⟨by rw [HSU.out]; rfl, hB1⟩
theorem StandW.calls {V : World} {n m : Nat} {lb : Array Value} {a b : Option Addr} {ca cb : Nat} {sizes vars other : List Int} {v : Nat} (h : StandW V n m (.func (.func 113) #[] lb) a b ca cb sizes vars other v) (hs : IntS V a sizes) (hv : IntS V b vars) (hfi : Fine sizes) (hup : Up vars sizes.length) (huo : Up other sizes.length) (hvv : ¬ v ∈ toN vars) {K val : Nat} (hK : K < cnt (toN sizes) (toN vars)) (hval : val ≤ 4) :
    Calls Tryz.prog 113 (#[.int .i64 (K : Nat), .int .i64 (val : Nat)] ++ lb) V fun e w' => e = .returned (.int .i64 (pos (toN sizes) (withV (asg (toN sizes) (toN vars) K) v val) (toN other) : Nat)) ∧ Below V.heap.size V w' := by
  obtain ⟨Bf, Bt, g, he, _, _, h1, h2, hm, h3, h4, h5⟩ := h
  simp only [Value.func.injEq, true_and] at he
  rw [he]
  obtain ⟨lb', rfl⟩ := h5.shape
  have hol := huo.length
  have hl8 := hfi.eight
  have hP := pos_lt (S := toN sizes) (asg (toN sizes) (toN vars) K) (fun u => asg_lt hfi.pos (toN vars) K u hK) (toN other)
  have hc := cnt_small hfi.sz_le (vs := toN other) (by rw [toN_length]; omega)
  rw [← pos_with val (asg_out hvv) huo.nodup]
  exact standingWith1_any Bf Bt lb' K val _ _ V (by omega) h3 (by omega) h4 (fun V' hb => (h5.below hb).calls (hs.below hb) (hv.below hb) hfi hup huo hK) (by omega) hval (stp_le hfi.sz_le _ _ (by rw [toN_length]; omega))
end Go.Proofs.YtknlhejhnopnaaaGreatDoor
