/- Lists of lists of ints that came in, opened. -/
import Derived.Test.YtockhhleapbpiaaGexWToHandT
import Derived.Test.YtockhhleapbpiaaRefRToSetB
import Derived.Test.YtockhhleapbpiaaProg
import Derived.Carry
import Derived.ProofKit
import Derived.OpenShut
import Derived.ShutString
namespace Go.Proofs.Ytockhhleapbpiaa
open Go.ChangeShapes Go.WideShapes Go.ChangeAt Go.RowKit

/-- What lists of lists read as. -/
def LLD {H : Type} (d : DataW H) (L : List (List Int)) : Prop := (d = .nil ∧ L = []) ∨ ∃ (E rest : List (DataW H)), d = .slice E rest ∧ E.length = L.length ∧ ∀ k (h : k < L.length) (h' : k < E.length), (E[k] = .nil ∧ L[k] = []) ∨ ∃ rest, E[k] = .slice (L[k].map idt) rest
set_option maxRecDepth 100000 in
theorem trod_rows {H : Type} {enc : TypeId × Value → H} {W : World} {fuel : Nat} {cs : List Value} {x : DataW H × List MemPlace} (hf : DataW.trod enc Try.prog W 0 (fun _ => true) true fuel 22 cs = some x) :
    ∃ (a : Option Addr) (cap : Nat) (L : List (List Int)), cs = [.slice a L.length cap] ∧ LsS W a L ∧ LLD x.1 L := by
  rcases Deep.open_slice Try.underlying22 hf with ⟨hcs, hx⟩ | ⟨a', len, cap, m, n, D, Pl, hcs, hb, hl, hm, hmm, hx, hel⟩
  · exact ⟨none, 0, [], hcs, fun k hk => absurd hk (by simp), .inl ⟨by rw [hx], rfl⟩⟩
  · have hlm : len ≤ m := by rw [hmm]; split <;> omega
    rw [cellsIs] at hel
    have each : ∀ i, i < len → ∃ z : Option Addr × Nat × List Int, W.cell? (a'.add (i * 1)) = some (.slice z.1 z.2.2.length z.2.1) ∧ IntS W z.1 z.2.2 ∧ ((D i = .nil ∧ z.2.2 = []) ∨ ∃ rest, D i = .slice (z.2.2.map idt) rest) := by
      intro i hi
      obtain ⟨cs', h1, h2⟩ := hel i (by omega)
      obtain ⟨_, hlen, hcell⟩ := World.cells?_some h1
      obtain ⟨b, c, l, e0, h3, _, h4, _⟩ := trod_ints h2
      subst e0
      have g0 := hcell 0 (by omega)
      rw [Deep.add_add] at g0
      exact ⟨(b, c, l), by simpa using g0, h3, h4⟩
    obtain ⟨f, hf2⟩ := Deep.choose_lt (α := Option Addr × Nat × List Int) each
    refine ⟨some a', cap, (List.range len).map fun i => (f i).2.2, by rw [hcs]; simp, ?_, .inr ⟨(List.range len).map D, (List.range (m - len)).map fun j => D (len + j), by rw [hx], by simp, ?_⟩⟩
    · intro k hk
      have hk' : k < len := by simpa using hk
      obtain ⟨g0, h3, _⟩ := hf2 k hk'
      obtain ⟨z0, _⟩ := hf2 0 (by omega)
      have hsp := World.cell?_spot z0
      obtain ⟨bb, oo, sp⟩ := a'
      rw [Nat.zero_mul] at hsp
      simp [Addr.add] at hsp
      subst hsp
      rw [add_plain] at g0
      refine ⟨bb, oo, (f k).1, (f k).2.1, rfl, cell_lt g0, ?_, ?_⟩
      · simpa using g0
      · simpa using h3
    · intro k hk hk'
      have hk2 : k < len := by simpa using hk
      simpa using (hf2 k hk2).2.2
set_option maxRecDepth 100000 in
theorem open_rows {H : Type} {enc : TypeId × Value → H} {W : World} {r : Reach} {b0 : Nat} {v : Value} {d : DataW H} {p : List MemPlace} (hval : Value.okWide Try.prog W r b0 22 v) (h : DataW.Trod enc Try.prog W 0 (fun _ => true) true 22 v d p) :
    ∃ (a : Option Addr) (cap : Nat) (L : List (List Int)), v = .slice a L.length cap ∧ LsS W a L ∧ LLD d L := by
  obtain ⟨a, len, cap, rfl⟩ := okWide_slice Try.underlying22 hval
  obtain ⟨fuel, hf⟩ := h
  obtain ⟨a', cap', l, hcs, hi, hd⟩ := trod_rows hf
  simp [Value.cells] at hcs
  obtain ⟨rfl, rfl, rfl⟩ := hcs
  exact ⟨a, cap, l, rfl, hi, hd⟩
theorem bytesIs2 : Try.prog.bytesOf 23 = 24 := by kernel_rfl
theorem sized_rows {H : Type} {ts : List TypeId} {ds : List (DataW H)} (h : (DataW.weightsEach Try.prog ts ds).all (· ≤ reachBytes) = true) {j : Nat} {L : List (List Int)} {d : DataW H} (ht : ts[j]? = some 22) (hd : ds[j]? = some d) (hL : LLD d L) : L.length ≤ 140737488355328 ∧ ∀ l ∈ L, l.length ≤ 140737488355328 := by
  rcases hL with ⟨_, rfl⟩ | ⟨E, rest, rfl, he, hp⟩
  · exact ⟨by simp, fun x hx => by cases hx⟩
  have hw : ∀ n, n ∈ (DataW.slice E rest).weights Try.prog 22 → n ≤ reachBytes := fun n hn => by
    have := List.all_eq_true.1 h n (DataW.weights_mem_each ht hd n hn)
    simpa using this
  constructor
  · have h1 := hw ((E.length + rest.length) * Try.prog.bytesOf 23) (by simp [DataW.weights, Try.underlying22])
    rw [bytesIs2, he] at h1
    simp only [reachBytes] at h1
    omega
  · intro x hx
    obtain ⟨k, hk, rfl⟩ := List.getElem_of_mem hx
    have hkE : k < E.length := by omega
    refine sized_ints (ts := [23]) (ds := [E[k]]) (List.all_eq_true.2 fun n hn => decide_eq_true (hw n ?_)) (j := 0) rfl rfl (hp k hk hkE)
    have hn' : n ∈ E[k].weights Try.prog 23 := by simpa [DataW.weightsEach] using hn
    simp only [DataW.weights, Try.underlying22, List.mem_cons, List.mem_append]
    exact .inr (.inl (weights_all (List.getElem_mem hkE) hn'))
end Go.Proofs.Ytockhhleapbpiaa


/- Arguments that a call has left alone read as before. -/
namespace Go.Proofs.Ytockhhleapbpiaa
open Go.ChangeShapes Go.WideShapes Go.ChangeAt Go.RowKit

theorem below_all {H : Type} {enc : TypeId × Value → H} {P : Program} (hl : laidOutB P = true) {W W' : World} (hb : Below W.heap.size W W') : ∀ {ts : List TypeId} {vs : List Value} {ds : List (DataW H)} {ps : List MemPlace},
    (ts.all fun t => P.readableRec t && decide (t < P.types.size)) = true → DataW.TrodAll enc P W 0 (fun _ => true) true ts vs ds ps → DataW.TrodAll enc P W' 0 (fun b => decide (b < W.heap.size)) true ts vs ds ps
  | [], [], [], _, _, h => h
  | t :: ts, v :: vs, d :: ds, _, ht, ⟨p, q, h, hr, e⟩ => by
    rw [List.all_cons, Bool.and_eq_true, Bool.and_eq_true] at ht
    refine ⟨p, q, Below.trod hl ht.1.1 (of_decide_eq_true ht.1.2) h hb ?_, below_all hl hb ht.2 hr, e⟩
    obtain ⟨m, hm⟩ := h
    exact DataW.trod_lt m _ _ _ hm
  | [], _ :: _, _, _, _, h => by simp [DataW.TrodAll] at h
  | [], [], _ :: _, _, _, h => by simp [DataW.TrodAll] at h
  | _ :: _, [], _, _, _, h => by simp [DataW.TrodAll] at h
  | _ :: _, _ :: _, [], _, _, h => by simp [DataW.TrodAll] at h
end Go.Proofs.Ytockhhleapbpiaa

