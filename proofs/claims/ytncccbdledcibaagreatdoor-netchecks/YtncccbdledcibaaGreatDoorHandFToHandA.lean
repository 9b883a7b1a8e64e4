/- A slice of fractions that came in, opened. -/
import Derived.Test.YtncccbdledcibaaGreatDoorNetWToHandS
import Derived.Test.YtncccbdledcibaaGreatDoorRefSToSumA
import Derived.Carry
import Derived.Test.YtncccbdledcibaaGreatDoorHvyAToLawB
import Derived.Test.YtncccbdledcibaaGreatDoorNetEOwn
import Derived.Test.YtncccbdledcibaaGreatDoorProg
import Derived.ProofKit
import Derived.OpenShut
import Derived.ShutString
namespace Go.Proofs.YtncccbdledcibaaGreatDoor
open Go.ChangeShapes Go.WideShapes Go.ChangeAt Go.RowKit

theorem cell_lt {w : World} {a : Addr} {v : Value} (h : w.cell? a = some v) : a.block < w.heap.size := by
  rcases Nat.lt_or_ge a.block w.heap.size with h1 | h1
  · exact h1
  · simp [World.cell?, Array.getElem?_eq_none h1] at h
/-- What a fraction reads as. -/
def fd {H : Type} (f : Fr) : DataW H := .agg [.lit (.bool f.1), .lit (.string f.2.1.data.toList), .lit (.string f.2.2.data.toList)]
set_option maxRecDepth 100000 in
theorem open_fracs {H : Type} {enc : TypeId × Value → H} {W : World} {r : Reach} {b0 : Nat} {v : Value} {d : DataW H} {p : List MemPlace} (hval : Value.okWide Tryz.prog W r b0 29 v) (h : DataW.Trod enc Tryz.prog W 0 (fun _ => true) true 29 v d p) :
    ∃ (a : Option Addr) (cap : Nat) (l : List Fr), v = .slice a l.length cap ∧ FrS W a l ∧ ((d = .nil ∧ l = []) ∨ ∃ rest, d = .slice (l.map fd) rest) := by
  obtain ⟨a, len, cap, rfl⟩ := okWide_slice Tryz.underlying29 hval
  obtain ⟨fuel, hf⟩ := h
  rcases Deep.open_slice Tryz.underlying29 hf with ⟨hcs, hx⟩ | ⟨a', len', cap', m, n, D, Pl, hcs, hb, hl, hm, hmm, hx, hel⟩
  · simp [Value.cells] at hcs
    obtain ⟨rfl, rfl, rfl⟩ := hcs
    simp only [Prod.mk.injEq] at hx
    exact ⟨none, 0, [], rfl, fun k hk => absurd hk (by simp), .inl ⟨hx.1, rfl⟩⟩
  · simp [Value.cells] at hcs
    obtain ⟨rfl, rfl, rfl⟩ := hcs
    simp only [Prod.mk.injEq] at hx
    have hlm : len ≤ m := by rw [hmm]; split <;> omega
    rw [cellsF] at hel
    have each : ∀ i, i < len → ∃ f : Fr, (W.cell? (a'.add (i * 3)) = some (.bool f.1) ∧ W.cell? (a'.add (i * 3 + 1)) = some (.string f.2.1) ∧ W.cell? (a'.add (i * 3 + 2)) = some (.string f.2.2)) ∧ D i = fd f := by
      intro i hi
      obtain ⟨cs', h1, h2⟩ := hel i (by omega)
      obtain ⟨_, hlen, hcell⟩ := World.cells?_some h1
      match cs', hlen with
      | [c0, c1, c2], _ =>
        obtain ⟨y0, y1, y2, k, hxx, _, hy0, hy1, hy2⟩ := Deep.trod_struct3 Tryz.underlying37 h2
        obtain ⟨nn, e0, rfl⟩ := DataW.trod_bool Tryz.underlying4 hy0
        obtain ⟨x, e1, rfl, hx1⟩ := DataW.trod_string Tryz.underlying35 hy1
        obtain ⟨y, e2, rfl, hx2⟩ := DataW.trod_string Tryz.underlying35 hy2
        simp [cellsB, cellsN] at e0 e1 e2
        subst e0 e1 e2
        simp only [Prod.mk.injEq] at hxx
        have g0 := hcell 0 (by omega)
        have g1 := hcell 1 (by omega)
        have g2 := hcell 2 (by omega)
        rw [Deep.add_add] at g0 g1 g2
        exact ⟨(nn, x, y), ⟨by simpa using g0, by simpa using g1, by simpa using g2⟩, hxx.1⟩
    obtain ⟨f, hf2⟩ := Deep.choose_lt (α := Fr) each
    refine ⟨some a', cap, (List.range len).map f, by simp, ?_, .inr ⟨(List.range (m - len)).map fun j => D (len + j), ?_⟩⟩
    · intro k hk
      have hk' : k < len := by simpa using hk
      obtain ⟨⟨g0, g1, g2⟩, _⟩ := hf2 k hk'
      obtain ⟨⟨z0, _, _⟩, _⟩ := hf2 0 (by omega)
      have hsp := World.cell?_spot z0
      obtain ⟨bb, oo, sp⟩ := a'
      rw [Nat.zero_mul] at hsp
      simp [Addr.add] at hsp
      subst hsp
      rw [add_plain] at g0 g1 g2
      refine ⟨bb, oo, rfl, cell_lt g0, ?_, ?_, ?_⟩
      · simpa using g0
      · simpa [Nat.add_assoc] using g1
      · simpa [Nat.add_assoc] using g2
    · rw [hx.1]
      congr 1
      rw [List.map_map]
      exact List.map_congr_left fun i hi => (hf2 i (List.mem_range.1 hi)).2

theorem weights_all {H : Type} {P : Program} {e : TypeId} {n : Nat} : ∀ {l : List (DataW H)} {d : DataW H}, d ∈ l → n ∈ d.weights P e → n ∈ DataW.weightsAll P e l
  | x :: l, d, hd, hn => by
    simp only [DataW.weightsAll, List.mem_append]
    rcases List.mem_cons.1 hd with rfl | hd
    · exact .inl hn
    · exact .inr (weights_all hd hn)
theorem bytesF : Tryz.prog.bytesOf 37 = 40 := by kernel_rfl
theorem sized_fracs {H : Type} {ts : List TypeId} {ds : List (DataW H)} (h : (DataW.weightsEach Tryz.prog ts ds).all (· ≤ reachBytes) = true) {j : Nat} {l : List Fr} {rest : List (DataW H)} (ht : ts[j]? = some 29) (hd : ds[j]? = some (.slice (l.map fd) rest)) :
    l.length ≤ 140737488355328 ∧ ∀ f ∈ l, f.2.1.size ≤ 140737488355328 ∧ f.2.2.size ≤ 140737488355328 := by
  constructor
  · have h1 := List.all_eq_true.1 h _ (DataW.weights_mem_each ht hd (((l.map (fd (H := H))).length + rest.length) * Tryz.prog.bytesOf 37) (by simp [DataW.weights, Tryz.underlying29]))
    have h1' : ((l.map (fd (H := H))).length + rest.length) * Tryz.prog.bytesOf 37 ≤ reachBytes := by simpa using h1
    rw [bytesF, List.length_map] at h1'
    simp only [reachBytes] at h1'
    omega
  · intro f hf
    have hin : ∀ n, n ∈ (fd (H := H) f).weights Tryz.prog 37 → n ≤ reachBytes := fun n hn => by
      have := List.all_eq_true.1 h _ (DataW.weights_mem_each ht hd n (by
        simp only [DataW.weights, Tryz.underlying29, List.mem_cons, List.mem_append]
        exact .inr (.inl (weights_all (List.mem_map_of_mem hf) hn))))
      simpa using this
    have a1 := hin f.2.1.data.toList.length (by simp [fd, DataW.weights, Tryz.underlying37, DataW.weightsEach])
    have a2 := hin f.2.2.data.toList.length (by simp [fd, DataW.weights, Tryz.underlying37, DataW.weightsEach])
    rw [bytes_len] at a1 a2
    simp only [reachBytes] at a1 a2
    constructor <;> omega
end Go.Proofs.YtncccbdledcibaaGreatDoor

/- Lists of ints and tables that came in, opened. -/
namespace Go.Proofs.YtncccbdledcibaaGreatDoor
open Go.ChangeShapes Go.WideShapes Go.ChangeAt Go.RowKit

/-- What an int reads as. -/
def idt {H : Type} (x : Int) : DataW H := .lit (.int .i64 x)
theorem cellsI : Tryz.prog.cellsOf 3 = 1 := by kernel_rfl
theorem cellsIs : Tryz.prog.cellsOf 27 = 1 := by kernel_rfl
theorem cellsFs : Tryz.prog.cellsOf 29 = 1 := by kernel_rfl
theorem cellsT : Tryz.prog.cellsOf 31 = 2 := by kernel_rfl
set_option maxRecDepth 100000 in
theorem trod_ints {H : Type} {enc : TypeId × Value → H} {W : World} {fuel : Nat} {cs : List Value} {x : DataW H × List MemPlace} (hf : DataW.trod enc Tryz.prog W 0 (fun _ => true) true fuel 27 cs = some x) :
    ∃ (a : Option Addr) (cap : Nat) (l : List Int), cs = [.slice a l.length cap] ∧ IntS W a l ∧ (a = none → cap = 0) ∧ ((x.1 = .nil ∧ l = []) ∨ ∃ rest, x.1 = .slice (l.map idt) rest) ∧ ∀ y ∈ l, -9223372036854775808 ≤ y ∧ y ≤ 9223372036854775807 := by
  rcases Deep.open_slice Tryz.underlying27 hf with ⟨hcs, hx⟩ | ⟨a', len, cap, m, n, D, Pl, hcs, hb, hl, hm, hmm, hx, hel⟩
  · exact ⟨none, 0, [], hcs, fun k hk => absurd hk (by simp), fun _ => rfl, .inl ⟨by rw [hx], rfl⟩, fun _ h => by cases h⟩
  · have hlm : len ≤ m := by rw [hmm]; split <;> omega
    rw [cellsI] at hel
    have each : ∀ i, i < len → ∃ z : Int, (W.cell? (a'.add (i * 1)) = some (.int .i64 z) ∧ -9223372036854775808 ≤ z ∧ z ≤ 9223372036854775807) ∧ D i = idt z := by
      intro i hi
      obtain ⟨cs', h1, h2⟩ := hel i (by omega)
      obtain ⟨_, hlen, hcell⟩ := World.cells?_some h1
      obtain ⟨z, e0, hxx, hwf⟩ := DataW.trod_int Tryz.underlying3 h2
      subst e0
      simp only [Prod.mk.injEq] at hxx
      have g0 := hcell 0 (by omega)
      rw [Deep.add_add] at g0
      exact ⟨z, ⟨by simpa using g0, bounds_i64 hwf⟩, hxx.1⟩
    obtain ⟨f, hf2⟩ := Deep.choose_lt (α := Int) each
    refine ⟨some a', cap, (List.range len).map f, by rw [hcs]; simp, ?_, fun e => by (cases e), .inr ⟨(List.range (m - len)).map fun j => D (len + j), ?_⟩, ?_⟩
    · intro k hk
      have hk' : k < len := by simpa using hk
      obtain ⟨⟨g0, _⟩, _⟩ := hf2 k hk'
      obtain ⟨⟨z0, _⟩, _⟩ := hf2 0 (by omega)
      have hsp := World.cell?_spot z0
      obtain ⟨bb, oo, sp⟩ := a'
      rw [Nat.zero_mul] at hsp
      simp [Addr.add] at hsp
      subst hsp
      rw [add_plain] at g0
      refine ⟨bb, oo, rfl, cell_lt g0, ?_⟩
      simpa using g0
    · rw [hx]
      show DataW.slice _ _ = DataW.slice _ _
      congr 1
      rw [List.map_map]
      exact List.map_congr_left fun i hi => (hf2 i (List.mem_range.1 hi)).2
    · intro y hy
      obtain ⟨i, hi, rfl⟩ := List.mem_map.1 hy
      exact (hf2 i (List.mem_range.1 hi)).1.2
set_option maxRecDepth 100000 in
theorem open_ints {H : Type} {enc : TypeId × Value → H} {W : World} {r : Reach} {b0 : Nat} {v : Value} {d : DataW H} {p : List MemPlace} (hval : Value.okWide Tryz.prog W r b0 27 v) (h : DataW.Trod enc Tryz.prog W 0 (fun _ => true) true 27 v d p) :
    ∃ (a : Option Addr) (cap : Nat) (l : List Int), v = .slice a l.length cap ∧ IntS W a l ∧ (a = none → cap = 0) ∧ ((d = .nil ∧ l = []) ∨ ∃ rest, d = .slice (l.map idt) rest) ∧ ∀ x ∈ l, -9223372036854775808 ≤ x ∧ x ≤ 9223372036854775807 := by
  obtain ⟨a, len, cap, rfl⟩ := okWide_slice Tryz.underlying27 hval
  obtain ⟨fuel, hf⟩ := h
  obtain ⟨a', cap', l, hcs, hi, h0, hd, hr⟩ := trod_ints hf
  simp [Value.cells] at hcs
  obtain ⟨rfl, rfl, rfl⟩ := hcs
  exact ⟨a, cap, l, rfl, hi, h0, hd, hr⟩
set_option maxRecDepth 100000 in
theorem open_fracs_of {H : Type} {enc : TypeId × Value → H} {W : World} {a : Option Addr} {len cap : Nat} {d : DataW H} {p : List MemPlace} (h : DataW.Trod enc Tryz.prog W 0 (fun _ => true) true 29 (.slice a len cap) d p) :
    ∃ (a' : Option Addr) (cap' : Nat) (l : List Fr), (Value.slice a len cap) = .slice a' l.length cap' ∧ FrS W a' l ∧ ((d = .nil ∧ l = []) ∨ ∃ rest, d = .slice (l.map fd) rest) := by
  obtain ⟨fuel, hf⟩ := h
  rcases Deep.open_slice Tryz.underlying29 hf with ⟨hcs, hx⟩ | ⟨a', len', cap', m, n, D, Pl, hcs, hb, hl, hm, hmm, hx, hel⟩
  · simp [Value.cells] at hcs
    obtain ⟨rfl, rfl, rfl⟩ := hcs
    simp only [Prod.mk.injEq] at hx
    exact ⟨none, 0, [], rfl, fun k hk => absurd hk (by simp), .inl ⟨hx.1, rfl⟩⟩
  · simp [Value.cells] at hcs
    obtain ⟨rfl, rfl, rfl⟩ := hcs
    simp only [Prod.mk.injEq] at hx
    have hlm : len ≤ m := by rw [hmm]; split <;> omega
    rw [cellsF] at hel
    have each : ∀ i, i < len → ∃ f : Fr, (W.cell? (a'.add (i * 3)) = some (.bool f.1) ∧ W.cell? (a'.add (i * 3 + 1)) = some (.string f.2.1) ∧ W.cell? (a'.add (i * 3 + 2)) = some (.string f.2.2)) ∧ D i = fd f := by
      intro i hi
      obtain ⟨cs', h1, h2⟩ := hel i (by omega)
      obtain ⟨_, hlen, hcell⟩ := World.cells?_some h1
      match cs', hlen with
      | [c0, c1, c2], _ =>
        obtain ⟨y0, y1, y2, k, hxx, _, hy0, hy1, hy2⟩ := Deep.trod_struct3 Tryz.underlying37 h2
        obtain ⟨nn, e0, rfl⟩ := DataW.trod_bool Tryz.underlying4 hy0
        obtain ⟨x, e1, rfl, hx1⟩ := DataW.trod_string Tryz.underlying35 hy1
        obtain ⟨y, e2, rfl, hx2⟩ := DataW.trod_string Tryz.underlying35 hy2
        simp [cellsB, cellsN] at e0 e1 e2
        subst e0 e1 e2
        simp only [Prod.mk.injEq] at hxx
        have g0 := hcell 0 (by omega)
        have g1 := hcell 1 (by omega)
        have g2 := hcell 2 (by omega)
        rw [Deep.add_add] at g0 g1 g2
        exact ⟨(nn, x, y), ⟨by simpa using g0, by simpa using g1, by simpa using g2⟩, hxx.1⟩
    obtain ⟨f, hf2⟩ := Deep.choose_lt (α := Fr) each
    refine ⟨some a', cap, (List.range len).map f, by simp, ?_, .inr ⟨(List.range (m - len)).map fun j => D (len + j), ?_⟩⟩
    · intro k hk
      have hk' : k < len := by simpa using hk
      obtain ⟨⟨g0, g1, g2⟩, _⟩ := hf2 k hk'
      obtain ⟨⟨z0, _, _⟩, _⟩ := hf2 0 (by omega)
      have hsp := World.cell?_spot z0
      obtain ⟨bb, oo, sp⟩ := a'
      rw [Nat.zero_mul] at hsp
      simp [Addr.add] at hsp
      subst hsp
      rw [add_plain] at g0 g1 g2
      refine ⟨bb, oo, rfl, cell_lt g0, ?_, ?_, ?_⟩
      · simpa using g0
      · simpa [Nat.add_assoc] using g1
      · simpa [Nat.add_assoc] using g2
    · rw [hx.1]
      congr 1
      rw [List.map_map]
      exact List.map_congr_left fun i hi => (hf2 i (List.mem_range.1 hi)).2


theorem open_fracs_at {H : Type} {enc : TypeId × Value → H} {W : World} {fuel : Nat} {v : Value} {x : DataW H × List MemPlace} (hf : DataW.trod enc Tryz.prog W 0 (fun _ => true) true fuel 29 [v] = some x) :
    ∃ (a : Option Addr) (cap : Nat) (l : List Fr), v = .slice a l.length cap ∧ FrS W a l ∧ ((x.1 = .nil ∧ l = []) ∨ ∃ rest, x.1 = .slice (l.map fd) rest) := by
  have hs : ∃ a n c, v = Value.slice a n c := by
    rcases Deep.open_slice Tryz.underlying29 hf with ⟨hcs, _⟩ | ⟨a', len, cap, m, n, D, Pl, hcs, _⟩
    · exact ⟨_, _, _, by simpa using hcs⟩
    · exact ⟨_, _, _, by simpa using hcs⟩
  obtain ⟨a, n, c, rfl⟩ := hs
  obtain ⟨a', cap', l, h1, h2, h3⟩ := open_fracs_of (enc := enc) (W := W) (a := a) (len := n) (cap := c) (d := x.1) (p := x.2) ⟨fuel, hf⟩
  exact ⟨a', cap', l, h1, h2, h3⟩
set_option maxRecDepth 100000 in
theorem open_table {H : Type} {enc : TypeId × Value → H} {W : World} {r : Reach} {b0 : Nat} {v : Value} {d : DataW H} {p : List MemPlace} (hval : Value.okWide Tryz.prog W r b0 31 v) (h : DataW.Trod enc Tryz.prog W 0 (fun _ => true) true 31 v d p) :
    ∃ (a c : Option Addr) (ca cc : Nat) (va : List Int) (la : List Fr) (dV dC : DataW H), v = .agg #[.slice a va.length ca, .slice c la.length cc] ∧ d = .agg [dV, dC] ∧ IntS W a va ∧ (a = none → ca = 0) ∧ FrS W c la ∧ ((dV = .nil ∧ va = []) ∨ ∃ rest, dV = .slice (va.map idt) rest) ∧ ((dC = .nil ∧ la = []) ∨ ∃ rest, dC = .slice (la.map fd) rest) := by
  obtain ⟨cs, rfl, hsz⟩ := okWide_struct Tryz.underlying31 hval
  rw [cellsT] at hsz
  obtain ⟨l⟩ := cs
  match l, hsz with
  | [c0, c1], _ =>
    obtain ⟨fuel, hf⟩ := h
    obtain ⟨y0, y1, m, hx, _, hy0, hy1⟩ := trod_struct2 Tryz.underlying31 hf
    simp [Value.cells, cellsIs, cellsFs] at hy0 hy1
    obtain ⟨a, ca, va, e0, h0, h0n, hd0, _⟩ := trod_ints hy0
    obtain ⟨c, cc, la, e1, h1, hd1⟩ := open_fracs_at hy1
    obtain rfl : c0 = _ := by simpa using e0
    subst e1
    simp only [Prod.mk.injEq] at hx
    exact ⟨a, c, ca, cc, va, la, _, _, rfl, hx.1, h0, h0n, h1, hd0, hd1⟩
theorem bytesI : Tryz.prog.bytesOf 3 = 8 := by kernel_rfl
theorem sized_ints {H : Type} {ts : List TypeId} {ds : List (DataW H)} (h : (DataW.weightsEach Tryz.prog ts ds).all (· ≤ reachBytes) = true) {j : Nat} {l : List Int} {d : DataW H} (ht : ts[j]? = some 27) (hd : ds[j]? = some d) (hl : (d = .nil ∧ l = []) ∨ ∃ rest, d = .slice (l.map idt) rest) :
    l.length ≤ 140737488355328 := by
  rcases hl with ⟨_, rfl⟩ | ⟨rest, rfl⟩
  · simp
  have h1 := List.all_eq_true.1 h _ (DataW.weights_mem_each ht hd (((l.map (idt (H := H))).length + rest.length) * Tryz.prog.bytesOf 3) (by simp [DataW.weights, Tryz.underlying27]))
  have h1' : ((l.map (idt (H := H))).length + rest.length) * Tryz.prog.bytesOf 3 ≤ reachBytes := by simpa using h1
  rw [bytesI, List.length_map] at h1'
  simp only [reachBytes] at h1'
  omega
theorem sized_fracs' {H : Type} {ts : List TypeId} {ds : List (DataW H)} (h : (DataW.weightsEach Tryz.prog ts ds).all (· ≤ reachBytes) = true) {j : Nat} {l : List Fr} {d : DataW H} (ht : ts[j]? = some 29) (hd : ds[j]? = some d) (hl : (d = .nil ∧ l = []) ∨ ∃ rest, d = .slice (l.map fd) rest) :
    l.length ≤ 140737488355328 ∧ ∀ f ∈ l, f.2.1.size ≤ 140737488355328 ∧ f.2.2.size ≤ 140737488355328 := by
  rcases hl with ⟨_, rfl⟩ | ⟨rest, rfl⟩
  · exact ⟨by simp, fun f hf => by cases hf⟩
  · exact sized_fracs h ht hd
theorem sized_table {H : Type} {ts : List TypeId} {ds : List (DataW H)} (h : (DataW.weightsEach Tryz.prog ts ds).all (· ≤ reachBytes) = true) {j : Nat} {va : List Int} {la : List Fr} {dV dC : DataW H} (ht : ts[j]? = some 31) (hd : ds[j]? = some (.agg [dV, dC])) (hv : (dV = .nil ∧ va = []) ∨ ∃ rest, dV = .slice (va.map idt) rest) (hc : (dC = .nil ∧ la = []) ∨ ∃ rest, dC = .slice (la.map fd) rest) :
    va.length ≤ 140737488355328 ∧ la.length ≤ 140737488355328 ∧ ∀ f ∈ la, f.2.1.size ≤ 140737488355328 ∧ f.2.2.size ≤ 140737488355328 := by
  have h' : (DataW.weightsEach Tryz.prog [27, 29] [dV, dC]).all (· ≤ reachBytes) = true := by
    rw [List.all_eq_true]
    intro n hn
    refine List.all_eq_true.1 h _ (DataW.weights_mem_each ht hd n ?_)
    simp only [DataW.weights, Tryz.underlying31]
    exact hn
  exact ⟨sized_ints h' (j := 0) rfl rfl hv, sized_fracs' h' (j := 1) rfl rfl hc⟩
end Go.Proofs.YtncccbdledcibaaGreatDoor

/- Nets that came in, opened. -/
namespace Go.Proofs.YtncccbdledcibaaGreatDoor
open Go.ChangeShapes Go.WideShapes Go.ChangeAt Go.RowKit

/-- What a list reads as, piece by piece. -/
def LsD {H : Type} {α : Type} (one : DataW H → α → Prop) (d : DataW H) (L : List α) : Prop := (d = .nil ∧ L = []) ∨ ∃ (E rest : List (DataW H)), d = .slice E rest ∧ E.length = L.length ∧ ∀ k (h : k < L.length) (h' : k < E.length), one E[k] L[k]
def IntD {H : Type} (d : DataW H) (l : List Int) : Prop := (d = .nil ∧ l = []) ∨ ∃ rest, d = .slice (l.map idt) rest
def FrcD {H : Type} (d : DataW H) (l : List Fr) : Prop := (d = .nil ∧ l = []) ∨ ∃ rest, d = .slice (l.map fd) rest
def sdt {H : Type} (s : ByteArray) : DataW H := .lit (.string s.data.toList)
def StrD {H : Type} (d : DataW H) (l : List ByteArray) : Prop := (d = .nil ∧ l = []) ∨ ∃ rest, d = .slice (l.map sdt) rest
def VarD {H : Type} (d : DataW H) (x : Vr) : Prop := ∃ dv, d = .agg [sdt x.1, dv] ∧ StrD dv x.2
theorem cellsStr : Tryz.prog.cellsOf 9 = 1 := by kernel_rfl
theorem cellsStrs : Tryz.prog.cellsOf 59 = 1 := by kernel_rfl
theorem cellsVar : Tryz.prog.cellsOf 61 = 2 := by kernel_rfl
theorem cellsVars : Tryz.prog.cellsOf 22 = 1 := by kernel_rfl
theorem cellsLs : Tryz.prog.cellsOf 23 = 1 := by kernel_rfl
theorem cellsFr : Tryz.prog.cellsOf 24 = 1 := by kernel_rfl
theorem cellsNet : Tryz.prog.cellsOf 26 = 3 := by kernel_rfl

set_option maxRecDepth 100000 in
theorem trod_strs {H : Type} {enc : TypeId × Value → H} {W : World} {fuel : Nat} {cs : List Value} {x : DataW H × List MemPlace} (hf : DataW.trod enc Tryz.prog W 0 (fun _ => true) true fuel 59 cs = some x) :
    ∃ (a : Option Addr) (cap : Nat) (l : List ByteArray), cs = [.slice a l.length cap] ∧ StS W a l ∧ l.length ≤ cap ∧ StrD x.1 l := by
  rcases Deep.open_slice Tryz.underlying59 hf with ⟨hcs, hx⟩ | ⟨a', len, cap, m, n, D, Pl, hcs, hb, hl, hm, hmm, hx, hel⟩
  · exact ⟨none, 0, [], hcs, fun k hk => absurd hk (by simp), by simp, .inl ⟨by rw [hx], rfl⟩⟩
  · have hlm : len ≤ m := by rw [hmm]; split <;> omega
    rw [cellsStr] at hel
    have each : ∀ i, i < len → ∃ z : ByteArray, W.cell? (a'.add (i * 1)) = some (.string z) ∧ D i = sdt z := by
      intro i hi
      obtain ⟨cs', h1, h2⟩ := hel i (by omega)
      obtain ⟨_, hlen, hcell⟩ := World.cells?_some h1
      obtain ⟨z, e0, hxx, _⟩ := DataW.trod_string Tryz.underlying9 h2
      subst e0
      simp only [Prod.mk.injEq] at hxx
      have g0 := hcell 0 (by omega)
      rw [Deep.add_add] at g0
      exact ⟨z, by simpa using g0, hxx.1⟩
    obtain ⟨f, hf2⟩ := Deep.choose_lt (α := ByteArray) each
    refine ⟨some a', cap, (List.range len).map f, by rw [hcs]; simp, ?_, by simpa using hl, .inr ⟨(List.range (m - len)).map fun j => D (len + j), ?_⟩⟩
    · intro k hk
      have hk' : k < len := by simpa using hk
      obtain ⟨g0, _⟩ := hf2 k hk'
      obtain ⟨z0, _⟩ := hf2 0 (by omega)
      have hsp := World.cell?_spot z0
      obtain ⟨bb, oo, sp⟩ := a'
      rw [Nat.zero_mul] at hsp
      simp [Addr.add] at hsp
      subst hsp
      rw [add_plain] at g0
      refine ⟨bb, oo, rfl, cell_lt g0, ?_⟩
      simpa using g0
    · rw [hx]
      show DataW.slice _ _ = DataW.slice _ _
      congr 1
      rw [List.map_map]
      exact List.map_congr_left fun i hi => (hf2 i (List.mem_range.1 hi)).2
set_option maxRecDepth 100000 in
theorem trod_lists {H : Type} {enc : TypeId × Value → H} {W : World} {fuel : Nat} {cs : List Value} {x : DataW H × List MemPlace} (hf : DataW.trod enc Tryz.prog W 0 (fun _ => true) true fuel 23 cs = some x) :
    ∃ (a : Option Addr) (cap : Nat) (L : List (List Int)), cs = [.slice a L.length cap] ∧ LsS W a L ∧ LsD IntD x.1 L ∧ LsN W a L := by
  rcases Deep.open_slice Tryz.underlying23 hf with ⟨hcs, hx⟩ | ⟨a', len, cap, m, n, D, Pl, hcs, hb, hl, hm, hmm, hx, hel⟩
  · exact ⟨none, 0, [], hcs, fun k hk => absurd hk (by simp), .inl ⟨by rw [hx], rfl⟩, fun k hk => absurd hk (by simp)⟩
  · have hlm : len ≤ m := by rw [hmm]; split <;> omega
    rw [cellsIs] at hel
    have each : ∀ i, i < len → ∃ z : Option Addr × Nat × List Int, W.cell? (a'.add (i * 1)) = some (.slice z.1 z.2.2.length z.2.1) ∧ IntS W z.1 z.2.2 ∧ IntD (D i) z.2.2 ∧ (z.1 = none → z.2.1 = 0) := by
      intro i hi
      obtain ⟨cs', h1, h2⟩ := hel i (by omega)
      obtain ⟨_, hlen, hcell⟩ := World.cells?_some h1
      obtain ⟨b, c, l, e0, h3, h5, h4, _⟩ := trod_ints h2
      subst e0
      have g0 := hcell 0 (by omega)
      rw [Deep.add_add] at g0
      exact ⟨(b, c, l), by simpa using g0, h3, h4, h5⟩
    obtain ⟨f, hf2⟩ := Deep.choose_lt (α := Option Addr × Nat × List Int) each
    refine ⟨some a', cap, (List.range len).map fun i => (f i).2.2, by rw [hcs]; simp, ?_, .inr ⟨(List.range len).map D, (List.range (m - len)).map fun j => D (len + j), by rw [hx], by simp, ?_⟩, ?_⟩
    · intro k hk
      have hk' : k < len := by simpa using hk
      obtain ⟨g0, h3, _⟩ := hf2 k hk'
      obtain ⟨z0, _⟩ := hf2 0 (by omega)
      have hsp := World.cell?_spot z0
      obtain ⟨bb, oo, sp⟩ := a'
      rw [Nat.zero_mul] at hsp
      simp [Addr.add] at hsp
      subst hsp
      rw [add_plain] at g0
      refine ⟨bb, oo, (f k).1, (f k).2.1, rfl, cell_lt g0, ?_, ?_⟩
      · simpa using g0
      · simpa using h3
    · intro k hk hk'
      have hk2 : k < len := by simpa using hk
      simpa using (hf2 k hk2).2.2.1
    · intro k hk g o b' n' c' e hc hn
      have hk2 : k < len := by simpa using hk
      obtain ⟨g0, _, _, h5⟩ := hf2 k hk2
      cases e
      rw [add_plain, Nat.mul_one, hc] at g0
      cases g0
      exact h5 hn
set_option maxRecDepth 100000 in
theorem trod_frows {H : Type} {enc : TypeId × Value → H} {W : World} {fuel : Nat} {cs : List Value} {x : DataW H × List MemPlace} (hf : DataW.trod enc Tryz.prog W 0 (fun _ => true) true fuel 24 cs = some x) :
    ∃ (a : Option Addr) (cap : Nat) (L : List (List Fr)), cs = [.slice a L.length cap] ∧ FsS W a L ∧ LsD FrcD x.1 L := by
  rcases Deep.open_slice Tryz.underlying24 hf with ⟨hcs, hx⟩ | ⟨a', len, cap, m, n, D, Pl, hcs, hb, hl, hm, hmm, hx, hel⟩
  · exact ⟨none, 0, [], hcs, fun k hk => absurd hk (by simp), .inl ⟨by rw [hx], rfl⟩⟩
  · have hlm : len ≤ m := by rw [hmm]; split <;> omega
    rw [cellsFs] at hel
    have each : ∀ i, i < len → ∃ z : Option Addr × Nat × List Fr, W.cell? (a'.add (i * 1)) = some (.slice z.1 z.2.2.length z.2.1) ∧ (FrS W z.1 z.2.2 ∧ z.2.2.length ≤ z.2.1) ∧ FrcD (D i) z.2.2 := by
      intro i hi
      obtain ⟨cs', h1, h2⟩ := hel i (by omega)
      obtain ⟨_, hlen, hcell⟩ := World.cells?_some h1
      have hcap : ∀ a n c, cs' = [Value.slice a n c] → n ≤ c := fun a n c e => by
        rcases Deep.open_slice Tryz.underlying29 h2 with ⟨hc, _⟩ | ⟨a2, len2, cap2, m2, n2, D2, Pl2, hc, _, hl2, _⟩
        · rw [hc] at e; cases e; exact Nat.le_refl _
        · rw [hc] at e; cases e; exact hl2
      match cs', hlen with
      | [v], _ =>
        obtain ⟨b, c, l, e0, h3, h4⟩ := open_fracs_at h2
        subst e0
        have g0 := hcell 0 (by omega)
        rw [Deep.add_add] at g0
        exact ⟨(b, c, l), by simpa using g0, ⟨h3, hcap _ _ _ rfl⟩, h4⟩
    obtain ⟨f, hf2⟩ := Deep.choose_lt (α := Option Addr × Nat × List Fr) each
    refine ⟨some a', cap, (List.range len).map fun i => (f i).2.2, by rw [hcs]; simp, ?_, .inr ⟨(List.range len).map D, (List.range (m - len)).map fun j => D (len + j), by rw [hx], by simp, ?_⟩⟩
    · intro k hk
      have hk' : k < len := by simpa using hk
      obtain ⟨g0, ⟨h3, h5⟩, _⟩ := hf2 k hk'
      obtain ⟨z0, _⟩ := hf2 0 (by omega)
      have hsp := World.cell?_spot z0
      obtain ⟨bb, oo, sp⟩ := a'
      rw [Nat.zero_mul] at hsp
      simp [Addr.add] at hsp
      subst hsp
      rw [add_plain] at g0
      refine ⟨bb, oo, (f k).1, (f k).2.1, rfl, cell_lt g0, ?_, ?_, ?_⟩
      · simpa using g0
      · simpa using h3
      · simpa using h5
    · intro k hk hk'
      have hk2 : k < len := by simpa using hk
      simpa using (hf2 k hk2).2.2
end Go.Proofs.YtncccbdledcibaaGreatDoor

/- Nets that came in, opened: variables, the whole, and their sizes. -/
namespace Go.Proofs.YtncccbdledcibaaGreatDoor
open Go.ChangeShapes Go.WideShapes Go.ChangeAt Go.RowKit

set_option maxRecDepth 100000 in
theorem trod_vars {H : Type} {enc : TypeId × Value → H} {W : World} {fuel : Nat} {cs : List Value} {x : DataW H × List MemPlace} (hf : DataW.trod enc Tryz.prog W 0 (fun _ => true) true fuel 22 cs = some x) :
    ∃ (a : Option Addr) (cap : Nat) (V : List Vr), cs = [.slice a V.length cap] ∧ VsS W a V ∧ LsD VarD x.1 V := by
  rcases Deep.open_slice Tryz.underlying22 hf with ⟨hcs, hx⟩ | ⟨a', len, cap, m, n, D, Pl, hcs, hb, hl, hm, hmm, hx, hel⟩
  · exact ⟨none, 0, [], hcs, fun k hk => absurd hk (by simp), .inl ⟨by rw [hx], rfl⟩⟩
  · have hlm : len ≤ m := by rw [hmm]; split <;> omega
    rw [cellsVar] at hel
    have each : ∀ i, i < len → ∃ z : ByteArray × Option Addr × Nat × List ByteArray, (W.cell? (a'.add (i * 2)) = some (.string z.1) ∧ W.cell? (a'.add (i * 2 + 1)) = some (.slice z.2.1 z.2.2.2.length z.2.2.1)) ∧ (StS W z.2.1 z.2.2.2 ∧ z.2.2.2.length ≤ z.2.2.1) ∧ VarD (D i) (z.1, z.2.2.2) := by
      intro i hi
      obtain ⟨cs', h1, h2⟩ := hel i (by omega)
      obtain ⟨_, hlen, hcell⟩ := World.cells?_some h1
      match cs', hlen with
      | [c0, c1], _ =>
        obtain ⟨y0, y1, k, hxx, _, hy0, hy1⟩ := trod_struct2 Tryz.underlying61 h2
        simp [cellsStr, cellsStrs] at hy0 hy1
        obtain ⟨nm, e0, e1, _⟩ := DataW.trod_string Tryz.underlying9 hy0
        obtain ⟨b, c, l, e2, h3, h4, h5⟩ := trod_strs hy1
        obtain rfl : c0 = _ := by simpa using e0
        obtain rfl : c1 = _ := by simpa using e2
        have g0 := hcell 0 (by omega)
        have g1 := hcell 1 (by omega)
        rw [Deep.add_add] at g0 g1
        simp only [Prod.mk.injEq] at hxx
        refine ⟨(nm, b, c, l), ⟨by simpa using g0, by simpa using g1⟩, ⟨h3, h4⟩, y1.1, ?_, h5⟩
        rw [hxx.1, e1]
        rfl
    obtain ⟨f, hf2⟩ := Deep.choose_lt (α := ByteArray × Option Addr × Nat × List ByteArray) each
    refine ⟨some a', cap, (List.range len).map fun i => ((f i).1, (f i).2.2.2), by rw [hcs]; simp, ?_, .inr ⟨(List.range len).map D, (List.range (m - len)).map fun j => D (len + j), by rw [hx], by simp, ?_⟩⟩
    · intro k hk
      have hk' : k < len := by simpa using hk
      obtain ⟨⟨g0, g1⟩, ⟨h3, h5⟩, _⟩ := hf2 k hk'
      obtain ⟨⟨z0, _⟩, _⟩ := hf2 0 (by omega)
      have hsp := World.cell?_spot z0
      obtain ⟨bb, oo, sp⟩ := a'
      rw [Nat.zero_mul] at hsp
      simp [Addr.add] at hsp
      subst hsp
      rw [add_plain] at g0 g1
      refine ⟨bb, oo, (f k).2.1, (f k).2.2.1, rfl, cell_lt g0, ?_, ?_, ?_, ?_⟩
      · simpa using g0
      · simpa [Nat.add_assoc] using g1
      · simpa using h3
      · simpa using h5
    · intro k hk hk'
      have hk2 : k < len := by simpa using hk
      simpa using (hf2 k hk2).2.2
set_option maxRecDepth 100000 in
theorem open_net {H : Type} {enc : TypeId × Value → H} {W : World} {r : Reach} {b0 : Nat} {v : Value} {d : DataW H} {p : List MemPlace} (hval : Value.okWide Tryz.prog W r b0 26 v) (h : DataW.Trod enc Tryz.prog W 0 (fun _ => true) true 26 v d p) :
    ∃ (a b c : Option Addr) (ca cb cc : Nat) (V : List Vr) (L : List (List Int)) (R : List (List Fr)) (dV dL dR : DataW H), v = .agg #[.slice a V.length ca, .slice b L.length cb, .slice c R.length cc] ∧ d = .agg [dV, dL, dR] ∧ NetI W a b c V L R ∧ LsD VarD dV V ∧ LsD IntD dL L ∧ LsD FrcD dR R ∧ LsN W b L := by
  obtain ⟨cs, rfl, hsz⟩ := okWide_struct Tryz.underlying26 hval
  rw [cellsNet] at hsz
  obtain ⟨l⟩ := cs
  match l, hsz with
  | [c0, c1, c2], _ =>
    obtain ⟨fuel, hf⟩ := h
    obtain ⟨y0, y1, y2, m, hx, _, hy0, hy1, hy2⟩ := Deep.trod_struct3 Tryz.underlying26 hf
    simp [Value.cells, cellsVars, cellsLs, cellsFr] at hy0 hy1 hy2
    obtain ⟨a, ca, V, e0, h0, d0⟩ := trod_vars hy0
    obtain ⟨b, cb, L, e1, h1, d1, n1⟩ := trod_lists hy1
    obtain ⟨c, cc, R, e2, h2, d2⟩ := trod_frows hy2
    obtain rfl : c0 = _ := by simpa using e0
    obtain rfl : c1 = _ := by simpa using e1
    obtain rfl : c2 = _ := by simpa using e2
    simp only [Prod.mk.injEq] at hx
    exact ⟨a, b, c, ca, cb, cc, V, L, R, _, _, _, rfl, hx.1, ⟨h0, h1, h2⟩, d0, d1, d2, n1⟩
/-- What is sized as a whole is sized piece by piece. -/
theorem sized_part {H : Type} {t e : TypeId} (ht : Tryz.prog.underlying t = some (.slice e)) {E rest : List (DataW H)} (h : (DataW.weightsEach Tryz.prog [t] [.slice E rest]).all (· ≤ reachBytes) = true) {d : DataW H} (hd : d ∈ E) : (DataW.weightsEach Tryz.prog [e] [d]).all (· ≤ reachBytes) = true := by
  rw [List.all_eq_true]
  intro n hn
  have hn' : n ∈ d.weights Tryz.prog e := by simpa [DataW.weightsEach] using hn
  have := List.all_eq_true.1 h n (by
    simp only [DataW.weightsEach, List.append_nil, DataW.weights, ht, List.mem_cons, List.mem_append]
    exact .inr (.inl (weights_all hd hn')))
  exact this
theorem sized_count {H : Type} {t e : TypeId} (ht : Tryz.prog.underlying t = some (.slice e)) {E rest : List (DataW H)} (h : (DataW.weightsEach Tryz.prog [t] [.slice E rest]).all (· ≤ reachBytes) = true) : E.length * Tryz.prog.bytesOf e ≤ reachBytes := by
  have := List.all_eq_true.1 h ((E.length + rest.length) * Tryz.prog.bytesOf e) (by simp [DataW.weightsEach, DataW.weights, ht])
  have h2 : (E.length + rest.length) * Tryz.prog.bytesOf e ≤ reachBytes := by simpa using this
  exact Nat.le_trans (Nat.mul_le_mul_right _ (by omega)) h2
theorem bytesVar : Tryz.prog.bytesOf 61 = 40 := by kernel_rfl
theorem bytesIs : Tryz.prog.bytesOf 27 = 24 := by kernel_rfl
theorem bytesFs : Tryz.prog.bytesOf 29 = 24 := by kernel_rfl
theorem bytesStr : Tryz.prog.bytesOf 9 = 16 := by kernel_rfl
theorem sized_strs {H : Type} {d : DataW H} {l : List ByteArray} (h : (DataW.weightsEach Tryz.prog [59] [d]).all (· ≤ reachBytes) = true) (hd : StrD d l) : l.length ≤ 140737488355328 ∧ ∀ s ∈ l, s.size ≤ 140737488355328 := by
  rcases hd with ⟨_, rfl⟩ | ⟨rest, rfl⟩
  · exact ⟨by simp, fun s hs => by cases hs⟩
  · constructor
    · have h1 := sized_count Tryz.underlying59 h
      rw [bytesStr, List.length_map] at h1
      simp only [reachBytes] at h1
      omega
    · intro s hs
      have h1 := sized_part Tryz.underlying59 h (List.mem_map_of_mem (f := sdt) hs)
      have h2 := List.all_eq_true.1 h1 s.data.toList.length (by simp [DataW.weightsEach, sdt, DataW.weights])
      have h3 : s.data.toList.length ≤ reachBytes := by simpa using h2
      rw [bytes_len] at h3
      simp only [reachBytes] at h3
      omega
theorem sized_net {H : Type} {ts : List TypeId} {ds : List (DataW H)} (h : (DataW.weightsEach Tryz.prog ts ds).all (· ≤ reachBytes) = true) {j : Nat} {V : List Vr} {L : List (List Int)} {R : List (List Fr)} {dV dL dR : DataW H} (ht : ts[j]? = some 26) (hd : ds[j]? = some (.agg [dV, dL, dR])) (hV : LsD VarD dV V) (hL : LsD IntD dL L) (hR : LsD FrcD dR R) : NHu V L R := by
  have part : ∀ (n : Nat), n ∈ DataW.weightsEach Tryz.prog [22, 23, 24] [dV, dL, dR] → n ≤ reachBytes := fun n hn => by
    have := List.all_eq_true.1 h n (DataW.weights_mem_each ht hd n (by
      simp only [DataW.weights, Tryz.underlying26]
      exact hn))
    simpa using this
  have hwV : (DataW.weightsEach Tryz.prog [22] [dV]).all (· ≤ reachBytes) = true := List.all_eq_true.2 fun n hn => decide_eq_true (part n (by simp [DataW.weightsEach] at hn ⊢; exact .inl hn))
  have hwL : (DataW.weightsEach Tryz.prog [23] [dL]).all (· ≤ reachBytes) = true := List.all_eq_true.2 fun n hn => decide_eq_true (part n (by simp [DataW.weightsEach] at hn ⊢; exact .inr (.inl hn)))
  have hwR : (DataW.weightsEach Tryz.prog [24] [dR]).all (· ≤ reachBytes) = true := List.all_eq_true.2 fun n hn => decide_eq_true (part n (by simp [DataW.weightsEach] at hn ⊢; exact .inr (.inr hn)))
  refine ⟨?_, ?_, ?_⟩
  · rcases hV with ⟨_, rfl⟩ | ⟨E, rest, rfl, he, hp⟩
    · exact ⟨by simp, fun x hx => by cases hx⟩
    · constructor
      · have h1 := sized_count Tryz.underlying22 hwV
        rw [bytesVar, he] at h1
        simp only [reachBytes] at h1
        omega
      · intro x hx
        obtain ⟨k, hk, rfl⟩ := List.getElem_of_mem hx
        obtain ⟨dv, e1, e2⟩ := hp k hk (by omega)
        have h1 := sized_part Tryz.underlying22 hwV (List.getElem_mem (show k < E.length by omega))
        rw [e1] at h1
        have h2 : ∀ n, n ∈ DataW.weightsEach Tryz.prog [9, 59] [sdt V[k].1, dv] → n ≤ reachBytes := fun n hn => by
          have := List.all_eq_true.1 h1 n (by
            simp only [DataW.weightsEach, List.append_nil, DataW.weights, Tryz.underlying61]
            simpa [DataW.weightsEach] using hn)
          simpa using this
        have h3 := h2 V[k].1.data.toList.length (by simp [DataW.weightsEach, sdt, DataW.weights])
        rw [bytes_len] at h3
        simp only [reachBytes] at h3
        have h4 := sized_strs (l := V[k].2) (List.all_eq_true.2 fun n hn => decide_eq_true (h2 n (by simp [DataW.weightsEach] at hn ⊢; exact .inr hn))) e2
        exact ⟨by omega, h4.1, h4.2⟩
  · rcases hL with ⟨_, rfl⟩ | ⟨E, rest, rfl, he, hp⟩
    · exact ⟨by simp, fun x hx => by cases hx⟩
    · constructor
      · have h1 := sized_count Tryz.underlying23 hwL
        rw [bytesIs, he] at h1
        simp only [reachBytes] at h1
        omega
      · intro x hx
        obtain ⟨k, hk, rfl⟩ := List.getElem_of_mem hx
        have h1 := sized_part Tryz.underlying23 hwL (List.getElem_mem (show k < E.length by omega))
        exact sized_ints h1 (j := 0) rfl rfl (hp k hk (by omega))
  · rcases hR with ⟨_, rfl⟩ | ⟨E, rest, rfl, he, hp⟩
    · exact ⟨by simp, fun x hx => by cases hx⟩
    · constructor
      · have h1 := sized_count Tryz.underlying24 hwR
        rw [bytesFs, he] at h1
        simp only [reachBytes] at h1
        omega
      · intro x hx
        obtain ⟨k, hk, rfl⟩ := List.getElem_of_mem hx
        have h1 := sized_part Tryz.underlying24 hwR (List.getElem_mem (show k < E.length by omega))
        exact sized_fracs' h1 (j := 0) rfl rfl (hp k hk (by omega))
end Go.Proofs.YtncccbdledcibaaGreatDoor


/- Arguments that a call has left alone read as before. -/
namespace Go.Proofs.YtncccbdledcibaaGreatDoor
open Go.ChangeShapes Go.WideShapes Go.ChangeAt Go.RowKit

theorem below_all {H : Type} {enc : TypeId × Value → H} {P : Program} (hl : laidOutB P = true) {W W' : World} (hb : Below W.heap.size W W') : ∀ {ts : List TypeId} {vs : List Value} {ds : List (DataW H)} {ps : List MemPlace},
    (ts.all fun t => P.readableRec t && decide (t < P.types.size)) = true → DataW.TrodAll enc P W 0 (fun _ => true) true ts vs ds ps → DataW.TrodAll enc P W' 0 (fun b => decide (b < W.heap.size)) true ts vs ds ps
  | [], [], [], _, _, h => h
  | t :: ts, v :: vs, d :: ds, _, ht, ⟨p, q, h, hr, e⟩ => by
    rw [List.all_cons, Bool.and_eq_true, Bool.and_eq_true] at ht
    refine ⟨p, q, Below.trod hl ht.1.1 (of_decide_eq_true ht.1.2) h hb ?_, below_all hl hb ht.2 hr, e⟩
    obtain ⟨m, hm⟩ := h
    exact DataW.trod_lt m _ _ _ hm
  | [], _ :: _, _, _, _, h => by simp [DataW.TrodAll] at h
  | [], [], _ :: _, _, _, h => by simp [DataW.TrodAll] at h
  | _ :: _, [], _, _, _, h => by simp [DataW.TrodAll] at h
  | _ :: _, _ :: _, [], _, _, h => by simp [DataW.TrodAll] at h
end Go.Proofs.YtncccbdledcibaaGreatDoor

