/- Nets that came in, opened: variables, the whole, and their sizes. -/
import Derived.Test.YtmdjhefcohcjhaaGreatDoorPrnHToHandN
import Derived.Test.YtmdjhefcohcjhaaGreatDoorProg
import Derived.Carry
import Derived.ProofKit
import Derived.OpenShut
import Derived.ShutString
namespace Go.Proofs.YtmdjhefcohcjhaaGreatDoor
open Go.ChangeShapes Go.WideShapes Go.ChangeAt Go.RowKit

set_option maxRecDepth 100000 in
theorem trod_vars {H : Type} {enc : TypeId × Value → H} {W : World} {fuel : Nat} {cs : List Value} {x : DataW H × List MemPlace} (hf : DataW.trod enc Tryz.prog W 0 (fun _ => true) true fuel 22 cs = some x) :
    ∃ (a : Option Addr) (cap : Nat) (V : List Vr), cs = [.slice a V.length cap] ∧ VsS W a V ∧ LsD VarD x.1 V := by
  rcases Deep.open_slice Tryz.underlying22 hf with ⟨hcs, hx⟩ | ⟨a', len, cap, m, n, D, Pl, hcs, hb, hl, hm, hmm, hx, hel⟩
  · exact ⟨none, 0, [], hcs, fun k hk => absurd hk (by simp), .inl ⟨by rw [hx], rfl⟩⟩
  · have hlm : len ≤ m := by rw [hmm]; split <;> omega
    rw [cellsVar] at hel
    have each : ∀ i, i < len → ∃ z : ByteArray × Option Addr × Nat × List ByteArray, (W.cell? (a'.add (i * 2)) = some (.string z.1) ∧ W.cell? (a'.add (i * 2 + 1)) = some (.slice z.2.1 z.2.2.2.length z.2.2.1)) ∧ (StS W z.2.1 z.2.2.2 ∧ z.2.2.2.length ≤ z.2.2.1) ∧ VarD (D i) (z.1, z.2.2.2) := by
      intro i hi
      obtain ⟨cs', h1, h2⟩ := hel i (by omega)
      obtain ⟨_, hlen, hcell⟩ := World.cells?_some h1
      match cs', hlen with
      | [c0, c1], _ =>
        obtain ⟨y0, y1, k, hxx, _, hy0, hy1⟩ := trod_struct2 Tryz.underlying33 h2
        simp [cellsStr, cellsStrs] at hy0 hy1
        obtain ⟨nm, e0, e1, _⟩ := DataW.trod_string Tryz.underlying9 hy0
        obtain ⟨b, c, l, e2, h3, h4, h5⟩ := trod_strs hy1
        obtain rfl : c0 = _ := by simpa using e0
        obtain rfl : c1 = _ := by simpa using e2
        have g0 := hcell 0 (by omega)
        have g1 := hcell 1 (by omega)
        rw [Deep.add_add] at g0 g1
        simp only [Prod.mk.injEq] at hxx
        refine ⟨(nm, b, c, l), ⟨by simpa using g0, by simpa using g1⟩, ⟨h3, h4⟩, y1.1, ?_, h5⟩
        rw [hxx.1, e1]
        rfl
    obtain ⟨f, hf2⟩ := Deep.choose_lt (α := ByteArray × Option Addr × Nat × List ByteArray) each
    refine ⟨some a', cap, (List.range len).map fun i => ((f i).1, (f i).2.2.2), by rw [hcs]; simp, ?_, .inr ⟨(List.range len).map D, (List.range (m - len)).map fun j => D (len + j), by rw [hx], by simp, ?_⟩⟩
    · intro k hk
      have hk' : k < len := by simpa using hk
      obtain ⟨⟨g0, g1⟩, ⟨h3, h5⟩, _⟩ := hf2 k hk'
      obtain ⟨⟨z0, _⟩, _⟩ := hf2 0 (by omega)
      have hsp := World.cell?_spot z0
      obtain ⟨bb, oo, sp⟩ := a'
      rw [Nat.zero_mul] at hsp
      simp [Addr.add] at hsp
      subst hsp
      rw [add_plain] at g0 g1
      refine ⟨bb, oo, (f k).2.1, (f k).2.2.1, rfl, cell_lt g0, ?_, ?_, ?_, ?_⟩
      · simpa using g0
      · simpa [Nat.add_assoc] using g1
      · simpa using h3
      · simpa using h5
    · intro k hk hk'
      have hk2 : k < len := by simpa using hk
      simpa using (hf2 k hk2).2.2
set_option maxRecDepth 100000 in
theorem open_net {H : Type} {enc : TypeId × Value → H} {W : World} {r : Reach} {b0 : Nat} {v : Value} {d : DataW H} {p : List MemPlace} (hval : Value.okWide Tryz.prog W r b0 26 v) (h : DataW.Trod enc Tryz.prog W 0 (fun _ => true) true 26 v d p) :
    ∃ (a b c : Option Addr) (ca cb cc : Nat) (V : List Vr) (L : List (List Int)) (R : List (List Fr)) (dV dL dR : DataW H), v = .agg #[.slice a V.length ca, .slice b L.length cb, .slice c R.length cc] ∧ d = .agg [dV, dL, dR] ∧ NetI W a b c V L R ∧ LsD VarD dV V ∧ LsD IntD dL L ∧ LsD FrcD dR R ∧ LsN W b L := by
  obtain ⟨cs, rfl, hsz⟩ := okWide_struct Tryz.underlying26 hval
  rw [cellsNet] at hsz
  obtain ⟨l⟩ := cs
  match l, hsz with
  | [c0, c1, c2], _ =>
    obtain ⟨fuel, hf⟩ := h
    obtain ⟨y0, y1, y2, m, hx, _, hy0, hy1, hy2⟩ := Deep.trod_struct3 Tryz.underlying26 hf
    simp [Value.cells, cellsVars, cellsLs, cellsFr] at hy0 hy1 hy2
    obtain ⟨a, ca, V, e0, h0, d0⟩ := trod_vars hy0
    obtain ⟨b, cb, L, e1, h1, d1, n1⟩ := trod_lists hy1
    obtain ⟨c, cc, R, e2, h2, d2⟩ := trod_frows hy2
    obtain rfl : c0 = _ := by simpa using e0
    obtain rfl : c1 = _ := by simpa using e1
    obtain rfl : c2 = _ := by simpa using e2
    simp only [Prod.mk.injEq] at hx
    exact ⟨a, b, c, ca, cb, cc, V, L, R, _, _, _, rfl, hx.1, ⟨h0, h1, h2⟩, d0, d1, d2, n1⟩
/-- What is sized as a whole is sized piece by piece. -/
theorem sized_part {H : Type} {t e : TypeId} (ht : Tryz.prog.underlying t = some (.slice e)) {E rest : List (DataW H)} (h : (DataW.weightsEach Tryz.prog [t] [.slice E rest]).all (· ≤ reachBytes) = true) {d : DataW H} (hd : d ∈ E) : (DataW.weightsEach Tryz.prog [e] [d]).all (· ≤ reachBytes) = true := by
  rw [List.all_eq_true]
  intro n hn
  have hn' : n ∈ d.weights Tryz.prog e := by simpa [DataW.weightsEach] using hn
  have := List.all_eq_true.1 h n (by
    simp only [DataW.weightsEach, List.append_nil, DataW.weights, ht, List.mem_cons, List.mem_append]
    exact .inr (.inl (weights_all hd hn')))
  exact this
theorem sized_count {H : Type} {t e : TypeId} (ht : Tryz.prog.underlying t = some (.slice e)) {E rest : List (DataW H)} (h : (DataW.weightsEach Tryz.prog [t] [.slice E rest]).all (· ≤ reachBytes) = true) : E.length * Tryz.prog.bytesOf e ≤ reachBytes := by
  have := List.all_eq_true.1 h ((E.length + rest.length) * Tryz.prog.bytesOf e) (by simp [DataW.weightsEach, DataW.weights, ht])
  have h2 : (E.length + rest.length) * Tryz.prog.bytesOf e ≤ reachBytes := by simpa using this
  exact Nat.le_trans (Nat.mul_le_mul_right _ (by omega)) h2
theorem bytesVar : Tryz.prog.bytesOf 33 = 40 := by kernel_rfl
theorem bytesIs : Tryz.prog.bytesOf 34 = 24 := by kernel_rfl
theorem bytesFs : Tryz.prog.bytesOf 36 = 24 := by kernel_rfl
theorem bytesStr : Tryz.prog.bytesOf 9 = 16 := by kernel_rfl
theorem sized_strs {H : Type} {d : DataW H} {l : List ByteArray} (h : (DataW.weightsEach Tryz.prog [31] [d]).all (· ≤ reachBytes) = true) (hd : StrD d l) : l.length ≤ 140737488355328 ∧ ∀ s ∈ l, s.size ≤ 140737488355328 := by
  rcases hd with ⟨_, rfl⟩ | ⟨rest, rfl⟩
  · exact ⟨by simp, fun s hs => by cases hs⟩
  · constructor
    · have h1 := sized_count Tryz.underlying31 h
      rw [bytesStr, List.length_map] at h1
      simp only [reachBytes] at h1
      omega
    · intro s hs
      have h1 := sized_part Tryz.underlying31 h (List.mem_map_of_mem (f := sdt) hs)
      have h2 := List.all_eq_true.1 h1 s.data.toList.length (by simp [DataW.weightsEach, sdt, DataW.weights])
      have h3 : s.data.toList.length ≤ reachBytes := by simpa using h2
      rw [bytes_len] at h3
      simp only [reachBytes] at h3
      omega
theorem sized_net {H : Type} {ts : List TypeId} {ds : List (DataW H)} (h : (DataW.weightsEach Tryz.prog ts ds).all (· ≤ reachBytes) = true) {j : Nat} {V : List Vr} {L : List (List Int)} {R : List (List Fr)} {dV dL dR : DataW H} (ht : ts[j]? = some 26) (hd : ds[j]? = some (.agg [dV, dL, dR])) (hV : LsD VarD dV V) (hL : LsD IntD dL L) (hR : LsD FrcD dR R) : NHu V L R := by
  have part : ∀ (n : Nat), n ∈ DataW.weightsEach Tryz.prog [22, 23, 24] [dV, dL, dR] → n ≤ reachBytes := fun n hn => by
    have := List.all_eq_true.1 h n (DataW.weights_mem_each ht hd n (by
      simp only [DataW.weights, Tryz.underlying26]
      exact hn))
    simpa using this
  have hwV : (DataW.weightsEach Tryz.prog [22] [dV]).all (· ≤ reachBytes) = true := List.all_eq_true.2 fun n hn => decide_eq_true (part n (by simp [DataW.weightsEach] at hn ⊢; exact .inl hn))
  have hwL : (DataW.weightsEach Tryz.prog [23] [dL]).all (· ≤ reachBytes) = true := List.all_eq_true.2 fun n hn => decide_eq_true (part n (by simp [DataW.weightsEach] at hn ⊢; exact .inr (.inl hn)))
  have hwR : (DataW.weightsEach Tryz.prog [24] [dR]).all (· ≤ reachBytes) = true := List.all_eq_true.2 fun n hn => decide_eq_true (part n (by simp [DataW.weightsEach] at hn ⊢; exact .inr (.inr hn)))
  refine ⟨?_, ?_, ?_⟩
  · rcases hV with ⟨_, rfl⟩ | ⟨E, rest, rfl, he, hp⟩
    · exact ⟨by simp, fun x hx => by cases hx⟩
    · constructor
      · have h1 := sized_count Tryz.underlying22 hwV
        rw [bytesVar, he] at h1
        simp only [reachBytes] at h1
        omega
      · intro x hx
        obtain ⟨k, hk, rfl⟩ := List.getElem_of_mem hx
        obtain ⟨dv, e1, e2⟩ := hp k hk (by omega)
        have h1 := sized_part Tryz.underlying22 hwV (List.getElem_mem (show k < E.length by omega))
        rw [e1] at h1
        have h2 : ∀ n, n ∈ DataW.weightsEach Tryz.prog [9, 31] [sdt V[k].1, dv] → n ≤ reachBytes := fun n hn => by
          have := List.all_eq_true.1 h1 n (by
            simp only [DataW.weightsEach, List.append_nil, DataW.weights, Tryz.underlying33]
            simpa [DataW.weightsEach] using hn)
          simpa using this
        have h3 := h2 V[k].1.data.toList.length (by simp [DataW.weightsEach, sdt, DataW.weights])
        rw [bytes_len] at h3
        simp only [reachBytes] at h3
        have h4 := sized_strs (l := V[k].2) (List.all_eq_true.2 fun n hn => decide_eq_true (h2 n (by simp [DataW.weightsEach] at hn ⊢; exact .inr hn))) e2
        exact ⟨by omega, h4.1, h4.2⟩
  · rcases hL with ⟨_, rfl⟩ | ⟨E, rest, rfl, he, hp⟩
    · exact ⟨by simp, fun x hx => by cases hx⟩
    · constructor
      · have h1 := sized_count Tryz.underlying23 hwL
        rw [bytesIs, he] at h1
        simp only [reachBytes] at h1
        omega
      · intro x hx
        obtain ⟨k, hk, rfl⟩ := List.getElem_of_mem hx
        have h1 := sized_part Tryz.underlying23 hwL (List.getElem_mem (show k < E.length by omega))
        exact sized_ints h1 (j := 0) rfl rfl (hp k hk (by omega))
  · rcases hR with ⟨_, rfl⟩ | ⟨E, rest, rfl, he, hp⟩
    · exact ⟨by simp, fun x hx => by cases hx⟩
    · constructor
      · have h1 := sized_count Tryz.underlying24 hwR
        rw [bytesFs, he] at h1
        simp only [reachBytes] at h1
        omega
      · intro x hx
        obtain ⟨k, hk, rfl⟩ := List.getElem_of_mem hx
        have h1 := sized_part Tryz.underlying24 hwR (List.getElem_mem (show k < E.length by omega))
        exact sized_fracs' h1 (j := 0) rfl rfl (hp k hk (by omega))
end Go.Proofs.YtmdjhefcohcjhaaGreatDoor


/- Arguments that a call has left alone read as before. -/
namespace Go.Proofs.YtmdjhefcohcjhaaGreatDoor
open Go.ChangeShapes Go.WideShapes Go.ChangeAt Go.RowKit

theorem below_all {H : Type} {enc : TypeId × Value → H} {P : Program} (hl : laidOutB P = true) {W W' : World} (hb : Below W.heap.size W W') : ∀ {ts : List TypeId} {vs : List Value} {ds : List (DataW H)} {ps : List MemPlace},
    (ts.all fun t => P.readableRec t && decide (t < P.types.size)) = true → DataW.TrodAll enc P W 0 (fun _ => true) true ts vs ds ps → DataW.TrodAll enc P W' 0 (fun b => decide (b < W.heap.size)) true ts vs ds ps
  | [], [], [], _, _, h => h
  | t :: ts, v :: vs, d :: ds, _, ht, ⟨p, q, h, hr, e⟩ => by
    rw [List.all_cons, Bool.and_eq_true, Bool.and_eq_true] at ht
    refine ⟨p, q, Below.trod hl ht.1.1 (of_decide_eq_true ht.1.2) h hb ?_, below_all hl hb ht.2 hr, e⟩
    obtain ⟨m, hm⟩ := h
    exact DataW.trod_lt m _ _ _ hm
  | [], _ :: _, _, _, _, h => by simp [DataW.TrodAll] at h
  | [], [], _ :: _, _, _, h => by simp [DataW.TrodAll] at h
  | _ :: _, [], _, _, _, h => by simp [DataW.TrodAll] at h
  | _ :: _, _ :: _, [], _, _, h => by simp [DataW.TrodAll] at h
end Go.Proofs.YtmdjhefcohcjhaaGreatDoor

