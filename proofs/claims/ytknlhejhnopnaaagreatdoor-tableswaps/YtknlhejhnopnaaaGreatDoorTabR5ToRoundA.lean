/- The document's answer: the assignment of a place. -/
import Derived.Test.YtknlhejhnopnaaaGreatDoorSumAToTabP2
import Derived.Test.YtknlhejhnopnaaaGreatDoorRefAToRefC
import Derived.Test.YtknlhejhnopnaaaGreatDoorCore1ToCore4
import Derived.Deep.RegionHeld3
namespace Go.Proofs.YtknlhejhnopnaaaGreatDoor
open Go.RowKit

theorem cnt_drop_dvd (S vs : List Nat) (i : Nat) : cnt S (vs.drop i) ∣ cnt S vs := by
  have h := cnt_append S (vs.take i) (vs.drop i)
  rw [List.take_append_drop] at h
  exact ⟨_, by rw [h, Nat.mul_comm]⟩
theorem digs_get {S : List Nat} (hp : Pos S) : ∀ (vs : List Nat) (k i : Nat) (_ : k < cnt S vs) (h : i < vs.length), (digs S vs k)[i]'(by rw [digs_length]; exact h) = k % cnt S (vs.drop i) / cnt S (vs.drop (i + 1))
  | [], _, _, _, h => absurd h (by simp)
  | v :: vs, k, 0, hk, _ => by
    show k / cnt S vs = k % cnt S (v :: vs) / cnt S vs
    rw [Nat.mod_eq_of_lt hk]
  | v :: vs, k, i + 1, _, h => by
    have h' : i < vs.length := by simpa using h
    have := digs_get hp vs (k % cnt S vs) i (Nat.mod_lt _ (cnt_pos hp vs)) h'
    show (digs S vs (k % cnt S vs))[i]'_ = k % cnt S (vs.drop i) / cnt S (vs.drop (i + 1))
    rw [this, Nat.mod_mod_of_dvd _ (cnt_drop_dvd S vs i)]
theorem digs_at {S : List Nat} (hp : Pos S) (vs : List Nat) (k i : Nat) (hk : k < cnt S vs) (h : i < vs.length) : (digs S vs k)[i]? = some (k % cnt S (vs.drop i) / cnt S (vs.drop (i + 1))) := by
  rw [List.getElem?_eq_getElem (by rw [digs_length]; exact h), digs_get hp vs k i hk h]
theorem cnt_drop (S vs : List Nat) {i : Nat} (h : i < vs.length) : cnt S (vs.drop i) = sz S vs[i] * cnt S (vs.drop (i + 1)) := by
  rw [List.drop_eq_getElem_cons h, cnt]
/-- What is written when i values are told. -/
def partD (l : List Nat) (i : Nat) : List Nat := l.take i ++ List.replicate (l.length - i) 0
theorem partD_zero (l : List Nat) : partD l 0 = List.replicate l.length 0 := by simp [partD]
theorem partD_length (l : List Nat) {i : Nat} (h : i ≤ l.length) : (partD l i).length = l.length := by simp [partD]; omega
theorem partD_all (l : List Nat) : partD l l.length = l := by simp [partD]
theorem partD_set (l : List Nat) {i : Nat} (h : i < l.length) : (partD l i).set i l[i] = partD l (i + 1) := by
  rw [partD, partD, List.set_append_right _ _ (by simp; omega), List.take_succ_eq_append_getElem h]
  have e : l.length - i = (l.length - (i + 1)) + 1 := by omega
  rw [e, List.replicate_succ, List.length_take, Nat.min_eq_left (by omega), Nat.sub_self, List.set_cons_zero, List.append_assoc]
  rfl
/-- Natural numbers as ints. -/
def iL (l : List Nat) : List Int := l.map fun x : Nat => (x : Int)
theorem iL_length (l : List Nat) : (iL l).length = l.length := by simp [iL]
theorem toN_iL (l : List Nat) : toN (iL l) = l := by simp [toN, iL, Function.comp_def]
theorem RowI.ints {w : World} {g : Nat} {l : List Nat} (h : RowI w g l) : IntS w (some ⟨g, 0, none⟩) (iL l) := fun k hk => by
  rw [iL_length] at hk
  refine ⟨g, 0, rfl, h.lt, ?_⟩
  rw [Nat.zero_add, h.cell k hk]
  simp [iL]

theorem wrap_le (n : Nat) (h : n ≤ 65536) : wrap64 (n : Int) = (n : Int) := by
  rw [wrap64]
  omega

/-- What Where answers. -/
def whereL (sizes vars : List Int) (k : Int) : List Nat := if countB sizes vars = true ∧ 0 ≤ k ∧ k < (cnt (toN sizes) (toN vars) : Int) then digs (toN sizes) (toN vars) k.toNat else []
def whereE (sizes vars : List Int) (k : Int) : Int := if countB sizes vars = true then (if 0 ≤ k ∧ k < (cnt (toN sizes) (toN vars) : Int) then 0 else 15) else 11

set_option maxRecDepth 100000 in
set_option maxHeartbeats 400000 in
theorem rWhere_any (a b : Option Addr) (ca cb : Nat) (sizes vars : List Int) (k : Int) (w : World) (hs : IntS w a sizes) (hv : IntS w b vars) (hn : sizes.length ≤ 140737488355328) (hm : vars.length ≤ 140737488355328) :
    Calls Tryz.prog 15 #[.slice a sizes.length ca, .slice b vars.length cb, .int .i64 k] w fun e w' => ∃ (c : Option Addr) (cc : Nat), e = .returned (.tuple #[.slice c (whereL sizes vars k).length cc, .int .i64 (whereE sizes vars k)]) ∧ IntS w' c (iL (whereL sizes vars k)) ∧ Below w.heap.size w w' := by
  obtain ⟨i0, hi0, hz0, hz1, hz2⟩ := info_parts Tryz.infoInt
  have HS := hid hs
  have HV := hid hv
  have HC := hid (fun V h1 h2 => rCount_any a b ca cb sizes vars V h1 h2 hn hm)
  clear hs hv
  cases hcb : countB sizes vars with
  | false =>
    have HL : Hid (whereL sizes vars k = []) := if_neg (by rw [hcb]; simp)
    have HE : Hid (whereE sizes vars k = 11) := if_neg (by rw [hcb]; decide)
    rw [countA_no hcb] at HC
    simp only at HC
    generalize whereL sizes vars k = rl at *
    generalize whereE sizes vars k = re at *
    go_enter Tryz.func15, Tryz.ntmps15
    go_wp2_with fail
    refine (HC.out _ HS.out HV.out).mono ?_
    rintro e w1 ⟨rfl, hb1⟩
    go_wp2
    go_ret2
    exact ⟨none, 0, by rw [HL.out, HE.out]; rfl, by rw [HL.out]; exact fun k hk => absurd hk (by simp [iL]), hb1⟩
  | true =>
    rw [countA_yes hcb] at HC
    simp only at HC
    obtain ⟨hfi, hup⟩ := countB_parts hcb
    have hl8 := hfi.eight
    have hvl := hup.length
    have hsm : cnt (toN sizes) (toN vars) ≤ 65536 := cnt_small hfi.sz_le (by rw [toN_length]; omega)
    by_cases hk : 0 ≤ k ∧ k < (cnt (toN sizes) (toN vars) : Int)
    · have HL : Hid (whereL sizes vars k = digs (toN sizes) (toN vars) k.toNat) := if_pos ⟨hcb, hk⟩
      have HE : Hid (whereE sizes vars k = 0) := by show _ = _; rw [whereE, if_pos hcb, if_pos hk]
      rw [HL.out, HE.out]
      obtain ⟨hk0, hk1⟩ := hk
      obtain ⟨K, rfl⟩ : ∃ K : Nat, k = K := ⟨k.toNat, by omega⟩
      rw [Int.toNat_natCast]
      have hK : K < cnt (toN sizes) (toN vars) := by omega
      have HD := hid (fun i h => digs_at hfi.pos (toN vars) K i hK h)
      have hdl : (digs (toN sizes) (toN vars) K).length = vars.length := by rw [digs_length, toN_length]
      have HFI := hid hfi
      have HUP := hid hup
      have HSM := hid (fun i => show cnt (toN sizes) ((toN vars).drop i) ≤ 65536 from cnt_small hfi.sz_le (by rw [List.length_drop, toN_length]; omega))
      have HPO := hid (fun i => cnt_pos hfi.pos ((toN vars).drop i))
      have HC0 : Hid (cnt (toN sizes) (toN vars) = cnt (toN sizes) ((toN vars).drop 0) ∧ K = K % cnt (toN sizes) ((toN vars).drop 0)) := ⟨by rw [List.drop_zero], by rw [List.drop_zero, Nat.mod_eq_of_lt hK]⟩
      clear HL HE hcb hfi hup hK
      generalize digs (toN sizes) (toN vars) K = ds at *
      rw [hdl]
      go_enter Tryz.func15, Tryz.ntmps15
      go_wp2_with fail
      refine (HC.out _ HS.out HV.out).mono ?_
      rintro e w1 ⟨rfl, hb1⟩
      go_wp2_with (first
        | (at_make; refine wpList_make_full _ rfl _ _ 22 rfl w1.heap.size 3 i0 (.int .i64 0) 1 Tryz.underlying22 hi0 hz0 hz1 .i64 .i64 _ _ vars.length rfl rfl (by go_num) (by go_num) (by rw [hz2]; omega) (by unfold maxLen; omega) (Nat.le_refl _) ?_; intro w2 hown2 hgrow2))
      have hb2 := block_of_own hown2
      rw [made_ints] at hb2
      have hB2 : Below w.heap.size w w2 := hb1.grown hgrow2 hb1.size (fun k e => by cases e)
      have HI : Hid (RowI w2 w1.heap.size (List.replicate vars.length 0)) := hb2
      have hlt1 := hb1.size
      clear hown2 hgrow2 hb2
      go_wp2_with fail
      go_loopw [2, 8, 11] (fun kv nv iv wr => ∃ i : Nat, i ≤ vars.length ∧ iv = .int .i64 i ∧ nv = .int .i64 (cnt (toN sizes) ((toN vars).drop i) : Nat) ∧ kv = .int .i64 (K % cnt (toN sizes) ((toN vars).drop i) : Nat) ∧ Hid (RowI wr w1.heap.size (partD ds i)) ∧ Below w.heap.size w wr) (fun _ _ iv _ => vars.length - (intOf iv).toNat)
      case atStart => exact ⟨0, Nat.zero_le _, rfl, by rw [← HC0.out.1], by rw [← HC0.out.2], by rw [partD_zero, hdl]; exact HI, hB2⟩
      case round =>
        obtain ⟨i, hi, rfl, rfl, rfl, HR, hB⟩ := hrel
        by_cases hlt : i < vars.length
        · obtain ⟨g, o, rfl, hg, c0⟩ := (HV.out.below hB) i hlt
          obtain ⟨hvi, hvn⟩ := HUP.out.nat hlt
          have hil : i < (toN vars).length := by rw [toN_length]; exact hlt
          have hdr := cnt_drop (toN sizes) (toN vars) hil
          rw [toN_get hlt] at hdr
          have hdg : ds[i]'(by omega) = K % cnt (toN sizes) ((toN vars).drop i) / cnt (toN sizes) ((toN vars).drop (i + 1)) := by
            have := HD.out i hil
            rwa [List.getElem?_eq_getElem (by omega), Option.some.injEq] at this
          have hps := HPO.out (i + 1)
          have hns := HSM.out i
          have hn1' := HSM.out (i + 1)
          have hz := sz_pos HFI.out.pos vars[i].toNat
          have hz4 := HFI.out.sz_le vars[i].toNat
          have hmm : K % cnt (toN sizes) ((toN vars).drop (i + 1)) = K % cnt (toN sizes) ((toN vars).drop i) % cnt (toN sizes) ((toN vars).drop (i + 1)) := by rw [hdr, mod_mod_c]
          generalize hV : vars[i].toNat = v at *
          rw [← hvi] at c0
          obtain ⟨g', o', rfl, hg', c1⟩ := (HS.out.below hB) v hvn
          rw [← HFI.out.sz_eq hvn] at c1
          have hset := hid (HR.out.set i (ds[i]'(by omega)))
          rw [partD_set ds (by omega)] at hset
          have hcell : wr.cell? ⟨w1.heap.size, i, none⟩ = some (.int .i64 ((partD ds i)[i]'(by rw [partD_length _ (by omega)]; omega) : Nat)) := HR.out.cell i (by rw [partD_length _ (by omega)]; omega)
          have hfz := HR.out.fz i
          have hdi : i < ds.length := by omega
          rw [hdg] at hset
          generalize (partD ds i)[i]'(by rw [partD_length _ (by omega)]; omega) = z at *
          have HMM := hid hmm
          clear hmm hdg hvi hV HR HI
          have hq : cnt (toN sizes) ((toN vars).drop i) / sz (toN sizes) v = cnt (toN sizes) ((toN vars).drop (i + 1)) := by rw [hdr, Nat.mul_div_cancel_left _ (by omega)]
          have HQ := hid hq
          clear hq hdr
          have hmod := Nat.mod_lt K (show 0 < cnt (toN sizes) ((toN vars).drop i) from HPO.out i)
          obtain ⟨n1, hn1e⟩ : ∃ n, cnt (toN sizes) ((toN vars).drop (i + 1)) = n := ⟨_, rfl⟩
          rw [hn1e] at hset hps hn1' HMM HQ
          have HN1 := hid hn1e
          clear hn1e
          generalize cnt (toN sizes) ((toN vars).drop i) = n0 at *
          generalize sz (toN sizes) v = s0 at *
          generalize K % n0 = k0 at *
          have hq1 : (n0 : Int) / (s0 : Int) = (n1 : Int) := by rw [← HQ.out]; exact (Int.natCast_ediv _ _).symm
          have hq2 : (k0 : Int) / (n1 : Int) = ((k0 / n1 : Nat) : Int) := (Int.natCast_ediv _ _).symm
          have hq3 : (k0 : Int) % (n1 : Int) = ((k0 % n1 : Nat) : Int) := (Int.natCast_emod _ _).symm
          have hkd : k0 / n1 ≤ 65536 := Nat.le_trans (Nat.div_le_self _ _) (by omega)
          have hkm : k0 % n1 ≤ 65536 := Nat.le_trans (Nat.mod_le _ _) (by omega)
          generalize k0 / n1 = dd at *
          generalize k0 % n1 = mm at *
          have hz1' : ¬ (s0 : Int) = 0 := by omega
          have hz2' : ¬ (n1 : Int) = 0 := by omega
          go_wp2
          go_roundw
          case rel => exact ⟨i + 1, by omega, by go_num, by rw [HN1.out], by rw [HN1.out, HMM.out, ← hq3], (by have h := hset.out; rwa [← hq2] at h), hB.setCell (p := ⟨w1.heap.size, _, none⟩) hlt1 _⟩
          case measure => simp [intOf]; omega
        · obtain rfl : i = vars.length := by omega
          have hfin := HR.out.ints
          rw [← hdl, partD_all] at hfin
          go_wp2
          go_ret2
          exact ⟨some ⟨w1.heap.size, 0, none⟩, vars.length, rfl, hfin, hB⟩
    · have HL : Hid (whereL sizes vars k = []) := if_neg (fun h => hk h.2)
      have HE : Hid (whereE sizes vars k = 15) := by show _ = _; rw [whereE, if_pos hcb, if_neg hk]
      clear hcb hfi hup
      generalize whereL sizes vars k = rl at *
      generalize whereE sizes vars k = re at *
      generalize cnt (toN sizes) (toN vars) = N0 at *
      rcases (show k < 0 ∨ (0 ≤ k ∧ (N0 : Int) ≤ k) by omega) with h3 | ⟨h3, h4⟩
      all_goals
        clear hk
        go_enter Tryz.func15, Tryz.ntmps15
        go_wp2_with fail
        refine (HC.out _ HS.out HV.out).mono ?_
        rintro e w1 ⟨rfl, hb1⟩
        go_wp2
        go_ret2
        exact ⟨none, 0, by rw [HL.out, HE.out]; rfl, by rw [HL.out]; exact fun k hk => absurd hk (by simp [iL]), hb1⟩
end Go.Proofs.YtknlhejhnopnaaaGreatDoor

/- slices.Backward over a slice of ints: what a loop over it may lean on. -/
namespace Go.Proofs.YtknlhejhnopnaaaGreatDoor
open Go.RowKit Go.Shelf

attribute [local go_sem] Oper.semAt_some

/-- A list of ints, as a slice at a, in blocks below B. -/
def IntB (B : Nat) (w : World) (a : Option Addr) (l : List Int) : Prop := ∀ k (h : k < l.length), ∃ g o, a = some ⟨g, o, none⟩ ∧ g < B ∧ w.cell? ⟨g, o + k, none⟩ = some (.int .i64 l[k])
theorem IntB.below {B : Nat} {w w' : World} {a : Option Addr} {l : List Int} (h : IntB B w a l) (hb : Below B w w') : IntB B w' a l := fun k hk => by
  obtain ⟨g, o, h1, h2, h3⟩ := h k hk
  exact ⟨g, o, h1, h2, (hb.cell (p := ⟨g, _, none⟩) h2).trans h3⟩
theorem IntS.toB {w : World} {a : Option Addr} {l : List Int} (h : IntS w a l) : IntB w.heap.size w a l := h
theorem IntB.mono {B B' : Nat} {w : World} {a : Option Addr} {l : List Int} (h : IntB B w a l) (hB : B ≤ B') : IntB B' w a l := fun k hk => by
  obtain ⟨g, o, h1, h2, h3⟩ := h k hk
  exact ⟨g, o, h1, Nat.lt_of_lt_of_le h2 hB, h3⟩
/-- What a round must keep: the iterator's box, and all that lay below B. -/
def KeepsB (Bn B : Nat) (V V' : World) : Prop := KeepsBox Bn V V' ∧ Below B V V'
theorem KeepsB.t {Bn B : Nat} {X Y Z : World} (h : KeepsB Bn B X Y) (k : KeepsB Bn B Y Z) : KeepsB Bn B X Z := ⟨h.1.t k.1, h.2.trans k.2⟩
theorem KeepsB.b {Bn B : Nat} {w : World} (hn : Bn < w.heap.size) (hB : B ≤ w.heap.size) (V : World) (l : Nat) (o o' : Obj) (hl : w.heap.size ≤ l) (h1 : V.heap[l]? = some o) (h2 : o.isCells = false) (h3 : o.isWalk = false) : KeepsB Bn B V (V.putObj l o') :=
  ⟨KeepsBox.b hn V l o o' hl h1 h2 h3, belowK_b hB V l o o' hl h1 h2 h3⟩

/-- The places of a list, from the last on. -/
def backs (n k : Nat) : List Nat := (List.range k).map fun j => n - 1 - j
theorem backs_succ (n k : Nat) : backs n (k + 1) = backs n k ++ [n - 1 - k] := by simp [backs, List.range_succ]
theorem backs_length (n k : Nat) : (backs n k).length = k := by simp [backs]

abbrev At (l : List Int) : Type := { i : Nat // i < l.length }
abbrev atV (l : List Int) (x : At l) : Array Value := #[.int .i64 (x.1 : Nat), .int .i64 (l[x.1]'x.2)]

set_option maxRecDepth 100000 in
set_option maxHeartbeats 400000 in
theorem backward1_in (n : Nat) (hn : 1 ≤ n) (l Bn B : Nat) (a : Option Addr) (cap : Nat) (xs : List Int) (hl : xs.length ≤ 140737488355328) (J Jx : List (At xs) → World → Prop)
    (hY : ∀ pre x V, J pre V → pre.length < xs.length → YieldAt Fence.wide (n - 1) Tryz.prog l (atV xs x) V fun e V' =>
      (e = .returned (.bool true) ∧ J (pre ++ [x]) V' ∧ KeepsB Bn B V V') ∨ (e = .returned (.bool false) ∧ Jx (pre ++ [x]) V'))
    (V : World) (hBn : V.cell? ⟨Bn, 0, none⟩ = some (.slice a xs.length cap)) (hx : IntB B V a xs) (h0 : J [] V) :
    CallsIn Fence.wide n Tryz.prog 133 #[.func (.yield l) #[] #[], .pointer (some ⟨Bn, 0, none⟩)] V fun e V' => (∃ v, e = .returned v) ∧
      ((∃ ys : List (At xs), ys.map (·.1) = backs xs.length xs.length ∧ J ys V') ∨ (∃ pre : List (At xs), (∃ k, k ≤ xs.length ∧ pre.map (·.1) = backs xs.length k) ∧ Jx pre V')) := by
  have HX := hid hx
  clear hx
  refine callsIn_of_wp Tryz.func133 rfl trivial ?_ rfl
  simp only [Tryz.ntmps133, List.size_toArray, List.length_cons, List.length_nil, Nat.reduceAdd, Nat.reduceSub, Array.replicate_succ, Array.replicate_zero, List.push_toArray, List.append_toArray, List.nil_append, List.cons_append]
  gi_wp2
  gi_loopw [3] (fun i wr => ∃ (k : Nat) (pre : List (At xs)), k ≤ xs.length ∧ i = .int .i64 ((xs.length : Int) - 1 - (k : Int)) ∧ Hid (pre.map (·.1) = backs xs.length k) ∧ J pre wr ∧ wr.cell? ⟨Bn, 0, none⟩ = some (.slice a xs.length cap) ∧ Hid (IntB B wr a xs))
    (fun i _ => (intOf i + 1).toNat)
  case atStart => exact ⟨0, [], Nat.zero_le _, by simp, rfl, h0, hBn, HX⟩
  case round =>
    obtain ⟨k, pre, hk, rfl, HP, hJs, hbx, HB⟩ := hrel
    by_cases hlt : k < xs.length
    · have hpl : pre.length = k := by have := congrArg List.length HP.out; rwa [List.length_map, backs_length] at this
      have hi : xs.length - 1 - k < xs.length := by omega
      obtain ⟨fn, tmps, assign, body, hy, hR⟩ := hY pre ⟨xs.length - 1 - k, hi⟩ wr hJs (by omega)
      obtain ⟨g, o, rfl, hg, c0⟩ := HB.out (xs.length - 1 - k) hi
      have HS : Hid ((pre ++ [(⟨xs.length - 1 - k, hi⟩ : At xs)]).map (·.1) = backs xs.length (k + 1)) := by show _ = _; rw [List.map_append, HP.out, backs_succ]; rfl
      have HR := hid hR
      clear hR
      rw [atV] at hy
      simp only at hy
      have HEQ : Hid ((xs.length : Int) - 1 - ((k + 1 : Nat) : Int) = (xs.length : Int) - 1 - (k : Int) - 1) := by show _ = _; omega
      have hEe : (xs.length : Int) - 1 - (k : Int) = ((xs.length - 1 - k : Nat) : Int) := by omega
      rw [hEe]
      have HEE := hid hEe
      clear hEe
      have hE1 : xs.length - 1 - k < xs.length := hi
      generalize hEn : xs[xs.length - 1 - k] = xv at *
      generalize hEm : xs.length - 1 - k = E at *
      gi_wp2
      refine HR.out.mono ?_
      rintro e W3 (⟨rfl, hJ3, hk3⟩ | ⟨rfl, hJx3⟩)
      · have hbx3 := Eq.trans hk3.1 hbx
        have hB3 := HB.out.below hk3.2
        gi_wp2
        go_roundw
        case rel => exact ⟨k + 1, _, by omega, by rw [HEQ.out, HEE.out], HS, hJ3, hbx3, hB3⟩
        case measure => simp [intOf]
      · gi_wp2
        refine bodyPost_ret (results_none rfl _ _ _) rfl ?_
        exact ⟨⟨_, rfl⟩, .inr ⟨_, ⟨k + 1, by omega, HS.out⟩, hJx3⟩⟩
    · obtain rfl : k = xs.length := by omega
      have he : (xs.length : Int) - 1 - (xs.length : Int) = -1 := by omega
      rw [he]
      gi_wp2
      go_end0
      exact ⟨⟨_, rfl⟩, .inl ⟨_, HP.out, hJs⟩⟩

end Go.Proofs.YtknlhejhnopnaaaGreatDoor

/- A region that draws its order, in a round of a range over a function: by the plain region's law. -/
namespace Go.Proofs.YtknlhejhnopnaaaGreatDoor
open Go.RowKit Go.Shelf

/-- No operation of the region defers. -/
def plainOps (ops : Array Oper) : Bool := ops.all fun o => match o.op with | .defer _ => false | _ => true
theorem plainOps_at {ops : Array Oper} (h : plainOps ops = true) {i : Nat} {o : Oper} (ho : ops[i]? = some o) : ∀ c, o.op ≠ .defer c := by
  intro c e
  rw [plainOps, Array.all_eq_true] at h
  obtain ⟨hi, he⟩ := Array.getElem?_eq_some_iff.1 ho
  have := h i hi
  rw [he, e] at this
  cases this

theorem op_in {l n : Nat} {P : Program} {ops : Array Oper} {Q : Exit → Act → World → Prop} (hnd : plainOps ops = true) (hlo : ¬ LetsOut Q) {i : Nat} {K K' : Act → World → Prop} {a : Act} {w : World} (hK : ∀ a w, K a w → K' a w)
    (h : wpOp P ops Q i K a w) : wpOpIn (Fence.wide.inRound l) n P ops Q i K' a w := by
  unfold wpOp at h
  unfold wpOpIn
  cases ho : ops[i]? with
  | none => rw [ho] at h; exact hK _ _ h
  | some o =>
    rw [ho] at h
    simp only at h ⊢
    by_cases hw : Region.wanted o (yielded ops a.tmps) = true
    · rw [if_pos hw] at h ⊢
      rcases h with h | h
      · refine ⟨fun _ _ => trivial, ?_⟩
        rw [Oper.semAt_eq _ _ _ (plainOps_at hnd ho)]
        unfold Oper.wp at h
        generalize (execOp a.eval o).run P w = r at *
        cases r with
        | ok nx w' =>
          cases nx with
          | value v => exact hK _ _ h
          | skip => exact hK _ _ h
          | defer d => exact hK _ _ h
          | enter f args =>
            refine ⟨fun hd => absurd hd (show ¬ Fence.wide.depth.isSome = true by decide), (callsIn_wide (n := n - 1)).2 (Calls.mono h ?_)⟩
            intro e w'' he
            cases e with
            | returned v => exact hK _ _ he
            | panicked c => exact he
            | outgrown => exact he
          | row r args => exact ⟨fun hd => absurd hd (show ¬ Fence.wide.depth.isSome = true by decide), fun c cs _ => let ⟨v, w2, r, s⟩ := h c cs; ⟨v, w2, hK _ _ r, stepsIn_wide.2 s⟩⟩
          | _ => exact h.elim
        | halt hl w' =>
          cases hl with
          | panic v => exact h
          | _ => exact h.elim
      · exact absurd h.2 hlo
    · rw [if_neg hw] at h ⊢
      exact ⟨fun _ _ => trivial, hK _ _ h⟩
theorem any_in {l n : Nat} {P : Program} {md : Region.Mode} {ops : Array Oper} {Q : Exit → Act → World → Prop} (hnd : plainOps ops = true) (hlo : ¬ LetsOut Q) : ∀ (fuel : Nat) (listed : Array Bool) (a : Act) (w : World), wpAny P md ops Q fuel listed a w → wpAnyIn (Fence.wide.inRound l) n P md ops Q fuel listed a w
  | 0, _, _, _, h => h
  | fuel + 1, _, _, _, h => ⟨h.1, fun i hi => op_in hnd hlo (fun a w => any_in hnd hlo fuel _ a w) (h.2 i hi)⟩
theorem region_round {l n id : Nat} {P : Program} {ops : Array Oper} {Q : Exit → Act → World → Prop} {a : Act} {w : World} (S : World → Prop) (hm : P.follows .mixedOrders = true) (hnd : plainOps ops = true) (hlo : ¬ LetsOut Q) (hS : S w.drew)
    (h : S w.drew → wpAnyH P .any ops Q S ops.size (Array.replicate ops.size false) a w.drew) : (Code.region id ops true).wpIn (Fence.wide.inRound l) n P Q a w :=
  wpIn_region_any hm (any_in hnd hlo _ _ _ _ (wpAny_of_held _ _ _ _ (h hS)))
end Go.Proofs.YtknlhejhnopnaaaGreatDoor
