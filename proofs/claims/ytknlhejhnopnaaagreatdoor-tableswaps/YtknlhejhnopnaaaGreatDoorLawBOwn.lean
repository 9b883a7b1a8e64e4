/- Both answer alike: each call on tables, in package table and in the document's answer. -/
import Derived.Test.YtknlhejhnopnaaaGreatDoorBestBToLawA
namespace Go.Proofs.YtknlhejhnopnaaaGreatDoor
open Go.RowKit Go.Shelf

/-- Both answer the same table and error. -/
def TwoT (w : World) (f g : FuncId) (args : Array Value) : Prop := ∃ (V : List Int) (L : List Fr) (k : Int), V.length ≤ 100000 ∧ L.length ≤ 100000 ∧
  (∀ W, Below w.heap.size w W → Calls Tryz.prog f args W fun e w' => TabA V L k e w' ∧ Below W.heap.size W w') ∧ ∀ W, Below w.heap.size w W → Calls Tryz.prog g args W fun e w' => TabA V L k e w' ∧ Below W.heap.size W w'
/-- A table that came in. -/
structure TIn (w : World) (b c : Option Addr) (cb : Nat) (vars : List Int) (l : List Fr) : Prop where
  ints : IntS w b vars
  cells : FrS w c l
  nil : b = none → cb = 0
  len : vars.length ≤ 4096
  small : fw l ≤ 8192
theorem TIn.below {w w' : World} {b c : Option Addr} {cb : Nat} {vars : List Int} {l : List Fr} (h : TIn w b c cb vars l) (hb : Below w.heap.size w w') : TIn w' b c cb vars l := ⟨h.ints.below hb, h.cells.below hb, h.nil, h.len, h.small⟩
theorem cnt_all {sizes vars : List Int} (h1 : Fine sizes) (h2 : Up vars sizes.length) : cnt (toN sizes) (toN vars) ≤ 65536 := cnt_small h1.sz_le (by rw [toN_length]; have := h1.eight; have := h2.length; omega)
theorem both_Prod {w : World} {a b c b' c' : Option Addr} {cb cb' : Nat} {sizes va vb : List Int} {la lb : List Fr} (ca cc cc' : Nat) (hs : IntS w a sizes) (hn : sizes.length ≤ 64) (hA : TIn w b c cb va la) (hB : TIn w b' c' cb' vb lb) :
    TwoT w 17 18 #[.slice a sizes.length ca, .agg #[.slice b va.length cb, .slice c la.length cc], .agg #[.slice b' vb.length cb', .slice c' lb.length cc']] := by
  have l1 := hA.len
  have l2 := hB.len
  have s1 := hA.small
  have s2 := hB.small
  by_cases ha : checkA sizes va la.length = 0
  · by_cases hb : checkA sizes vb lb.length = 0
    · obtain ⟨hfi, hua, -⟩ := checkA_parts ha
      obtain ⟨-, hub, -⟩ := checkA_parts hb
      have hu := togL_up hua hub
      exact ⟨_, _, 0, by have := hu.length; omega, by rw [prodL_length]; have := cnt_all hfi hu; omega, fun W h => tProd_yes a b c b' c' ca cb cc cb' cc' sizes va vb la lb W (hs.below h) (hA.ints.below h) (hB.ints.below h) (hA.cells.below h) (hB.cells.below h) (by omega) (by omega) (by omega) hA.nil hB.nil ha hb (by omega) (by omega), fun W h => rProd_yes a b c b' c' ca cb cc cb' cc' sizes va vb la lb W (hs.below h) (hA.ints.below h) (hB.ints.below h) (hA.cells.below h) (hB.cells.below h) (by omega) (by omega) (by omega) ha hb (by omega) (by omega)⟩
    · exact ⟨[], [], _, by simp, by simp, fun W h => tProd_no a b c b' c' ca cb cc cb' cc' la.length lb.length sizes va vb W (hs.below h) (hA.ints.below h) (hB.ints.below h) (by omega) (by omega) (by omega) _ (if_neg (fun h => h ha)) hb, fun W h => rProd_no a b c b' c' ca cb cc cb' cc' la.length lb.length sizes va vb W (hs.below h) (hA.ints.below h) (hB.ints.below h) (by omega) (by omega) (by omega) _ (if_neg (fun h => h ha)) hb⟩
  · exact ⟨[], [], _, by simp, by simp, fun W h => tProd_no a b c b' c' ca cb cc cb' cc' la.length lb.length sizes va vb W (hs.below h) (hA.ints.below h) (hB.ints.below h) (by omega) (by omega) (by omega) _ (if_pos ha) ha, fun W h => rProd_no a b c b' c' ca cb cc cb' cc' la.length lb.length sizes va vb W (hs.below h) (hA.ints.below h) (hB.ints.below h) (by omega) (by omega) (by omega) _ (if_pos ha) ha⟩
theorem both_Out {w : World} {a b c : Option Addr} {cb : Nat} {sizes va : List Int} {la : List Fr} (ca cc : Nat) (v : Int) (most : Bool) (hs : IntS w a sizes) (hn : sizes.length ≤ 64) (hA : TIn w b c cb va la) :
    TwoT w 20 21 #[.slice a sizes.length ca, .agg #[.slice b va.length cb, .slice c la.length cc], .int .i64 v, .bool most] := by
  have l1 := hA.len
  have s1 := hA.small
  by_cases ha : checkA sizes va la.length = 0
  · by_cases hc : va.contains v = true
    · obtain ⟨hfi, hua, -⟩ := checkA_parts ha
      have hr := (up_iff.1 hua).1 v (List.contains_iff_mem.1 hc)
      obtain ⟨n, rfl⟩ : ∃ n : Nat, v = n := ⟨v.toNat, by omega⟩
      have hn' : n < sizes.length := by omega
      have hu := lessN_up hua (n : Int)
      cases most with
      | false => exact ⟨_, _, 0, by have := hu.length; omega, by rw [outL_length]; have := cnt_all hfi hu; omega, fun W h => tOut_sums a b c ca cb cc sizes va la n W (hs.below h) (hA.ints.below h) (hA.cells.below h) (by omega) (by omega) ha s1 hc hn', fun W h => rOut_sums a b c ca cb cc sizes va la n W (hs.below h) (hA.ints.below h) (hA.cells.below h) (by omega) (by omega) ha s1 hc hn'⟩
      | true => exact ⟨_, _, 0, by have := hu.length; omega, by rw [outL_length]; have := cnt_all hfi hu; omega, fun W h => tOut_most a b c ca cb cc sizes va la n W (hs.below h) (hA.ints.below h) (hA.cells.below h) (by omega) (by omega) ha s1 hc hn', fun W h => rOut_most a b c ca cb cc sizes va la n W (hs.below h) (hA.ints.below h) (hA.cells.below h) (by omega) (by omega) ha s1 hc hn'⟩
    · have hc' : va.contains v = false := by simpa using hc
      exact ⟨[], [], 11, by simp, by simp, fun W h => tOut_var a b c ca cb cc la.length sizes va v most W (hs.below h) (hA.ints.below h) (by omega) (by omega) ha hc', fun W h => rOut_var a b c ca cb cc la.length sizes va v most W (hs.below h) (hA.ints.below h) (by omega) (by omega) ha hc'⟩
  · exact ⟨[], [], _, by simp, by simp, fun W h => tOut_no a b c ca cb cc la.length sizes va v most W (hs.below h) (hA.ints.below h) (by omega) (by omega) ha, fun W h => rOut_no a b c ca cb cc la.length sizes va v most W (hs.below h) (hA.ints.below h) (by omega) (by omega) ha⟩
theorem both_Fix {w : World} {a b c : Option Addr} {cb : Nat} {sizes va : List Int} {la : List Fr} (ca cc : Nat) (v x : Int) (hs : IntS w a sizes) (hn : sizes.length ≤ 64) (hA : TIn w b c cb va la) :
    TwoT w 22 23 #[.slice a sizes.length ca, .agg #[.slice b va.length cb, .slice c la.length cc], .int .i64 v, .int .i64 x] := by
  have l1 := hA.len
  have s1 := hA.small
  by_cases ha : checkA sizes va la.length = 0
  · by_cases hv : 0 ≤ v ∧ v < (sizes.length : Int)
    · obtain ⟨hfi, hua, -⟩ := checkA_parts ha
      obtain ⟨n, rfl⟩ : ∃ n : Nat, v = n := ⟨v.toNat, by omega⟩
      have hn' : n < sizes.length := by omega
      by_cases hx : 0 ≤ x ∧ x < (sz (toN sizes) n : Int)
      · obtain ⟨y, rfl⟩ : ∃ y : Nat, x = y := ⟨x.toNat, by omega⟩
        have hu := lessN_up hua (n : Int)
        exact ⟨_, _, 0, by have := hu.length; omega, by rw [fixL_length]; have := cnt_all hfi hu; omega, fun W h => tFix_yes a b c ca cb cc sizes va la n y W (hs.below h) (hA.ints.below h) (hA.cells.below h) (by omega) (by omega) ha (by omega) hn' (by omega), fun W h => rFix_yes a b c ca cb cc sizes va la n y W (hs.below h) (hA.ints.below h) (hA.cells.below h) (by omega) (by omega) ha (by omega) hn' (by omega)⟩
      · exact ⟨[], [], 12, by simp, by simp, fun W h => tFix_val a b c ca cb cc la.length sizes va n x W (hs.below h) (hA.ints.below h) (by omega) (by omega) ha hn' hx, fun W h => rFix_val a b c ca cb cc la.length sizes va n x W (hs.below h) (hA.ints.below h) (by omega) (by omega) ha hn' hx⟩
    · exact ⟨[], [], 11, by simp, by simp, fun W h => tFix_var a b c ca cb cc la.length sizes va v x W (hs.below h) (hA.ints.below h) (by omega) (by omega) ha hv, fun W h => rFix_var a b c ca cb cc la.length sizes va v x W (hs.below h) (hA.ints.below h) (by omega) (by omega) ha hv⟩
  · exact ⟨[], [], _, by simp, by simp, fun W h => tFix_no a b c ca cb cc la.length sizes va v x W (hs.below h) (hA.ints.below h) (by omega) (by omega) ha, fun W h => rFix_no a b c ca cb cc la.length sizes va v x W (hs.below h) (hA.ints.below h) (by omega) (by omega) ha⟩
theorem both_Norm {w : World} {a b c : Option Addr} {cb : Nat} {sizes va : List Int} {la : List Fr} (ca cc : Nat) (hs : IntS w a sizes) (hn : sizes.length ≤ 64) (hA : TIn w b c cb va la) :
    TwoT w 24 25 #[.slice a sizes.length ca, .agg #[.slice b va.length cb, .slice c la.length cc]] := by
  have l1 := hA.len
  have s1 := hA.small
  by_cases ha : checkA sizes va la.length = 0
  · by_cases hz : fsum la = 0
    · exact ⟨[], [], 3, by simp, by simp, fun W h => tNorm_z a b c ca cb cc sizes va la W (hs.below h) (hA.ints.below h) (hA.cells.below h) (by omega) (by omega) ha (by omega) hz, fun W h => rNorm_z a b c ca cb cc sizes va la W (hs.below h) (hA.ints.below h) (hA.cells.below h) hA.nil (by omega) (by omega) ha (by omega) hz⟩
    · exact ⟨va, _, 0, by omega, by rw [normL_length]; have := fw_sw la; omega, fun W h => tNorm_q a b c ca cb cc sizes va la W (hs.below h) (hA.ints.below h) (hA.cells.below h) (by omega) (by omega) ha (by omega) hz, fun W h => rNorm_q a b c ca cb cc sizes va la W (hs.below h) (hA.ints.below h) (hA.cells.below h) hA.nil (by omega) (by omega) ha (by omega) hz⟩
  · exact ⟨[], [], _, by simp, by simp, fun W h => tNorm_no a b c ca cb cc la.length sizes va W (hs.below h) (hA.ints.below h) (by omega) (by omega) ha, fun W h => rNorm_no a b c ca cb cc la.length sizes va W (hs.below h) (hA.ints.below h) (by omega) (by omega) ha⟩
/-- Best's answers are the same list, number and error. -/
def TwoB (w : World) (args : Array Value) : Prop := ∃ (V : List Int) (n : Bool) (x y : ByteArray) (k : Int), V.length ≤ 100000 ∧
  (∀ W, Below w.heap.size w W → Calls Tryz.prog 26 args W fun e w' => ∃ (d : Option Addr) (cd : Nat), e = .returned (.tuple #[.slice d V.length cd, .agg #[.bool n, .string x, .string y], .int .i64 k]) ∧ IntS w' d V ∧ Below W.heap.size W w') ∧
  (∀ W, Below w.heap.size w W → Calls Tryz.prog 27 args W fun e w' => ∃ (d : Option Addr) (cd : Nat), e = .returned (.tuple #[.slice d V.length cd, .agg #[.bool n, .string x, .string y], .int .i64 k]) ∧ IntS w' d V ∧ Below W.heap.size W w') ∧
  ∀ W : World, Calls Tryz.prog 28 #[.agg #[.bool n, .string x, .string y], .int .i64 k, .agg #[.bool n, .string x, .string y], .int .i64 k] W fun e w' => e = .returned (.bool true) ∧ Below W.heap.size W w'
theorem both_Best {w : World} {a b c : Option Addr} {cb : Nat} {sizes va : List Int} {la : List Fr} (ca cc : Nat) (hs : IntS w a sizes) (hn : sizes.length ≤ 64) (hA : TIn w b c cb va la) :
    TwoB w #[.slice a sizes.length ca, .agg #[.slice b va.length cb, .slice c la.length cc]] := by
  have l1 := hA.len
  have s1 := hA.small
  by_cases ha : checkA sizes va la.length = 0
  · refine ⟨iL (digs (toN sizes) (toN va) (bestN la (la.length - 1))), (qF (frQ (celF la (bestN la (la.length - 1))))).1, (qF (frQ (celF la (bestN la (la.length - 1))))).2.1, (qF (frQ (celF la (bestN la (la.length - 1))))).2.2, 0, by rw [iL_length, digs_length, toN_length]; omega, fun W h => ?_, fun W h => ?_, fun W => oneFrac_ok _ _ _ W⟩
    · rw [iL_length]
      exact tBest_yes a b c ca cb cc sizes va la W (hs.below h) (hA.ints.below h) (hA.cells.below h) (by omega) (by omega) ha (by omega)
    · rw [iL_length]
      exact rBest_yes a b c ca cb cc sizes va la W (hs.below h) (hA.ints.below h) (hA.cells.below h) (by omega) (by omega) ha (by omega)
  · refine ⟨[], false, ⟨#[]⟩, ⟨#[]⟩, _, by simp, fun W h => ?_, fun W h => ?_, fun W => oneFrac_err _ ha W⟩
    · refine (tBest_no a b c ca cb cc la.length sizes va W (hs.below h) (hA.ints.below h) (by omega) (by omega) ha).mono ?_
      rintro e w' ⟨rfl, hb⟩
      exact ⟨none, 0, rfl, fun k hk => absurd hk (by simp), hb⟩
    · refine (rBest_no a b c ca cb cc la.length sizes va W (hs.below h) (hA.ints.below h) (by omega) (by omega) ha).mono ?_
      rintro e w' ⟨rfl, hb⟩
      exact ⟨none, 0, rfl, fun k hk => absurd hk (by simp), hb⟩
theorem FrS.farT {V : World} {c : Option Addr} {l : List Fr} {g : Nat} {x y : Value} (h : FrS V c l) (hb : TBox V g x y) (hx : SlV x) (hy : SlV y) (j : Nat) (u : Value) : FrS (V.setCell ⟨g, j, none⟩ u) c l := fun k hk => by
  obtain ⟨g', o, rfl, hlt, h0, h1, h2⟩ := h k hk
  obtain ⟨a1, n1, c1, rfl⟩ := hx
  obtain ⟨a2, n2, c2, rfl⟩ := hy
  have hne : ¬ g' = g := fun e => by
    subst e
    rw [cell_of_row V g' _ _ _ (0, 0) hb] at h0
    match hm : o + k * 3 with
    | 0 => rw [hm] at h0; simp at h0
    | 1 => rw [hm] at h0; simp at h0
    | m + 2 => rw [hm] at h0; simp at h0
  have far : ∀ i, (V.setCell ⟨g, j, none⟩ u).cell? ⟨g', i, none⟩ = V.cell? ⟨g', i, none⟩ := fun i => World.cell?_setCell_other _ _ _ _ (fun e => hne (congrArg Addr.block e).symm)
  exact ⟨g', o, rfl, Nat.lt_of_lt_of_le hlt (KeepsOthers.setCell V _ _).size, (far _).trans h0, (far _).trans h1, (far _).trans h2⟩
theorem FrS.putT {V : World} {c : Option Addr} {l : List Fr} {g : Nat} {x y : Value} (h : FrS V c l) (hb : TBox V g x y) (hx : SlV x) (hy : SlV y) {x' : Value} (hx' : SlV x') (y' : Value) : FrS ((V.setCell ⟨g, 0, none⟩ x').setCell ⟨g, 1, none⟩ y') c l := by
  have h1 : TBox (V.setCell ⟨g, 0, none⟩ x') g x' y := heap_setCell_same V g 0 _ _ x' hb
  exact (h.farT hb hx hy 0 _).farT h1 hx' hy 1 _
end Go.Proofs.YtknlhejhnopnaaaGreatDoor
