/- Nets: what is wrong with rows; the document's answer: NetCheck, as far as the names. -/
import Derived.Test.YtnnfmfdjgdgdhaaGreatDoorConFToRtD
import Derived.Test.YtnnfmfdjgdgdhaaGreatDoorRefRToTabR3
namespace Go.Proofs.YtnnfmfdjgdgdhaaGreatDoor
open Go.RowKit Go.Shelf

/-- Lists of fractions in memory. -/
def FsS (w : World) (a : Option Addr) (R : List (List Fr)) : Prop := ∀ k (h : k < R.length), ∃ g o b c, a = some ⟨g, o, none⟩ ∧ g < w.heap.size ∧ w.cell? ⟨g, o + k, none⟩ = some (.slice b R[k].length c) ∧ FrS w b R[k] ∧ R[k].length ≤ c
theorem FsS.below {w w' : World} {a : Option Addr} {R : List (List Fr)} (h : FsS w a R) (hb : Below w.heap.size w w') : FsS w' a R := fun k hk => by
  obtain ⟨g, o, b, c, h1, h2, h3, h4, h5⟩ := h k hk
  exact ⟨g, o, b, c, h1, Nat.lt_of_lt_of_le h2 hb.size, (hb.cell (p := ⟨g, o + k, none⟩) h2).trans h3, h4.below hb, h5⟩
/-- The i-th so many. -/
def chunkF (l : List Fr) (k i : Nat) : List Fr := (l.drop (i * k)).take k
/-- What is wrong with a variable's rows. -/
def rowE (S : List Nat) (L : List (List Int)) (R : List (List Fr)) (v : Nat) : Int :=
  if (R.getD v []).length = cnt S (toN (L.getD v [])) * sz S v then (if ((List.range (cnt S (toN (L.getD v [])))).all fun i => rowB (chunkF (R.getD v []) (sz S v) i)) = true then 0 else 9) else 8
/-- What is wrong with a net. -/
def netE (V : List Vr) (L : List (List Int)) (R : List (List Fr)) : Int :=
  if L.length = V.length ∧ R.length = V.length then (if gcE L = 0 then (if varsE V = 0 then firstE (rowE (sizesN V) L R) V.length else varsE V) else gcE L) else 8
theorem FrS.chunk {w : World} {g o : Nat} {l : List Fr} {k i m : Nat} (h : FrS w (some ⟨g, o, none⟩) l) (hm : (i + 1) * k ≤ l.length) (hk : m = k) : FrS w (some ⟨g, o + i * k * 3, none⟩) (chunkF l k i) ∧ (chunkF l k i).length = m := by
  have hlen : (chunkF l k i).length = k := by
    rw [chunkF, List.length_take, List.length_drop]
    have : (i + 1) * k = i * k + k := by rw [Nat.add_mul, Nat.one_mul]
    omega
  refine ⟨fun j hj => ?_, by rw [hlen, hk]⟩
  have e : (i + 1) * k = i * k + k := by rw [Nat.add_mul, Nat.one_mul]
  rw [hlen] at hj
  obtain ⟨g', o', h1, h2, h3, h4, h5⟩ := h (i * k + j) (by omega)
  cases h1
  have ej : (chunkF l k i)[j]'(by rw [hlen]; exact hj) = l[i * k + j]'(by omega) := by
    simp only [chunkF, List.getElem_take, List.getElem_drop]
  refine ⟨g, o + i * k * 3, rfl, h2, ?_, ?_, ?_⟩
  · rw [ej, show o + i * k * 3 + j * 3 = o + (i * k + j) * 3 by rw [Nat.add_mul]; omega]; exact h3
  · rw [ej, show o + i * k * 3 + j * 3 = o + (i * k + j) * 3 by rw [Nat.add_mul]; omega]; exact h4
  · rw [ej, show o + i * k * 3 + j * 3 = o + (i * k + j) * 3 by rw [Nat.add_mul]; omega]; exact h5
theorem fw_chunk (l : List Fr) (k i : Nat) : fw (chunkF l k i) ≤ fw l := by
  have h1 := fw_take (l.drop (i * k)) k
  have h2 := fw_append (l.take (i * k)) (l.drop (i * k))
  rw [List.take_append_drop] at h2
  rw [chunkF]
  omega
end Go.Proofs.YtnnfmfdjgdgdhaaGreatDoor


/- Rows that may be, in packages chain and hidden; the small questions that package hidden asks. -/
namespace Go.Proofs.YtnnfmfdjgdgdhaaGreatDoor
open Go.RowKit Go.Shelf

theorem rowB_eq (l : List Fr) : (!(l.any fun f => decide (frQ f < 0)) && decide (fsum l = 1)) = rowB l := by
  have h : ∀ l : List Fr, (!(l.any fun f => decide (frQ f < 0))) = l.all fun f => decide (¬ frQ f < 0) := fun l => by
    induction l with
    | nil => rfl
    | cons f l ih => rw [List.any_cons, List.all_cons, Bool.not_or, ih, decide_not]
  rw [rowB, h]

set_option maxRecDepth 100000 in
set_option maxHeartbeats 400000 in
theorem chBelow_any (n zn : Bool) (x y zx zy : ByteArray) (B : Nat) (w : World) (hx : Box w B zn zx zy) (hz : val zn zx zy = 0) (hzs : zx.size + zy.size ≤ 100000) (hs : x.size + y.size ≤ 10000) :
    Calls Tryz.prog 102 #[.agg #[.bool n, .string x, .string y], .pointer (some ⟨B, 0, none⟩)] w fun e w' => e = .returned (.bool (decide (val n x y < 0))) ∧ Below w.heap.size w w' := by
  have HD : Hid (decide (cmpQ (val n x y) 0 < 0) = decide (val n x y < 0)) := by show _ = _; rw [decide_eq_decide]; exact cmp_below
  generalize decide (val n x y < 0) = R at *
  have hA := (Below.refl w.heap.size w).alloc (Nat.le_refl _) (FC n x y)
  obtain ⟨k0, k1, k2, -⟩ := (Box.new w n x y).facts
  obtain ⟨z0, z1, z2, -⟩ := (hx.below hA hx.lt).facts
  go_enter Tryz.func102, Tryz.ntmps102
  go_wp2_with fail
  generalize (w.alloc (FC n x y)) = W at *
  refine (fCmp_q (w := W) (cmpQ (val n x y) 0) rfl hz rfl (by omega) hzs).mono ?_
  rintro e w2 ⟨rfl, hb2⟩
  have HB := hid (hA.trans (hb2.mono hA.size))
  clear hA hb2 k0 k1 k2 z0 z1 z2
  generalize cmpQ (val n x y) 0 = c at *
  go_wp2
  go_ret
  exact ⟨by rw [← HD.out]; rfl, HB.out⟩

set_option maxRecDepth 100000 in
set_option maxHeartbeats 1000000 in
theorem chRow_any (a : Option Addr) (ca : Nat) (l : List Fr) (w : World) (h : FrS w a l) (hw : fw l ≤ 10000) (hn : l.length ≤ 10000) :
    Calls Tryz.prog 89 #[.slice a l.length ca] w fun e w' => e = .returned (.bool (rowB l)) ∧ Below w.heap.size w w' := by
  have HF := hid h
  have HS := hid (fun (V : World) (hV : FrS V a l) => fSum_any a ca l V hV hw hn)
  have HO0 := hid (fun V : World => fOf_q (k := 0) (w := V) 0 0 rfl (by decide) (by rfl))
  have HO1 := hid (fun V : World => fOf_q (k := 1) (w := V) 1 1 rfl (by decide) (by rfl))
  have HQ : Hid (val (sgn (fsum l)) (nu (fsum l)) (de (fsum l)) = fsum l ∧ (nu (fsum l)).size + (de (fsum l)).size ≤ 100000) := ⟨val_own _, by
    have h1 := fits_qw (fits_sum l)
    rw [own_size]
    omega⟩
  have H1 : Hid (val (sgn 1) (nu 1) (de 1) = 1 ∧ (nu 1).size + (de 1).size ≤ 100000) := ⟨val_own _, by
    have h1 : qw 1 ≤ 2 := qw_one2
    rw [own_size]
    omega⟩
  have HC := hid (fun (B : Nat) (V : World) (hV : FrS V a l) (hx : Box V B (sgn 0) (nu 0) (de 0)) => conFr_any a ca 102 #[.pointer (some ⟨B, 0, none⟩)] l (fun f => decide (frQ f < 0)) V hV hn (enters_of Tryz.func102 (by kernel_rfl) rfl) (fun q hq U hU => chBelow_any q.1 (sgn 0) q.2.1 q.2.2 (nu 0) (de 0) B U (hx.below hU hx.lt) (val_own _) (by have := qw_zero; rw [own_size]; omega) (by have := fw_mem hq; omega)))
  have HR := hid (rowB_eq l)
  have HCS := hid (cmp_same (p := fsum l))
  generalize rowB l = rb at *
  generalize (l.any fun f => decide (frQ f < 0)) = an at *
  clear h hw
  simp only [C] at HS
  generalize sgn 0 = zn at *
  generalize nu 0 = zx at *
  generalize de 0 = zy at *
  go_enter Tryz.func89, Tryz.ntmps89
  go_wp2_with fail
  refine (HO0.out _).mono ?_
  rintro e w0 ⟨rfl, hb0⟩
  have HB0 := hid (hb0.alloc hb0.size (FC zn zx zy))
  have HX := hid (Box.new w0 zn zx zy)
  clear hb0
  go_wp2_with fail
  generalize (w0.alloc (FC zn zx zy)) = wa at *
  generalize w0.heap.size = B at *
  refine (HC.out B _ (HF.out.below HB0.out) HX.out).mono ?_
  rintro e w1 ⟨rfl, hb1⟩
  have HB1 := hid (HB0.out.trans (hb1.mono HB0.out.size))
  clear hb1
  cases an with
  | true =>
    go_wp2
    go_ret
    exact ⟨by rw [← HR.out]; rfl, HB1.out⟩
  | false =>
    go_wp2_with fail
    refine (HS.out _ (HF.out.below HB1.out)).mono ?_
    rintro e w5 ⟨rfl, hb5⟩
    have HB5 := hid (HB1.out.trans (hb5.mono HB1.out.size))
    clear hb5
    go_wp2_with fail
    refine (HO1.out _).mono ?_
    rintro e w6 ⟨rfl, hb6⟩
    have HB6 := hid (HB5.out.trans (hb6.mono HB5.out.size))
    clear hb6
    go_wp2_with fail
    refine (fCmp_q (w := w6) (cmpQ (fsum l) 1) HQ.out.1 H1.out.1 rfl HQ.out.2 H1.out.2).mono ?_
    rintro e w7 ⟨rfl, hb7⟩
    have HB7 := hid (HB6.out.trans (hb7.mono HB6.out.size))
    clear hb7
    generalize cmpQ (fsum l) 1 = c at *
    go_wp2
    go_ret
    exact ⟨by rw [← HR.out, ← HCS.out]; rfl, HB7.out⟩

set_option maxRecDepth 100000 in
set_option maxHeartbeats 400000 in
theorem hiBelow_any (n zn : Bool) (x y zx zy : ByteArray) (B : Nat) (w : World) (hx : Box w B zn zx zy) (hz : val zn zx zy = 0) (hzs : zx.size + zy.size ≤ 100000) (hs : x.size + y.size ≤ 10000) :
    Calls Tryz.prog 78 #[.agg #[.bool n, .string x, .string y], .pointer (some ⟨B, 0, none⟩)] w fun e w' => e = .returned (.bool (decide (val n x y < 0))) ∧ Below w.heap.size w w' := by
  have HD : Hid (decide (cmpQ (val n x y) 0 < 0) = decide (val n x y < 0)) := by show _ = _; rw [decide_eq_decide]; exact cmp_below
  generalize decide (val n x y < 0) = R at *
  have hA := (Below.refl w.heap.size w).alloc (Nat.le_refl _) (FC n x y)
  obtain ⟨k0, k1, k2, -⟩ := (Box.new w n x y).facts
  obtain ⟨z0, z1, z2, -⟩ := (hx.below hA hx.lt).facts
  go_enter Tryz.func78, Tryz.ntmps78
  go_wp2_with fail
  generalize (w.alloc (FC n x y)) = W at *
  refine (fCmp_q (w := W) (cmpQ (val n x y) 0) rfl hz rfl (by omega) hzs).mono ?_
  rintro e w2 ⟨rfl, hb2⟩
  have HB := hid (hA.trans (hb2.mono hA.size))
  clear hA hb2 k0 k1 k2 z0 z1 z2
  generalize cmpQ (val n x y) 0 = c at *
  go_wp2
  go_ret
  exact ⟨by rw [← HD.out]; rfl, HB.out⟩

set_option maxRecDepth 100000 in
set_option maxHeartbeats 1000000 in
theorem hiRow_any (a : Option Addr) (ca : Nat) (l : List Fr) (w : World) (h : FrS w a l) (hw : fw l ≤ 10000) (hn : l.length ≤ 10000) :
    Calls Tryz.prog 61 #[.slice a l.length ca] w fun e w' => e = .returned (.bool (rowB l)) ∧ Below w.heap.size w w' := by
  have HF := hid h
  have HS := hid (fun (V : World) (hV : FrS V a l) => fSum_any a ca l V hV hw hn)
  have HO0 := hid (fun V : World => fOf_q (k := 0) (w := V) 0 0 rfl (by decide) (by rfl))
  have HO1 := hid (fun V : World => fOf_q (k := 1) (w := V) 1 1 rfl (by decide) (by rfl))
  have HQ : Hid (val (sgn (fsum l)) (nu (fsum l)) (de (fsum l)) = fsum l ∧ (nu (fsum l)).size + (de (fsum l)).size ≤ 100000) := ⟨val_own _, by
    have h1 := fits_qw (fits_sum l)
    rw [own_size]
    omega⟩
  have H1 : Hid (val (sgn 1) (nu 1) (de 1) = 1 ∧ (nu 1).size + (de 1).size ≤ 100000) := ⟨val_own _, by
    have h1 : qw 1 ≤ 2 := qw_one2
    rw [own_size]
    omega⟩
  have HC := hid (fun (B : Nat) (V : World) (hV : FrS V a l) (hx : Box V B (sgn 0) (nu 0) (de 0)) => conFr_any a ca 78 #[.pointer (some ⟨B, 0, none⟩)] l (fun f => decide (frQ f < 0)) V hV hn (enters_of Tryz.func78 (by kernel_rfl) rfl) (fun q hq U hU => hiBelow_any q.1 (sgn 0) q.2.1 q.2.2 (nu 0) (de 0) B U (hx.below hU hx.lt) (val_own _) (by have := qw_zero; rw [own_size]; omega) (by have := fw_mem hq; omega)))
  have HR := hid (rowB_eq l)
  have HCS := hid (cmp_same (p := fsum l))
  generalize rowB l = rb at *
  generalize (l.any fun f => decide (frQ f < 0)) = an at *
  clear h hw
  simp only [C] at HS
  generalize sgn 0 = zn at *
  generalize nu 0 = zx at *
  generalize de 0 = zy at *
  go_enter Tryz.func61, Tryz.ntmps61
  go_wp2_with fail
  refine (HO0.out _).mono ?_
  rintro e w0 ⟨rfl, hb0⟩
  have HB0 := hid (hb0.alloc hb0.size (FC zn zx zy))
  have HX := hid (Box.new w0 zn zx zy)
  clear hb0
  go_wp2_with fail
  generalize (w0.alloc (FC zn zx zy)) = wa at *
  generalize w0.heap.size = B at *
  refine (HC.out B _ (HF.out.below HB0.out) HX.out).mono ?_
  rintro e w1 ⟨rfl, hb1⟩
  have HB1 := hid (HB0.out.trans (hb1.mono HB0.out.size))
  clear hb1
  cases an with
  | true =>
    go_wp2
    go_ret
    exact ⟨by rw [← HR.out]; rfl, HB1.out⟩
  | false =>
    go_wp2_with fail
    refine (HS.out _ (HF.out.below HB1.out)).mono ?_
    rintro e w5 ⟨rfl, hb5⟩
    have HB5 := hid (HB1.out.trans (hb5.mono HB1.out.size))
    clear hb5
    go_wp2_with fail
    refine (HO1.out _).mono ?_
    rintro e w6 ⟨rfl, hb6⟩
    have HB6 := hid (HB5.out.trans (hb6.mono HB5.out.size))
    clear hb6
    go_wp2_with fail
    refine (fCmp_q (w := w6) (cmpQ (fsum l) 1) HQ.out.1 H1.out.1 rfl HQ.out.2 H1.out.2).mono ?_
    rintro e w7 ⟨rfl, hb7⟩
    have HB7 := hid (HB6.out.trans (hb7.mono HB6.out.size))
    clear hb7
    generalize cmpQ (fsum l) 1 = c at *
    go_wp2
    go_ret
    exact ⟨by rw [← HR.out, ← HCS.out]; rfl, HB7.out⟩

set_option maxRecDepth 100000 in
set_option maxHeartbeats 400000 in
theorem isMat1_any (b : Option Addr) (n c m B : Nat) (w : World) (hc : w.cell? ⟨B, 0, none⟩ = some (.int .i64 (m : Nat))) (hn : n = m) (hm : m ≤ 100000) :
    Calls Tryz.prog 76 #[.slice b n c, .pointer (some ⟨B, 0, none⟩)] w fun e w' => e = .returned (.bool false) ∧ w' = w := by
  subst hn
  go_enter Tryz.func76, Tryz.ntmps76
  go_wp2
  go_ret
  exact ⟨by simp, rfl⟩

set_option maxRecDepth 100000 in
set_option maxHeartbeats 400000 in
theorem idxRows_no (a : Option Addr) (ca m B : Nat) (R : List (List Fr)) (w : World) (h : FsS w a R) (hB : B < w.heap.size) (hc : w.cell? ⟨B, 0, none⟩ = some (.int .i64 (m : Nat))) (hm : m ≤ 100000) (hl : ∀ k (h : k < R.length), R[k].length = m) (hn : R.length ≤ 1000) :
    Calls Tryz.prog 93 #[.slice a R.length ca, .func (.func 76) #[] #[.pointer (some ⟨B, 0, none⟩)]] w fun e w' => e = .returned (.int .i64 (-1)) ∧ w' = w := by
  have HF := hid h
  have HL := hid hl
  have eF := enters_of Tryz.func76 (P := Tryz.prog) (by kernel_rfl) rfl
  have HC := hid (fun (b : Option Addr) (n c : Nat) (hn : n = m) => isMat1_any b n c m B w hc hn hm)
  clear h hl
  go_enter Tryz.func93, Tryz.ntmps93
  go_wp2_with fail
  go_loopw [8] (fun iv wr => ∃ i : Nat, i ≤ R.length ∧ iv = .int .i64 i ∧ w = wr) (fun iv _ => R.length - (intOf iv).toNat)
  case atStart => exact ⟨0, Nat.zero_le _, rfl, rfl⟩
  case round =>
    obtain ⟨i, hi, rfl, rfl⟩ := hrel
    by_cases hlt : i < R.length
    · obtain ⟨g, o, b, c, rfl, hg, h0, hfr, hcl⟩ := HF.out i hlt
      have HCi := hid (HC.out b R[i].length c (HL.out i hlt))
      clear hfr hcl
      generalize R[i].length = n at *
      go_wp2_with fail
      refine HCi.out.mono ?_
      rintro e w2 ⟨rfl, rfl⟩
      go_wp2
      go_roundw
      case rel => exact ⟨i + 1, by omega, by go_num, trivial⟩
      case measure => simp [intOf]; omega
    · obtain rfl : i = R.length := by omega
      go_wp2
      go_ret
      exact ⟨rfl, rfl⟩

set_option maxRecDepth 100000 in
set_option maxHeartbeats 400000 in
theorem isMatrix_yes (a : Option Addr) (ca n m : Nat) (R : List (List Fr)) (w : World) (h : FsS w a R) (hn : R.length = n) (hn1 : R.length ≤ 1000) (hm : m ≤ 100000) (hl : ∀ k (h : k < R.length), R[k].length = m) :
    Calls Tryz.prog 59 #[.slice a R.length ca, .int .i64 (n : Nat), .int .i64 (m : Nat)] w fun e w' => e = .returned (.bool true) ∧ Below w.heap.size w w' := by
  subst hn
  have hA := (Below.refl w.heap.size w).alloc (Nat.le_refl _) (.cells #[.int .i64 (m : Nat)] 3)
  have hx := Boxed.new w 3 (.int .i64 (m : Nat))
  have HI := hid (idxRows_no a ca m w.heap.size R _ (h.below hA) hx.lt hx.cell hm hl hn1)
  have HCO : Hid (Calls Tryz.prog 75 #[.slice a R.length ca, .func (.func 76) #[] #[.pointer (some ⟨w.heap.size, 0, none⟩)]] (w.alloc (.cells #[.int .i64 (m : Nat)] 3)) fun e w' => e = .returned (.bool false) ∧ w' = (w.alloc (.cells #[.int .i64 (m : Nat)] 3))) := by
    show Calls _ _ _ _ _
    go_enter Tryz.func75, Tryz.ntmps75
    go_wp2_with fail
    refine HI.out.mono ?_
    rintro e w2 ⟨rfl, rfl⟩
    go_wp2
    go_ret
    exact ⟨rfl, rfl⟩
  have HA := hid hA
  clear h hA hx hl HI
  go_enter Tryz.func59, Tryz.ntmps59
  go_wp2_with fail
  refine HCO.out.mono ?_
  rintro e w2 ⟨rfl, rfl⟩
  go_wp2
  go_ret
  exact ⟨by simp, HA.out⟩

set_option maxRecDepth 100000 in
set_option maxHeartbeats 400000 in
theorem isCount_yes (n : Nat) (w : World) (h1 : 1 ≤ n) (h2 : n ≤ 4) :
    Calls Tryz.prog 58 #[.int .i64 (n : Nat)] w fun e w' => e = .returned (.bool true) ∧ w' = w := by
  go_enter Tryz.func58, Tryz.ntmps58
  go_wp2
  go_ret
  exact ⟨by simp; omega, rfl⟩
end Go.Proofs.YtnnfmfdjgdgdhaaGreatDoor


/- Hidden chains, plainly: forward and backward meet; no way is likelier than the path that is found step by step. -/
namespace Go.Proofs.YtnnfmfdjgdgdhaaGreatDoor
/-- The sum of so many. -/
def sumR (f : Nat → Rat) : Nat → Rat
  | 0 => 0
  | n + 1 => sumR f n + f n
theorem sumR_congr {f g : Nat → Rat} : ∀ {n : Nat}, (∀ i, i < n → f i = g i) → sumR f n = sumR g n
  | 0, _ => rfl
  | n + 1, h => by rw [sumR, sumR, sumR_congr fun i hi => h i (by omega), h n (by omega)]
theorem sumR_add (f g : Nat → Rat) : ∀ n, sumR (fun i => f i + g i) n = sumR f n + sumR g n
  | 0 => by rw [sumR, sumR, sumR, Rat.add_zero]
  | n + 1 => by
    rw [sumR, sumR, sumR, sumR_add f g n, Rat.add_assoc, Rat.add_assoc, ← Rat.add_assoc (sumR g n), Rat.add_comm (sumR g n), Rat.add_assoc]
theorem sumR_mul (c : Rat) (f : Nat → Rat) : ∀ n, sumR (fun i => c * f i) n = c * sumR f n
  | 0 => by rw [sumR, sumR, Rat.mul_zero]
  | n + 1 => by rw [sumR, sumR, sumR_mul c f n, Rat.mul_add]
theorem sumR_mulR (c : Rat) (f : Nat → Rat) (n : Nat) : sumR (fun i => f i * c) n = sumR f n * c := by
  rw [Rat.mul_comm, ← sumR_mul]
  exact sumR_congr fun i _ => Rat.mul_comm _ _
theorem sumR_none : ∀ n, sumR (fun _ => 0) n = 0
  | 0 => rfl
  | n + 1 => by rw [sumR, sumR_none n, Rat.add_zero]
theorem sumR_swap (f : Nat → Nat → Rat) (m : Nat) : ∀ n, sumR (fun i => sumR (fun j => f i j) m) n = sumR (fun j => sumR (fun i => f i j) n) m
  | 0 => by rw [sumR]; exact (sumR_none m).symm
  | n + 1 => by
    rw [sumR, sumR_swap f m n, ← sumR_add]
    rfl
theorem sumR_low {f : Nat → Rat} : ∀ {n : Nat}, (∀ i, i < n → 0 ≤ f i) → 0 ≤ sumR f n
  | 0, _ => Rat.le_refl
  | n + 1, h => Rat.add_nonneg (sumR_low fun i hi => h i (by omega)) (h n (by omega))
theorem sumR_part {f : Nat → Rat} : ∀ {n : Nat}, (∀ i, i < n → 0 ≤ f i) → ∀ i, i < n → f i ≤ sumR f n
  | 0, _, i, hi => absurd hi (by omega)
  | n + 1, h, i, hi => by
    rw [sumR]
    have h0 := sumR_low (n := n) fun i hi => h i (by omega)
    have hn := h n (by omega)
    rcases Nat.lt_or_ge i n with h1 | h1
    · have h2 := sumR_part (n := n) (fun i hi => h i (by omega)) i h1
      have h3 := (Rat.add_le_add_left (c := sumR f n)).2 hn
      rw [Rat.add_zero] at h3
      exact Rat.le_trans h2 h3
    · obtain rfl : i = n := by omega
      have h3 := (Rat.add_le_add_right (c := f i)).2 h0
      rwa [Rat.zero_add] at h3
theorem sumR_mono {f g : Nat → Rat} : ∀ {n : Nat}, (∀ i, i < n → f i ≤ g i) → sumR f n ≤ sumR g n
  | 0, _ => Rat.le_refl
  | n + 1, h => by
    rw [sumR, sumR]
    exact Rat.le_trans ((Rat.add_le_add_right (c := f n)).2 (sumR_mono fun i hi => h i (by omega))) ((Rat.add_le_add_left (c := sumR g n)).2 (h n (by omega)))
theorem sumR_zero {f : Nat → Rat} {n : Nat} (h : ∀ i, i < n → f i = 0) : sumR f n = 0 := by
  rw [sumR_congr h]
  exact sumR_none n
/-- The first greatest of so many and one. -/
def bstR (f : Nat → Rat) : Nat → Nat
  | 0 => 0
  | k + 1 => if f (bstR f k) < f (k + 1) then k + 1 else bstR f k
theorem bstR_le (f : Nat → Rat) : ∀ k, bstR f k ≤ k
  | 0 => Nat.le_refl _
  | k + 1 => by
    rw [bstR]
    by_cases h : f (bstR f k) < f (k + 1)
    · rw [if_pos h]; exact Nat.le_refl _
    · rw [if_neg h]; have := bstR_le f k; omega
theorem bstR_most (f : Nat → Rat) : ∀ k j, j ≤ k → f j ≤ f (bstR f k)
  | 0, j, h => by obtain rfl : j = 0 := by omega
                  exact Rat.le_refl
  | k + 1, j, h => by
    rw [bstR]
    by_cases h1 : f (bstR f k) < f (k + 1)
    · rw [if_pos h1]
      rcases Nat.lt_or_ge j (k + 1) with h2 | h2
      · exact Rat.le_trans (bstR_most f k j (by omega)) (Rat.le_of_lt h1)
      · obtain rfl : j = k + 1 := by omega
        exact Rat.le_refl
    · rw [if_neg h1]
      rcases Nat.lt_or_ge j (k + 1) with h2 | h2
      · exact bstR_most f k j (by omega)
      · obtain rfl : j = k + 1 := by omega
        exact Rat.not_lt.1 h1
theorem bstR_congr {f g : Nat → Rat} : ∀ {k : Nat}, (∀ j, j ≤ k → f j = g j) → bstR f k = bstR g k
  | 0, _ => rfl
  | k + 1, h => by
    have ih := bstR_congr (f := f) (g := g) (k := k) fun j hj => h j (by omega)
    rw [bstR, bstR, ih, h _ (by have := bstR_le g k; omega), h (k + 1) (by omega)]
/-- A hidden chain: how likely it starts, moves and shows; what is seen. -/
structure HC where
  s : Nat
  L : Nat
  st : Nat → Rat
  mv : Nat → Nat → Rat
  sh : Nat → Nat → Rat
/-- It may be. -/
structure HC.Ok (h : HC) : Prop where
  some : 1 ≤ h.s
  st : ∀ i, i < h.s → 0 ≤ h.st i
  mv : ∀ i, i < h.s → ∀ j, j < h.s → 0 ≤ h.mv i j
  sh : ∀ t, t < h.L → ∀ i, i < h.s → 0 ≤ h.sh t i
/-- Up to a step. -/
def HC.alp (h : HC) : Nat → Nat → Rat
  | 0, i => h.st i * h.sh 0 i
  | t + 1, j => sumR (fun i => h.alp t i * h.mv i j) h.s * h.sh (t + 1) j
/-- Behind a step, from so many steps ahead of the end. -/
def HC.bet (h : HC) : Nat → Nat → Rat
  | 0, _ => 1
  | k + 1, i => sumR (fun j => h.mv i j * h.sh (h.L - 1 - k) j * h.bet k j) h.s
/-- The likeliest way behind a step. -/
def HC.gam (h : HC) : Nat → Nat → Rat
  | 0, _ => 1
  | k + 1, i => h.mv i (bstR (fun j => h.mv i j * h.sh (h.L - 1 - k) j * h.gam k j) (h.s - 1)) * h.sh (h.L - 1 - k) (bstR (fun j => h.mv i j * h.sh (h.L - 1 - k) j * h.gam k j) (h.s - 1)) * h.gam k (bstR (fun j => h.mv i j * h.sh (h.L - 1 - k) j * h.gam k j) (h.s - 1))
theorem HC.meets (h : HC) : ∀ k t, t + k + 1 = h.L → sumR (fun i => h.alp t i * h.bet k i) h.s = sumR (h.alp (h.L - 1)) h.s
  | 0, t, e => by
    have e1 : h.L - 1 = t := by omega
    rw [e1]
    exact sumR_congr fun i _ => by rw [HC.bet, Rat.mul_one]
  | k + 1, t, e => by
    rw [← h.meets k (t + 1) (by omega)]
    have e1 : h.L - 1 - k = t + 1 := by omega
    rw [show sumR (fun i => h.alp t i * h.bet (k + 1) i) h.s = sumR (fun i => sumR (fun j => h.alp t i * (h.mv i j * h.sh (t + 1) j * h.bet k j)) h.s) h.s from sumR_congr fun i _ => by rw [HC.bet, e1, sumR_mul], sumR_swap]
    refine sumR_congr fun j _ => ?_
    rw [HC.alp, Rat.mul_assoc, ← sumR_mulR]
    exact sumR_congr fun i _ => by rw [Rat.mul_assoc, Rat.mul_assoc]
variable {h : HC}
theorem HC.Ok.bet_low (o : h.Ok) : ∀ k i, k < h.L → i < h.s → 0 ≤ h.bet k i
  | 0, _, _, _ => by rw [HC.bet]; decide
  | k + 1, i, hk, hi => by
    rw [HC.bet]
    exact sumR_low fun j hj => Rat.mul_nonneg (Rat.mul_nonneg (o.mv i hi j hj) (o.sh _ (by omega) j hj)) (o.bet_low k j (by omega) hj)
theorem HC.Ok.gam_low (o : h.Ok) : ∀ k i, k < h.L → i < h.s → 0 ≤ h.gam k i
  | 0, _, _, _ => by rw [HC.gam]; decide
  | k + 1, i, hk, hi => by
    rw [HC.gam]
    have hb := bstR_le (fun j => h.mv i j * h.sh (h.L - 1 - k) j * h.gam k j) (h.s - 1)
    have hs := o.some
    generalize bstR (fun j => h.mv i j * h.sh (h.L - 1 - k) j * h.gam k j) (h.s - 1) = b at *
    exact Rat.mul_nonneg (Rat.mul_nonneg (o.mv i hi b (by omega)) (o.sh _ (by omega) b (by omega))) (o.gam_low k b (by omega) (by omega))
theorem HC.gam_most (h : HC) (k i j : Nat) (hj : j < h.s) : h.mv i j * h.sh (h.L - 1 - k) j * h.gam k j ≤ h.gam (k + 1) i := by
  rw [HC.gam]
  exact bstR_most (fun j => h.mv i j * h.sh (h.L - 1 - k) j * h.gam k j) (h.s - 1) j (by omega)
theorem HC.Ok.gam_bet (o : h.Ok) : ∀ k i, k < h.L → i < h.s → h.gam k i ≤ h.bet k i
  | 0, _, _, _ => by rw [HC.gam, HC.bet]; exact Rat.le_refl
  | k + 1, i, hk, hi => by
    rw [HC.gam, HC.bet]
    have hb := bstR_le (fun j => h.mv i j * h.sh (h.L - 1 - k) j * h.gam k j) (h.s - 1)
    have hs := o.some
    generalize bstR (fun j => h.mv i j * h.sh (h.L - 1 - k) j * h.gam k j) (h.s - 1) = b at *
    have h0 : ∀ j, j < h.s → 0 ≤ h.mv i j * h.sh (h.L - 1 - k) j := fun j hj => Rat.mul_nonneg (o.mv i hi j hj) (o.sh _ (by omega) j hj)
    refine Rat.le_trans (Rat.mul_le_mul_of_nonneg_left (o.gam_bet k b (by omega) (by omega)) (h0 b (by omega))) ?_
    exact sumR_part (f := fun j => h.mv i j * h.sh (h.L - 1 - k) j * h.bet k j) (fun j hj => Rat.mul_nonneg (h0 j hj) (o.bet_low k j (by omega) hj)) b (by omega)
theorem HC.Ok.gam_none (o : h.Ok) : ∀ k i, k < h.L → i < h.s → h.gam k i = 0 → h.bet k i = 0
  | 0, _, _, _, e => by rw [HC.gam] at e; exact absurd e (by decide)
  | k + 1, i, hk, hi, e => by
    rw [HC.bet]
    refine sumR_zero fun j hj => ?_
    have h0 : 0 ≤ h.mv i j * h.sh (h.L - 1 - k) j := Rat.mul_nonneg (o.mv i hi j hj) (o.sh _ (by omega) j hj)
    have h1 := h.gam_most k i j hj
    rw [e] at h1
    have h2 := Rat.le_antisymm h1 (Rat.mul_nonneg h0 (o.gam_low k j (by omega) hj))
    rcases Rat.mul_eq_zero.1 h2 with h3 | h3
    · rw [h3, Rat.zero_mul]
    · rw [o.gam_none k j (by omega) hj h3, Rat.mul_zero]
/-- The row that a step begins with, on a way. -/
def HC.row (h : HC) (v : Nat → Nat) : Nat → Nat → Rat
  | 0, i => h.st i
  | t + 1, i => h.mv (v t) i
/-- How likely a way is, up to a step. -/
def HC.lik (h : HC) (v : Nat → Nat) : Nat → Rat
  | 0 => 1
  | t + 1 => h.lik v t * (h.row v t (v t) * h.sh t (v t))
/-- The likeliest one, step by step. -/
def HC.way (h : HC) : Nat → Nat
  | 0 => bstR (fun j => h.st j * h.sh 0 j * h.gam (h.L - 1) j) (h.s - 1)
  | t + 1 => bstR (fun j => h.mv (h.way t) j * h.sh (t + 1) j * h.gam (h.L - 1 - (t + 1)) j) (h.s - 1)
theorem HC.way_eq (h : HC) : ∀ t, h.way t = bstR (fun j => h.row h.way t j * h.sh t j * h.gam (h.L - 1 - t) j) (h.s - 1)
  | 0 => by rw [HC.way]; rfl
  | t + 1 => by rw [HC.way]; rfl
/-- How likely the likeliest way is. -/
def HC.top (h : HC) : Rat := h.st (h.way 0) * h.sh 0 (h.way 0) * h.gam (h.L - 1) (h.way 0)
theorem HC.Ok.way_lt (o : h.Ok) (t : Nat) : h.way t < h.s := by
  rw [HC.way_eq]
  have := bstR_le (fun j => h.row h.way t j * h.sh t j * h.gam (h.L - 1 - t) j) (h.s - 1)
  have := o.some
  omega
theorem HC.Ok.row_low (o : h.Ok) {v : Nat → Nat} (hv : ∀ t, v t < h.s) : ∀ t i, i < h.s → 0 ≤ h.row v t i
  | 0, i, hi => o.st i hi
  | t + 1, i, hi => o.mv (v t) (hv t) i hi
theorem HC.Ok.lik_low (o : h.Ok) {v : Nat → Nat} (hv : ∀ t, v t < h.s) : ∀ t, t ≤ h.L → 0 ≤ h.lik v t
  | 0, _ => by rw [HC.lik]; decide
  | t + 1, ht => by
    rw [HC.lik]
    exact Rat.mul_nonneg (o.lik_low hv t (by omega)) (Rat.mul_nonneg (o.row_low hv t _ (hv t)) (o.sh t (by omega) _ (hv t)))
theorem HC.way_top (h : HC) : ∀ t, t < h.L → h.lik h.way t * (h.row h.way t (h.way t) * h.sh t (h.way t) * h.gam (h.L - 1 - t) (h.way t)) = h.top
  | 0, _ => by rw [HC.lik, Rat.one_mul]; rfl
  | t + 1, ht => by
    rw [← h.way_top t (by omega), HC.lik]
    have e : h.L - 1 - t = (h.L - 1 - (t + 1)) + 1 := by omega
    have e2 : h.L - 1 - (h.L - 1 - (t + 1)) = t + 1 := by omega
    have e3 : h.gam (h.L - 1 - t) (h.way t) = h.mv (h.way t) (h.way (t + 1)) * h.sh (t + 1) (h.way (t + 1)) * h.gam (h.L - 1 - (t + 1)) (h.way (t + 1)) := by
      rw [e, HC.gam, e2]
      rw [show bstR (fun j => h.mv (h.way t) j * h.sh (t + 1) j * h.gam (h.L - 1 - (t + 1)) j) (h.s - 1) = h.way (t + 1) from by rw [HC.way]]
    rw [e3, HC.row, Rat.mul_assoc (h.lik h.way t)]
theorem HC.way_lik (h : HC) (hL : 1 ≤ h.L) : h.lik h.way h.L = h.top := by
  have e := h.way_top (h.L - 1) (by omega)
  rw [Nat.sub_self, HC.gam, Rat.mul_one] at e
  rw [← e, show h.L = h.L - 1 + 1 by omega, HC.lik, Nat.add_sub_cancel]
theorem HC.Ok.any_top (o : h.Ok) {v : Nat → Nat} (hv : ∀ t, v t < h.s) : ∀ t, t < h.L → h.lik v t * (h.row v t (v t) * h.sh t (v t) * h.gam (h.L - 1 - t) (v t)) ≤ h.top
  | 0, ht => by
    rw [HC.lik, Rat.one_mul, HC.top, HC.way]
    exact bstR_most (fun j => h.st j * h.sh 0 j * h.gam (h.L - 1) j) (h.s - 1) (v 0) (by have := hv 0; omega)
  | t + 1, ht => by
    refine Rat.le_trans ?_ (o.any_top hv t (by omega))
    have e : h.L - 1 - t = (h.L - 1 - (t + 1)) + 1 := by omega
    have h1 := h.gam_most (h.L - 1 - (t + 1)) (v t) (v (t + 1)) (hv (t + 1))
    rw [show h.L - 1 - (h.L - 1 - (t + 1)) = t + 1 by omega, ← e] at h1
    rw [HC.lik, HC.row, Rat.mul_assoc (h.lik v t)]
    exact Rat.mul_le_mul_of_nonneg_left (Rat.mul_le_mul_of_nonneg_left h1 (Rat.mul_nonneg (o.row_low hv t _ (hv t)) (o.sh t (by omega) _ (hv t)))) (o.lik_low hv t (by omega))
/-- No way is likelier. -/
theorem HC.Ok.any_lik (o : h.Ok) (hL : 1 ≤ h.L) {v : Nat → Nat} (hv : ∀ t, v t < h.s) : h.lik v h.L ≤ h.top := by
  have e := o.any_top hv (h.L - 1) (by omega)
  rw [Nat.sub_self, HC.gam, Rat.mul_one] at e
  rw [show h.L = h.L - 1 + 1 by omega, HC.lik]
  exact e
/-- What is seen. -/
def HC.all (h : HC) : Rat := sumR (h.alp (h.L - 1)) h.s
theorem HC.all_eq (h : HC) (hL : 1 ≤ h.L) : h.all = sumR (fun i => h.st i * h.sh 0 i * h.bet (h.L - 1) i) h.s := (h.meets (h.L - 1) 0 (by omega)).symm
theorem HC.Ok.top_le (o : h.Ok) (hL : 1 ≤ h.L) : h.top ≤ h.all := by
  rw [h.all_eq hL, HC.top]
  have h0 : ∀ j, j < h.s → 0 ≤ h.st j * h.sh 0 j := fun j hj => Rat.mul_nonneg (o.st j hj) (o.sh 0 (by omega) j hj)
  refine Rat.le_trans (Rat.mul_le_mul_of_nonneg_left (o.gam_bet (h.L - 1) _ (by omega) (o.way_lt 0)) (h0 _ (o.way_lt 0))) ?_
  exact sumR_part (f := fun i => h.st i * h.sh 0 i * h.bet (h.L - 1) i) (fun j hj => Rat.mul_nonneg (h0 j hj) (o.bet_low _ j (by omega) hj)) _ (o.way_lt 0)
theorem HC.Ok.top_low (o : h.Ok) (hL : 1 ≤ h.L) : 0 ≤ h.top := Rat.mul_nonneg (Rat.mul_nonneg (o.st _ (o.way_lt 0)) (o.sh 0 (by omega) _ (o.way_lt 0))) (o.gam_low _ _ (by omega) (o.way_lt 0))
theorem HC.Ok.top_none (o : h.Ok) (hL : 1 ≤ h.L) : h.top = 0 ↔ h.all = 0 := by
  constructor
  · intro e
    rw [h.all_eq hL]
    refine sumR_zero fun j hj => ?_
    have h0 : 0 ≤ h.st j * h.sh 0 j := Rat.mul_nonneg (o.st j hj) (o.sh 0 (by omega) j hj)
    have h1 : h.st j * h.sh 0 j * h.gam (h.L - 1) j ≤ h.top := by
      rw [HC.top, HC.way]
      exact bstR_most (fun j => h.st j * h.sh 0 j * h.gam (h.L - 1) j) (h.s - 1) j (by omega)
    rw [e] at h1
    have h2 := Rat.le_antisymm h1 (Rat.mul_nonneg h0 (o.gam_low _ j (by omega) hj))
    rcases Rat.mul_eq_zero.1 h2 with h3 | h3
    · rw [h3, Rat.zero_mul]
    · rw [o.gam_none _ j (by omega) hj h3, Rat.mul_zero]
  · intro e
    have h1 := o.top_le hL
    rw [e] at h1
    exact Rat.le_antisymm h1 (o.top_low hL)
end Go.Proofs.YtnnfmfdjgdgdhaaGreatDoor


/- How long the numbers of a hidden chain are. -/
namespace Go.Proofs.YtnnfmfdjgdgdhaaGreatDoor
/-- A denominator for all that is drawn of raw weights. -/
def D24 : Nat := 620448401733239439360000
theorem dvd24 : ∀ n : Nat, 1 ≤ n → n ≤ 24 → n ∣ D24 := by
  intro n h1 h2
  match n, h1, h2 with
  | 1, _, _ => decide
  | 2, _, _ => decide
  | 3, _, _ => decide
  | 4, _, _ => decide
  | 5, _, _ => decide
  | 6, _, _ => decide
  | 7, _, _ => decide
  | 8, _, _ => decide
  | 9, _, _ => decide
  | 10, _, _ => decide
  | 11, _, _ => decide
  | 12, _, _ => decide
  | 13, _, _ => decide
  | 14, _, _ => decide
  | 15, _, _ => decide
  | 16, _, _ => decide
  | 17, _, _ => decide
  | 18, _, _ => decide
  | 19, _, _ => decide
  | 20, _, _ => decide
  | 21, _, _ => decide
  | 22, _, _ => decide
  | 23, _, _ => decide
  | 24, _, _ => decide
  | n + 25, _, h => exact absurd h (by omega)
/-- Small: not below 0, at most 4 so often, a denominator so often. -/
structure Sm (k : Nat) (q : Rat) : Prop where
  low : 0 ≤ q
  high : q ≤ ((4 ^ k : Nat) : Rat)
  whole : ∃ a : Nat, q * ((D24 ^ k : Nat) : Rat) = (a : Rat)
theorem Sm.zero : Sm 0 0 := ⟨Rat.le_refl, by decide, 0, by rw [Rat.zero_mul]; rfl⟩
theorem Sm.one : Sm 0 1 := ⟨by decide, by decide, 1, by rw [Rat.one_mul]; rfl⟩
theorem Sm.mul {k j : Nat} {p q : Rat} (h : Sm k p) (h' : Sm j q) : Sm (k + j) (p * q) := by
  refine ⟨Rat.mul_nonneg h.low h'.low, ?_, ?_⟩
  · rw [Nat.pow_add, Rat.natCast_mul]
    exact Rat.le_trans (Rat.mul_le_mul_of_nonneg_left h'.high h.low) (Rat.mul_le_mul_of_nonneg_right h.high Rat.natCast_nonneg)
  · obtain ⟨a, ha⟩ := h.whole
    obtain ⟨b, hb⟩ := h'.whole
    refine ⟨a * b, ?_⟩
    rw [Nat.pow_add, Rat.natCast_mul, Rat.natCast_mul, ← ha, ← hb]
    rw [Rat.mul_assoc, Rat.mul_assoc, ← Rat.mul_assoc q, Rat.mul_comm q, Rat.mul_assoc]
theorem Sm.up1 {k : Nat} {q : Rat} (h : Sm k q) : Sm (k + 1) q := by
  refine ⟨h.low, Rat.le_trans h.high ?_, ?_⟩
  · have : 4 ^ k ≤ 4 ^ (k + 1) := Nat.pow_le_pow_right (by decide) (by omega)
    exact_mod_cast this
  · obtain ⟨a, ha⟩ := h.whole
    exact ⟨a * D24, by rw [Nat.pow_succ, Rat.natCast_mul, Rat.natCast_mul, ← Rat.mul_assoc, ha]⟩
theorem Sm.up {k j : Nat} {q : Rat} (h : Sm k q) (hj : k ≤ j) : Sm j q := by
  obtain ⟨d, rfl⟩ := Nat.exists_eq_add_of_le hj
  clear hj
  induction d with
  | zero => exact h
  | succ d ih => exact ih.up1
theorem sumR_wh {f : Nat → Rat} {D : Nat} : ∀ {n : Nat}, (∀ i, i < n → ∃ a : Nat, f i * (D : Rat) = (a : Rat)) → ∃ a : Nat, sumR f n * (D : Rat) = (a : Rat)
  | 0, _ => ⟨0, by rw [sumR, Rat.zero_mul]; rfl⟩
  | n + 1, h => by
    obtain ⟨a, ha⟩ := sumR_wh (n := n) fun i hi => h i (by omega)
    obtain ⟨b, hb⟩ := h n (by omega)
    exact ⟨a + b, by rw [sumR, Rat.add_mul, ha, hb, Rat.natCast_add]⟩
theorem sumR_high {f : Nat → Rat} {m : Nat} : ∀ {n : Nat}, (∀ i, i < n → f i ≤ (m : Rat)) → sumR f n ≤ ((n * m : Nat) : Rat)
  | 0, _ => by rw [sumR, Nat.zero_mul]; exact Rat.le_refl
  | n + 1, h => by
    rw [sumR, Nat.add_mul, Nat.one_mul, Rat.natCast_add]
    exact Rat.le_trans ((Rat.add_le_add_right (c := f n)).2 (sumR_high fun i hi => h i (by omega))) ((Rat.add_le_add_left (c := ((n * m : Nat) : Rat))).2 (h n (by omega)))
theorem Sm.sum {f : Nat → Rat} {k n : Nat} (hn : n ≤ 4) (h : ∀ i, i < n → Sm k (f i)) : Sm (k + 1) (sumR f n) := by
  refine ⟨sumR_low fun i hi => (h i hi).low, Rat.le_trans (sumR_high fun i hi => (h i hi).high) ?_, ?_⟩
  · have : n * 4 ^ k ≤ 4 ^ (k + 1) := by rw [Nat.pow_succ, Nat.mul_comm]; exact Nat.mul_le_mul_left _ hn
    exact_mod_cast this
  · obtain ⟨a, ha⟩ := sumR_wh fun i hi => (h i hi).whole
    exact ⟨a * D24, by rw [Nat.pow_succ, Rat.natCast_mul, Rat.natCast_mul, ← Rat.mul_assoc, ha]⟩
theorem Sm.fits {k : Nat} {q : Rat} (h : Sm k q) : Fits (12 * k + 1) q := by
  obtain ⟨a, ha⟩ := h.whole
  have hD : 0 < D24 ^ k := Nat.pow_pos (by decide)
  have hDr : ((D24 ^ k : Nat) : Rat) ≠ 0 := fun e => by
    have e' : D24 ^ k = 0 := by exact_mod_cast e
    omega
  have hq : q = mkRat (a : Int) (D24 ^ k) := by
    rw [Rat.mkRat_eq_div]
    show q = (a : Rat) / _
    rw [← ha, Rat.div_def, Rat.mul_assoc, Rat.mul_inv_cancel _ hDr, Rat.mul_one]
  have hb : D24 ^ k * 4 ^ k < 256 ^ (12 * k + 1) := by
    rw [← Nat.mul_pow, Nat.pow_succ, Nat.pow_mul]
    have : (D24 * 4) ^ k ≤ (256 ^ 12) ^ k := Nat.pow_le_pow_left (by decide) k
    have h2 : 0 < (256 ^ 12) ^ k := Nat.pow_pos (by decide)
    omega
  have h4 : 0 < 4 ^ k := Nat.pow_pos (by decide)
  refine ⟨(a : Int), D24 ^ k, by omega, hq, ?_, ?_⟩
  · exact Nat.lt_of_le_of_lt (Nat.le_mul_of_pos_right _ h4) hb
  · have h1 : (a : Rat) ≤ ((4 ^ k * D24 ^ k : Nat) : Rat) := by
      rw [← ha, Rat.natCast_mul]
      exact Rat.mul_le_mul_of_nonneg_right h.high Rat.natCast_nonneg
    have h2 : a ≤ 4 ^ k * D24 ^ k := by exact_mod_cast h1
    rw [Nat.mul_comm] at h2
    simp
    omega
/-- All that is counted with is small. -/
structure HC.Sml (h : HC) : Prop where
  s4 : h.s ≤ 4
  L8 : h.L ≤ 8
  st : ∀ i, i < h.s → Sm 1 (h.st i)
  mv : ∀ i, i < h.s → ∀ j, j < h.s → Sm 1 (h.mv i j)
  sh : ∀ t, t < h.L → ∀ i, i < h.s → Sm 1 (h.sh t i)
theorem HC.Sml.ok {h : HC} (m : h.Sml) (hs : 1 ≤ h.s) : h.Ok := ⟨hs, fun i hi => (m.st i hi).low, fun i hi j hj => (m.mv i hi j hj).low, fun t ht i hi => (m.sh t ht i hi).low⟩
theorem HC.Sml.alp {h : HC} (m : h.Sml) : ∀ t i, t < h.L → i < h.s → Sm (3 * t + 2) (h.alp t i)
  | 0, i, ht, hi => by rw [HC.alp]; exact (m.st i hi).mul (m.sh 0 ht i hi)
  | t + 1, j, ht, hj => by
    rw [HC.alp]
    exact ((Sm.sum m.s4 fun i hi => (m.alp t i (by omega) hi).mul (m.mv i hi j hj)).mul (m.sh (t + 1) ht j hj)).up (by omega)
theorem HC.Sml.bet {h : HC} (m : h.Sml) : ∀ k i, k < h.L → i < h.s → Sm (3 * k) (h.bet k i)
  | 0, _, _, _ => by rw [HC.bet]; exact Sm.one
  | k + 1, i, hk, hi => by
    rw [HC.bet]
    exact (Sm.sum m.s4 fun j hj => ((m.mv i hi j hj).mul (m.sh _ (by omega) j hj)).mul (m.bet k j (by omega) hj)).up (by omega)
theorem HC.Sml.gam {h : HC} (m : h.Sml) (hs : 1 ≤ h.s) : ∀ k i, k < h.L → i < h.s → Sm (3 * k) (h.gam k i)
  | 0, _, _, _ => by rw [HC.gam]; exact Sm.one
  | k + 1, i, hk, hi => by
    rw [HC.gam]
    have hb := bstR_le (fun j => h.mv i j * h.sh (h.L - 1 - k) j * h.gam k j) (h.s - 1)
    generalize bstR (fun j => h.mv i j * h.sh (h.L - 1 - k) j * h.gam k j) (h.s - 1) = b at *
    exact (((m.mv i hi b (by omega)).mul (m.sh _ (by omega) b (by omega))).mul (m.gam hs k b (by omega) (by omega))).up (by omega)
theorem HC.Sml.row {h : HC} (m : h.Sml) {v : Nat → Nat} (hv : ∀ t, v t < h.s) : ∀ t i, i < h.s → Sm 1 (h.row v t i)
  | 0, i, hi => m.st i hi
  | t + 1, i, hi => m.mv (v t) (hv t) i hi
theorem HC.Sml.lik {h : HC} (m : h.Sml) {v : Nat → Nat} (hv : ∀ t, v t < h.s) : ∀ t, t ≤ h.L → Sm (2 * t) (h.lik v t)
  | 0, _ => by rw [HC.lik]; exact Sm.one
  | t + 1, ht => by
    rw [HC.lik]
    exact ((m.lik hv t (by omega)).mul ((m.row hv t _ (hv t)).mul (m.sh t (by omega) _ (hv t)))).up (by omega)
end Go.Proofs.YtnnfmfdjgdgdhaaGreatDoor

