/- walk.Draw: what a die draws. -/
import Derived.Test.YtnnfmfdjgdgdhaaDoorSetAToFillA
import Derived.Test.YtnnfmfdjgdgdhaaDoorDivCToRefA
import Derived.Test.YtnnfmfdjgdgdhaaDoorFillBToDicP
import Derived.Laws.EntriesVeiled
namespace Go.Proofs.YtnnfmfdjgdgdhaaDoor
open Go.RowKit Go.Shelf

set_option maxRecDepth 100000 in
set_option maxHeartbeats 400000 in
theorem isBelow_any (n : Bool) (x y : ByteArray) (w : World) (hs : x.size + y.size ≤ 10000) :
    Calls Tryd.prog 23 #[.agg #[.bool n, .string x, .string y]] w fun e w' => e = .returned (.bool (decide (val n x y < 0))) ∧ Below w.heap.size w w' := by
  have HO := hid (fun V : World => fOf_q (k := 0) (w := V) 0 0 rfl (by decide) (by rfl))
  have HZ : Hid (val (sgn 0) (nu 0) (de 0) = 0 ∧ (nu 0).size + (de 0).size ≤ 100000) := ⟨val_own _, by have := qw_zero; rw [own_size]; omega⟩
  have HD : Hid (decide (cmpQ (val n x y) 0 < 0) = decide (val n x y < 0)) := by show _ = _; rw [decide_eq_decide]; exact cmp_below
  generalize decide (val n x y < 0) = R at *
  generalize sgn 0 = zn at *
  generalize nu 0 = zx at *
  generalize de 0 = zy at *
  have hx := Box.new w n x y
  have hB := (Below.refl w.heap.size w).alloc (Nat.le_refl _) (FC n x y)
  go_enter Tryd.func23, Tryd.ntmps23
  go_upto_region 1 with fail
  generalize (w.alloc (FC n x y)) = W at *
  obtain ⟨k0, k1, k2, -⟩ := hx.facts
  generalize hc : cmpQ (val n x y) 0 = c at *
  go_region_with (first
    | (go_at_call 26; refine (HO.out _).mono ?_; rintro e w1 ⟨rfl, hb1⟩; have hx1 := hx.drew.below hb1 hx.lt; have hB1 := hB.drew.trans (hb1.mono hB.size); obtain ⟨j0, j1, j2, -⟩ := hx1.facts)
    | (go_at_call 24; refine (fCmp_q c rfl HZ.out.1 hc (by omega) HZ.out.2).mono ?_; rintro e w2 ⟨rfl, hb2⟩; have HB := hid (hB1.trans (hb2.mono hB1.size))))
  all_goals
    go_wp2
    go_ret
    exact ⟨by rw [← HD.out]; rfl, HB.out⟩

theorem rowB_any (l : List Fr) : (!(l.any fun f => decide (frQ f < 0)) && decide (fsum l = 1)) = rowB l := by
  have h : ∀ l : List Fr, (!(l.any fun f => decide (frQ f < 0))) = l.all fun f => decide (¬ frQ f < 0) := fun l => by
    induction l with
    | nil => rfl
    | cons f l ih => rw [List.any_cons, List.all_cons, Bool.not_or, ih, decide_not]
  rw [rowB, h]

set_option maxRecDepth 100000 in
set_option maxHeartbeats 1000000 in
theorem areCh_any (a : Option Addr) (ca : Nat) (l : List Fr) (w : World) (h : FrS w a l) (hw : fw l ≤ 10000) (hn : l.length ≤ 10000) :
    Calls Tryd.prog 12 #[.slice a l.length ca] w fun e w' => e = .returned (.bool (rowB l)) ∧ Below w.heap.size w w' := by
  have HC := hid (conFr_any a ca 23 #[] l (fun f => decide (frQ f < 0)) w h hn (enters_of Tryd.func23 (by kernel_rfl) rfl) (fun q hq U _ => isBelow_any q.1 q.2.1 q.2.2 U (by have := fw_mem hq; omega)))
  have HF := hid h
  have HS := hid (fun (V : World) (hV : FrS V a l) => fSum_any a ca l V hV hw hn)
  have HO1 := hid (fun V : World => fOf_q (k := 1) (w := V) 1 1 rfl (by decide) (by rfl))
  have HQ : Hid (val (sgn (fsum l)) (nu (fsum l)) (de (fsum l)) = fsum l ∧ (nu (fsum l)).size + (de (fsum l)).size ≤ 100000) := ⟨val_own _, by
    have h1 := fits_qw (fits_sum l)
    rw [own_size]
    omega⟩
  have H1 : Hid (val (sgn 1) (nu 1) (de 1) = 1 ∧ (nu 1).size + (de 1).size ≤ 100000) := ⟨val_own _, by
    have h1 : qw 1 ≤ 2 := qw_one2
    rw [own_size]
    omega⟩
  have HR := hid (rowB_any l)
  have HCS := hid (cmp_same (p := fsum l))
  generalize rowB l = rb at *
  generalize (l.any fun f => decide (frQ f < 0)) = an at *
  clear h hw
  simp only [C] at HS
  go_enter Tryd.func12, Tryd.ntmps12
  go_wp2_with fail
  refine HC.out.mono ?_
  rintro e w1 ⟨rfl, hb1⟩
  have HB1 := hid hb1
  clear hb1
  cases an with
  | true =>
    go_wp2
    go_ret
    exact ⟨by rw [← HR.out]; rfl, HB1.out⟩
  | false =>
    go_wp2_with fail
    refine (HS.out _ (HF.out.below HB1.out)).mono ?_
    rintro e w5 ⟨rfl, hb5⟩
    have HB5 := hid (HB1.out.trans (hb5.mono HB1.out.size))
    clear hb5
    go_wp2_with fail
    refine (HO1.out _).mono ?_
    rintro e w6 ⟨rfl, hb6⟩
    have HB6 := hid (HB5.out.trans (hb6.mono HB5.out.size))
    clear hb6
    go_wp2_with fail
    refine (fCmp_q (w := w6) (cmpQ (fsum l) 1) HQ.out.1 H1.out.1 rfl HQ.out.2 H1.out.2).mono ?_
    rintro e w7 ⟨rfl, hb7⟩
    have HB7 := hid (HB6.out.trans (hb7.mono HB6.out.size))
    clear hb7
    generalize cmpQ (fsum l) 1 = c at *
    go_wp2
    go_ret
    exact ⟨by rw [← HR.out, ← HCS.out]; rfl, HB7.out⟩

set_option maxRecDepth 100000 in
set_option maxHeartbeats 1000000 in
theorem roundUp_any (q : Rat) (w : World) (hq : 0 ≤ q) (hm : q ≤ (1000000 : Nat)) (hz : qw q ≤ 100000) :
    Calls Tryd.prog 30 #[.agg #[.bool (sgn q), .string (nu q), .string (de q)]] w fun e w' => e = .returned (.int .i64 (ceilN q.num.natAbs q.den : Nat)) ∧ Below w.heap.size w w' := by
  have hsz := own_size q
  have HD := hid (fun V : World => Div_yes (nu q) (de q) V (by omega) (by omega) (by rw [de, N_B]; exact q.den_nz))
  have e1 : N (nu q) = q.num.natAbs := N_B _
  have e2 : N (de q) = q.den := N_B _
  have hc := ceil_le hq hm
  rw [e1, e2] at HD
  rw [ceilN] at hc ⊢
  generalize sgn q = qn at *
  generalize nu q = qx at *
  generalize de q = qy at *
  generalize q.num.natAbs / q.den = d at *
  generalize q.num.natAbs % q.den = r at *
  have HI := hid (fun V : World => Int_yes (B d) V (by rw [B_size]; exact Nat.le_trans (bn_fits 4 d (by show d < 4294967296; omega)) (by omega)) (by rw [N_B]; omega))
  rw [N_B] at HI
  have hr : (B r).size = 0 ↔ r = 0 := by
    constructor
    · intro h
      have := B_lt r
      rw [h] at this
      omega
    · rintro rfl
      rw [B_size]
      exact Nat.le_zero.1 (bn_fits 0 0 (by decide))
  have HA := hid ((Below.refl w.heap.size w).alloc (Nat.le_refl _) (FC qn qx qy))
  obtain ⟨x0, x1, x2, -⟩ := (Box.new w qn qx qy).facts
  by_cases h0 : r = 0
  · have hb0 := hr.2 h0
    rw [if_pos h0] at hc ⊢
    rw [Nat.add_zero] at hc ⊢
    clear hr h0
    generalize B r = rb at *
    generalize B d = db at *
    go_enter Tryd.func30, Tryd.ntmps30
    go_wp2_with fail
    refine (HD.out _).mono ?_
    rintro e w1 ⟨rfl, hb1⟩
    have HB1 := hid (HA.out.trans (hb1.mono HA.out.size))
    clear hb1
    go_wp2_with fail
    refine (HI.out _).mono ?_
    rintro e w2 ⟨rfl, hb2⟩
    have HB2 := hid (HB1.out.trans (hb2.mono HB1.out.size))
    clear hb2
    go_wp2
    go_ret
    exact ⟨rfl, HB2.out⟩
  · have hb0 : 0 < (B r).size := by
      have := fun h => h0 (hr.1 h)
      omega
    rw [if_neg h0] at hc ⊢
    clear hr h0
    generalize B r = rb at *
    generalize B d = db at *
    go_enter Tryd.func30, Tryd.ntmps30
    go_wp2_with fail
    refine (HD.out _).mono ?_
    rintro e w1 ⟨rfl, hb1⟩
    have HB1 := hid (HA.out.trans (hb1.mono HA.out.size))
    clear hb1
    go_wp2_with fail
    refine (HI.out _).mono ?_
    rintro e w2 ⟨rfl, hb2⟩
    have HB2 := hid (HB1.out.trans (hb2.mono HB1.out.size))
    clear hb2
    go_wp2
    go_ret
    exact ⟨by simp, HB2.out⟩
end Go.Proofs.YtnnfmfdjgdgdhaaDoor


/- walk.Draw: the shares of dice, the first that has the die. -/
namespace Go.Proofs.YtnnfmfdjgdgdhaaDoor
open Go.RowKit Go.Shelf

/-- What shares holds: the sum so far, how many dice so far. -/
structure ShD (w : World) (G gs : Nat) (q : Rat) (c : List Nat) (U : World) : Prop where
  bx : Box U gs (sgn q) (nu q) (de q)
  row : RowI U G c
  bel : Below w.heap.size w U
theorem ShD.step {w U U' : World} {G gs : Nat} {q : Rat} {c : List Nat} (h : ShD w G gs q c U) (hb : Below U.heap.size U U') : ShD w G gs q c U' := ⟨h.bx.below hb h.bx.lt, h.row.below hb h.row.lt, h.bel.trans (hb.mono h.bel.size)⟩
theorem ShD.drew {w U : World} {G gs : Nat} {q : Rat} {c : List Nat} (h : ShD w G gs q c U) : ShD w G gs q c U.drew := ⟨h.bx.drew, h.row.drew, h.bel.drew⟩
theorem ShD.sum {w U : World} {G gs : Nat} {q : Rat} {c : List Nat} (h : ShD w G gs q c U) (hne : G ≠ gs) (hg : w.heap.size ≤ gs) (p : Rat) : ShD w G gs p c (((U.setCell ⟨gs, 0, none⟩ (.bool (sgn p))).setCell ⟨gs, 1, none⟩ (.string (nu p))).setCell ⟨gs, 2, none⟩ (.string (de p))) :=
  ⟨h.bx.put _ _ _, ((h.row.off gs 0 _ hne).off gs 1 _ hne).off gs 2 _ hne, below_put h.bel hg _ _ _⟩
theorem Box.off {w : World} {g : Nat} {n : Bool} {x y : ByteArray} (h : Box w g n x y) (b j : Nat) (v : Value) (hne : g ≠ b) : Box (w.setCell ⟨b, j, none⟩ v) g n x y := (Below.heap_setCell w ⟨b, j, none⟩ v g hne).trans h
theorem ShD.put {w U : World} {G gs : Nat} {q : Rat} {c : List Nat} (h : ShD w G gs q c U) (hne : G ≠ gs) (hg : w.heap.size ≤ G) (i x : Nat) : ShD w G gs q (c.set i x) (U.setCell ⟨G, i, none⟩ (.int .i64 (x : Int))) :=
  ⟨h.bx.off G i _ (Ne.symm hne), h.row.set i x, h.bel.setCell (p := ⟨G, i, none⟩) hg _⟩

set_option maxRecDepth 100000 in
set_option maxHeartbeats 2000000 in
theorem shares_any (a : Option Addr) (ca m : Nat) (l : List Fr) (w : World) (h : FrS w a l) (hw : fw l ≤ 10000) (hn : l.length ≤ 10000) (hlow : ∀ f ∈ l, 0 ≤ frv f) (h1 : fsum l = 1) (hm : m ≤ 1000000) :
    Calls Tryd.prog 15 #[.slice a l.length ca, .int .i64 (m : Nat)] w fun e w' => ∃ G, e = .returned (.slice (some ⟨G, 0, none⟩) l.length l.length) ∧ RowI w' G (shN l m) ∧ Below w.heap.size w w' := by
  obtain ⟨i0, hi0, hz0, hz1, hz2⟩ := info_parts Tryd.infoInt
  have HF := hid h
  have HW := hid hw
  have HO := hid (fun V : World => fOf_q (k := 0) (w := V) 0 0 rfl (by decide) (by rfl))
  have hmf : Fits 3 (m : Rat) := ⟨(m : Int), 1, by decide, by rw [Rat.mkRat_one]; rfl, by decide, by show _ < 16777216; simp; omega⟩
  have HOF : Hid (∀ V : World, Calls Tryd.prog 26 #[.int .i64 (m : Nat)] V fun e w' => e = .returned (.agg #[.bool (sgn (m : Rat)), .string (nu (m : Rat)), .string (de (m : Rat))]) ∧ Below V.heap.size V w') := fun V => fOf_nat m V (by omega)
  have HST : Hid (∀ i (hi : i < l.length), ∀ V : World, Calls Tryd.prog 29 #[.agg #[.bool (sgn (fsum (l.take i))), .string (nu (fsum (l.take i))), .string (de (fsum (l.take i)))], .agg #[.bool l[i].1, .string l[i].2.1, .string l[i].2.2]] V fun e w' => e = .returned (.agg #[.bool (sgn (fsum (l.take (i + 1)))), .string (nu (fsum (l.take (i + 1)))), .string (de (fsum (l.take (i + 1))))]) ∧ Below V.heap.size V w') := fun i hi V => by
    have hstep := take_one hi
    have hmem := fw_mem (List.getElem_mem hi)
    have hfit := fits_qw (fits_sum (l.take i))
    have hft := fw_take l i
    have hz := own_size (fsum (l.take i))
    exact fAdd_q (fsum (l.take (i + 1))) (val_own _) rfl hstep.symm (by omega) (by omega)
  have HMU0 : Hid (∀ i (V : World), Calls Tryd.prog 31 #[.agg #[.bool (sgn (fsum (l.take (i + 1)))), .string (nu (fsum (l.take (i + 1)))), .string (de (fsum (l.take (i + 1))))], .agg #[.bool (sgn (m : Rat)), .string (nu (m : Rat)), .string (de (m : Rat))]] V fun e w' => e = .returned (.agg #[.bool (sgn (cqR l m i)), .string (nu (cqR l m i)), .string (de (cqR l m i))]) ∧ Below V.heap.size V w') := fun i V => by
    have hfit := fits_qw (fits_sum (l.take (i + 1)))
    have hft := fw_take l (i + 1)
    have hz := own_size (fsum (l.take (i + 1)))
    have h3 := fits_qw hmf
    have hz3 := own_size (m : Rat)
    exact fMul_q (cqR l m i) (val_own _) (val_own _) rfl (by omega) (by omega)
  have HRU0 : Hid (∀ i (V : World), Calls Tryd.prog 30 #[.agg #[.bool (sgn (cqR l m i)), .string (nu (cqR l m i)), .string (de (cqR l m i))]] V fun e w' => e = .returned (.int .i64 (ceilN (cqR l m i).num.natAbs (cqR l m i).den : Nat)) ∧ Below V.heap.size V w') := fun i V => by
    have hfit := fits_qw (fits_tim (fits_sum (l.take (i + 1))) hmf)
    have hft := fw_take l (i + 1)
    refine roundUp_any (cqR l m i) V (cqR_low hlow m i) (Rat.le_trans (cqR_high hlow h1 m i) (by exact_mod_cast hm)) ?_
    show qw (fsum (l.take (i + 1)) * (m : Rat)) ≤ _
    omega
  have HG : Hid (∀ i, i < l.length → (shN l m)[i]? = some (ceilN (cqR l m i).num.natAbs (cqR l m i).den)) := fun i h => by rw [List.getElem?_eq_getElem (by rw [shN_length]; exact h), shN_get]
  have hsl := shN_length l m
  clear h hw hlow h1 hmf
  generalize shN l m = ds at *
  generalize sgn (m : Rat) = mn at *
  generalize nu (m : Rat) = mx at *
  generalize de (m : Rat) = my at *
  go_enter Tryd.func15, Tryd.ntmps15
  go_upto_region 1 with fail
  go_upto_region 2 with (first
    | (at_make; refine wpList_make_full _ rfl _ _ 22 rfl w.heap.size 3 i0 (.int .i64 0) 1 Tryd.underlying22 hi0 hz0 hz1 .i64 .i64 _ _ l.length rfl rfl (by go_num) (by go_num) (by rw [hz2]; omega) (by unfold maxLen; omega) (Nat.le_refl _) ?_; intro w2 hown2 hgrow2; have hB2 : Below w.heap.size w w2 := (Below.refl _ w).grown hgrow2 (Nat.le_refl _) (fun k e => by cases e)))
  have hb2 := block_of_own hown2
  rw [made_ints] at hb2
  have hI : RowI w2 w.heap.size (List.replicate l.length 0) := hb2
  clear hown2 hgrow2 hb2
  go_wp2_with fail
  refine (HO.out _).mono ?_
  rintro e w3 ⟨rfl, hb3⟩
  have hI3 := hI.below hb3 hI.lt
  have hB3 := hB2.trans (hb3.mono hB2.size)
  have hgs : w.heap.size + 1 ≤ w3.heap.size := hI3.lt
  clear hI hB2 hb3
  have hbn := Box.new w3 (sgn 0) (nu 0) (de 0)
  have HK0 : Hid (ShD w w.heap.size w3.heap.size (fsum (l.take 0)) (partD ds 0) (w3.alloc (FC (sgn 0) (nu 0) (de 0)))) := ⟨hbn, by rw [partD_zero, hsl]; exact hI3.below ((Below.refl _ w3).alloc (Nat.le_refl _) _) hI3.lt, hB3.alloc hB3.size _⟩
  have hne : w.heap.size ≠ w3.heap.size := by omega
  have hG : w.heap.size ≤ w.heap.size := Nat.le_refl _
  have hgl : w.heap.size ≤ w3.heap.size := by omega
  clear hbn hI3 hB3 hgs
  generalize sgn 0 = zn at *
  generalize nu 0 = zx at *
  generalize de 0 = zy at *
  go_wp2_with fail
  generalize (w3.alloc (FC zn zx zy)) = w4 at *
  generalize w3.heap.size = gs at *
  go_loopw [15] (fun iv wr => ∃ i : Nat, i ≤ l.length ∧ iv = .int .i64 i ∧ Hid (ShD w w.heap.size gs (fsum (l.take i)) (partD ds i) wr)) (fun iv _ => l.length - (intOf iv).toNat)
  case atStart => exact ⟨0, Nat.zero_le _, rfl, HK0⟩
  case round =>
    obtain ⟨i, hi, rfl, HK⟩ := hrel
    clear HK0
    by_cases hlt : i < l.length
    · obtain ⟨g, o, rfl, hg, c0, c1, c2⟩ := (HF.out.below HK.out.bel) i hlt
      have HAD := hid (HST.out i hlt)
      have HMU := hid (HMU0.out i)
      have HRU := hid (HRU0.out i)
      obtain ⟨hd1, hd2⟩ := List.getElem?_eq_some_iff.1 (HG.out i hlt)
      have HPS := hid (partD_set ds hd1)
      rw [hd2] at HPS
      clear hd1 hd2
      generalize ceilN (cqR l m i).num.natAbs (cqR l m i).den = cn at *
      generalize sgn (cqR l m i) = qn at *
      generalize nu (cqR l m i) = qx at *
      generalize de (cqR l m i) = qy at *
      generalize l[i].1 = fn at *
      generalize l[i].2.1 = fx at *
      generalize l[i].2.2 = fy at *
      have hA := (Below.refl wr.heap.size wr).alloc (Nat.le_refl _) (FC fn fx fy)
      have hKA := HK.out.step hA
      obtain ⟨k0, k1, k2, f0, f1, f2⟩ := hKA.bx.facts
      obtain ⟨x0, x1, x2, -⟩ := (Box.new wr fn fx fy).facts
      replace HK := hid hKA
      clear hA hKA
      go_wp2_with fail
      generalize (wr.alloc (FC fn fx fy)) = wa at *
      refine (HAD.out _).mono ?_
      rintro e wb ⟨rfl, hb⟩
      replace HK := hid (HK.out.step hb)
      clear hb c0 c1 c2 k0 k1 k2 f0 f1 f2 x0 x1 x2
      obtain ⟨k0, k1, k2, f0, f1, f2⟩ := HK.out.bx.facts
      have HK2 := hid (HK.out.sum hne hgl (fsum (l.take (i + 1))))
      clear HK
      go_upto_region 7 with fail
      clear k0 k1 k2 f0 f1 f2
      generalize (((wb.setCell ⟨gs, 0, none⟩ (.bool (sgn (fsum (l.take (i + 1)))))).setCell ⟨gs, 1, none⟩ (.string (nu (fsum (l.take (i + 1)))))).setCell ⟨gs, 2, none⟩ (.string (de (fsum (l.take (i + 1)))))) = W at *
      have HK := hid HK2.out.drew
      have HELD : Hid (∀ u, ShD w w.heap.size gs (fsum (l.take (i + 1))) (partD ds i) u → u.cell? ⟨gs, 0, none⟩ = some (.bool (sgn (fsum (l.take (i + 1))))) ∧ u.cell? ⟨gs, 1, none⟩ = some (.string (nu (fsum (l.take (i + 1))))) ∧ u.cell? ⟨gs, 2, none⟩ = some (.string (de (fsum (l.take (i + 1)))))) := fun u h => ⟨h.bx.c0, h.bx.c1, h.bx.c2⟩
      have HELP : Hid (∀ u c, ShD w w.heap.size gs (fsum (l.take (i + 1))) c u → u.cell? ⟨gs, 0, none⟩ = some (.bool (sgn (fsum (l.take (i + 1))))) ∧ u.cell? ⟨gs, 1, none⟩ = some (.string (nu (fsum (l.take (i + 1))))) ∧ u.cell? ⟨gs, 2, none⟩ = some (.string (de (fsum (l.take (i + 1)))))) := fun u c h => ⟨h.bx.c0, h.bx.c1, h.bx.c2⟩
      refine wp_region_held_drew (S := fun u => u.cell? ⟨gs, 0, none⟩ = some (.bool (sgn (fsum (l.take (i + 1))))) ∧ u.cell? ⟨gs, 1, none⟩ = some (.string (nu (fsum (l.take (i + 1))))) ∧ u.cell? ⟨gs, 2, none⟩ = some (.string (de (fsum (l.take (i + 1)))))) (by kernel_rfl) (HELD.out _ HK.out) (fun hSd => ?_)
      clear HK2
      generalize W.drew = u0 at *
      generalize sgn (fsum (l.take (i + 1))) = sn at *
      generalize nu (fsum (l.take (i + 1))) = sx at *
      generalize de (fsum (l.take (i + 1))) = sy at *
      refine wpAnyH_take (i := 0) (oi := _) (v := .slice (some ⟨w.heap.size, 0, none⟩) l.length l.length) rfl (by kernel_rfl) (by kernel_rfl) (by kernel_rfl) (fun _ _ _ h => h) (Or.inl ⟨by rfl, ?_⟩) (by assumption) ?_
      · intro u' hSu
        (try simp only [List.getElem_toArray, List.getElem_cons_zero])
        go_simp
      (try simp only [List.getElem_toArray, List.getElem_cons_zero])
      (try simp only [Act.put, List.setIfInBounds_toArray, List.set_cons_zero, List.set_cons_succ])
      refine wpAnyH_take (i := 1) (oi := _) (v := .int .i64 (i : Nat)) rfl (by kernel_rfl) (by kernel_rfl) (by kernel_rfl) (fun _ _ _ h => h) (Or.inl ⟨by rfl, ?_⟩) (by assumption) ?_
      · intro u' hSu
        (try simp only [List.getElem_toArray, List.getElem_cons_zero, List.getElem_cons_succ])
        go_simp
      (try simp only [List.getElem_toArray, List.getElem_cons_zero, List.getElem_cons_succ])
      (try simp only [Act.put, List.setIfInBounds_toArray, List.set_cons_zero, List.set_cons_succ])
      refine wpAnyH_take (i := 2) (oi := _) (v := .agg #[.bool sn, .string sx, .string sy]) rfl (by kernel_rfl) (by kernel_rfl) (by kernel_rfl) (fun _ _ _ h => h) (Or.inl ⟨by rfl, ?_⟩) (by assumption) ?_
      · intro u' hSu
        (try simp only [List.getElem_toArray, List.getElem_cons_zero, List.getElem_cons_succ])
        obtain ⟨s0, s1, s2⟩ := hSu
        go_simp
      (try simp only [List.getElem_toArray, List.getElem_cons_zero, List.getElem_cons_succ])
      (try simp only [Act.put, List.setIfInBounds_toArray, List.set_cons_zero, List.set_cons_succ])
      refine wpAnyH_take (i := 3) (oi := _) (v := .int .i64 (m : Nat)) rfl (by kernel_rfl) (by kernel_rfl) (by kernel_rfl) (fun _ _ _ h => h) (Or.inl ⟨by rfl, ?_⟩) (by assumption) ?_
      · intro u' hSu
        (try simp only [List.getElem_toArray, List.getElem_cons_zero, List.getElem_cons_succ])
        go_simp
      (try simp only [List.getElem_toArray, List.getElem_cons_zero, List.getElem_cons_succ])
      (try simp only [Act.put, List.setIfInBounds_toArray, List.set_cons_zero, List.set_cons_succ])
      refine wpAnyH_ready (rs := [4]) (by kernel_rfl) (by simp) (AllReadyH.cons rfl ?_ (AllReadyH.nil))
      · intro K' hK'
        (try simp only [List.getElem_toArray, List.getElem_cons_zero, List.getElem_cons_succ])
        go_simp
        refine (HOF.out _).mono ?_
        rintro e u1 ⟨rfl, hb⟩
        replace HK := hid (HK.out.step hb)
        refine hK'.out _ _ (HELD.out _ HK.out) (fun hSe => ?_)
        clear hK' K' hSd
        have hSd := hSe
        clear hSe hb
        (try simp only [List.getElem_toArray, List.getElem_cons_zero, List.getElem_cons_succ])
        (try simp only [Act.put, List.setIfInBounds_toArray, List.set_cons_zero, List.set_cons_succ])
        refine wpAnyH_ready (rs := [5]) (by kernel_rfl) (by simp) (AllReadyH.cons rfl ?_ (AllReadyH.nil))
        · intro K' hK'
          (try simp only [List.getElem_toArray, List.getElem_cons_zero, List.getElem_cons_succ])
          go_simp
          refine (HMU.out _).mono ?_
          rintro e u2 ⟨rfl, hb⟩
          replace HK := hid (HK.out.step hb)
          refine hK'.out _ _ (HELD.out _ HK.out) (fun hSe => ?_)
          clear hK' K' hSd
          have hSd := hSe
          clear hSe hb
          (try simp only [List.getElem_toArray, List.getElem_cons_zero, List.getElem_cons_succ])
          (try simp only [Act.put, List.setIfInBounds_toArray, List.set_cons_zero, List.set_cons_succ])
          refine wpAnyH_ready (rs := [6]) (by kernel_rfl) (by simp) (AllReadyH.cons rfl ?_ (AllReadyH.nil))
          · intro K' hK'
            (try simp only [List.getElem_toArray, List.getElem_cons_zero, List.getElem_cons_succ])
            go_simp
            refine (HRU.out _).mono ?_
            rintro e u3 ⟨rfl, hb⟩
            replace HK := hid (HK.out.step hb)
            refine hK'.out _ _ (HELD.out _ HK.out) (fun hSe => ?_)
            clear hK' K' hSd
            have hSd := hSe
            clear hSe hb
            (try simp only [List.getElem_toArray, List.getElem_cons_zero, List.getElem_cons_succ])
            (try simp only [Act.put, List.setIfInBounds_toArray, List.set_cons_zero, List.set_cons_succ])
            refine wpAnyH_take (i := 7) (oi := _) (v := .pointer (some ⟨w.heap.size, i, none⟩)) rfl (by kernel_rfl) (by kernel_rfl) (by kernel_rfl) (fun _ _ _ h => h) (Or.inl ⟨by rfl, ?_⟩) (by assumption) ?_
            · intro u' hSu
              (try simp only [List.getElem_toArray, List.getElem_cons_zero, List.getElem_cons_succ])
              go_simp
            (try simp only [List.getElem_toArray, List.getElem_cons_zero, List.getElem_cons_succ])
            (try simp only [Act.put, List.setIfInBounds_toArray, List.set_cons_zero, List.set_cons_succ])
            have k0 := HK.out.row.cell i (by rw [partD_length _ (by omega)]; omega)
            have f0 := HK.out.row.fz i
            refine wpAnyH_ready (rs := [8]) (by kernel_rfl) (by simp) (AllReadyH.cons rfl ?_ (AllReadyH.nil))
            · intro K' hK'
              (try simp only [List.getElem_toArray, List.getElem_cons_zero, List.getElem_cons_succ])
              go_simp
              refine hK'.out _ _ (HELP.out _ _ (HK.out.put hne hG i cn)) (fun _ => wpAnyH_done (by kernel_rfl) ?_ _)
              clear hK' K' hSd
              replace HK := hid (HK.out.put hne hG i cn)
              clear k0 f0
              go_wp2
              go_roundw
              case rel => exact ⟨i + 1, by omega, by go_num, by rw [← HPS.out]; exact HK⟩
              case measure => simp [intOf]; omega
    · obtain rfl : i = l.length := by omega
      have hfin := HK.out.row
      rw [← hsl, partD_all] at hfin
      have HFI := hid hfin
      clear hfin
      go_wp2
      go_ret
      exact ⟨w.heap.size, rfl, HFI.out, HK.out.bel⟩

set_option maxRecDepth 100000 in
set_option maxHeartbeats 400000 in
theorem drawn1_any (q : Int) (k B : Nat) (w : World) (hc : w.cell? ⟨B, 0, none⟩ = some (.int .i64 (k : Nat))) :
    Calls Tryd.prog 28 #[.int .i64 q, .pointer (some ⟨B, 0, none⟩)] w fun e w' => e = .returned (.bool (decide ((k : Int) < q))) ∧ Below w.heap.size w w' := by
  go_enter Tryd.func28, Tryd.ntmps28
  go_wp2
  go_ret
  exact ⟨rfl, Below.refl _ _⟩

set_option maxRecDepth 100000 in
set_option maxHeartbeats 400000 in
theorem drawn_any (a : Option Addr) (ca k n : Nat) (ds : List Nat) (hds : ds.length = n) (w : World) (h : IntS w a (iL ds)) (hn : ds.length ≤ 10000) (hex : ∃ i, ∃ h : i < ds.length, k < ds[i]) :
    Calls Tryd.prog 14 #[.slice a n ca, .int .i64 (k : Nat)] w fun e w' => ∃ j : Nat, e = .returned (.int .i64 (j : Nat)) ∧ (∃ h : j < ds.length, k < ds[j]) ∧ (∀ i (h : i < ds.length), i < j → ¬ k < ds[i]) ∧ Below w.heap.size w w' := by
  have hA := (Below.refl w.heap.size w).alloc (Nat.le_refl _) (.cells #[.int .i64 (k : Nat)] 3)
  have hx := Boxed.new w 3 (.int .i64 (k : Nat))
  have HC := hid (idxFI_first a ca 28 n #[.pointer (some ⟨w.heap.size, 0, none⟩)] (iL ds) (by rw [iL_length]; exact hds) (fun q => decide ((k : Int) < q)) _ (h.below hA) (by rw [iL_length]; exact hn) (by
    obtain ⟨i, hi, hk⟩ := hex
    exact ⟨i, by rw [iL_length]; exact hi, by simp [iL]; exact hk⟩) (enters_of Tryd.func28 (by kernel_rfl) rfl) (fun q _ U hU => drawn1_any q k w.heap.size U ((hU.cell (p := ⟨w.heap.size, 0, none⟩) hx.lt).trans hx.cell)))
  have HA := hid hA
  clear h hA hx hex
  go_enter Tryd.func14, Tryd.ntmps14
  go_wp2_with fail
  refine HC.out.mono ?_
  rintro e w2 ⟨j, rfl, hj, hf, hb2⟩
  have HB := hid (HA.out.trans (hb2.mono HA.out.size))
  have HJ : Hid (∃ h : j < ds.length, k < ds[j]) := by
    obtain ⟨h1, h2⟩ := hj
    rw [iL_length] at h1
    exact ⟨h1, by simp [iL] at h2; exact h2⟩
  have HI : Hid (∀ i (h : i < ds.length), i < j → ¬ k < ds[i]) := fun i h hij => by
    have h2 := hf i (by rw [iL_length]; exact h) hij
    simp [iL] at h2
    omega
  clear hb2 hj hf
  go_wp2
  go_ret
  exact ⟨j, rfl, HJ.out, HI.out, HB.out⟩

set_option maxRecDepth 100000 in
set_option maxHeartbeats 400000 in
theorem isDie_yes (k m : Nat) (w : World) (h1 : 1 ≤ m) (h2 : m ≤ 1000000) (h3 : k < m) :
    Calls Tryd.prog 13 #[.int .i64 (k : Nat), .int .i64 (m : Nat)] w fun e w' => e = .returned (.bool true) ∧ w' = w := by
  go_enter Tryd.func13, Tryd.ntmps13
  go_wp2
  go_ret
  exact ⟨by simp, rfl⟩

set_option maxRecDepth 100000 in
set_option maxHeartbeats 400000 in
/-- walk.Draw, of chances and a die that there is. -/
theorem draw_yes (a : Option Addr) (ca k m : Nat) (l : List Fr) (w : World) (h : FrS w a l) (hw : fw l ≤ 10000) (hn : l.length ≤ 10000) (hr : rowB l = true) (h1 : 1 ≤ m) (h2 : m ≤ 1000000) (h3 : k < m) :
    Calls Tryd.prog 7 #[.slice a l.length ca, .int .i64 (k : Nat), .int .i64 (m : Nat)] w fun e w' => ∃ j : Nat, e = .returned (.tuple #[.int .i64 (j : Nat), .int .i64 0]) ∧ DrwN l m k j ∧ Below w.heap.size w w' := by
  have hlow : ∀ f ∈ l, 0 ≤ frv f := fun f hf => by
    rw [rowB, Bool.and_eq_true] at hr
    have := of_decide_eq_true (List.all_eq_true.1 hr.1 f hf)
    exact Rat.not_lt.1 this
  have hone : fsum l = 1 := by
    rw [rowB, Bool.and_eq_true] at hr
    exact of_decide_eq_true hr.2
  have HA := hid (areCh_any a ca l w h hw hn)
  rw [hr] at HA
  have HI := hid (fun V : World => isDie_yes k m V h1 h2 h3)
  have HS := hid (fun (V : World) (hV : FrS V a l) => shares_any a ca m l V hV hw hn hlow hone h2)
  have HD := hid (fun (b : Option Addr) (cb : Nat) (V : World) (hV : IntS V b (iL (shN l m))) => drawn_any b cb k l.length (shN l m) (shN_length l m) V hV (by rw [shN_length]; exact hn) (shN_ex hlow hone h3))
  have HDR := hid (fun (j : Nat) (hj : j < (shN l m).length) h1 h2 => shN_drw (l := l) hlow (m := m) (k := k) (j := j) hj h1 h2)
  have HF := hid h
  generalize shN l m = ds at *
  clear h hw hr hlow hone
  go_enter Tryd.func7, Tryd.ntmps7
  go_wp2_with fail
  refine HA.out.mono ?_
  rintro e w1 ⟨rfl, hb1⟩
  have HB1 := hid hb1
  clear hb1
  go_wp2_with fail
  refine (HI.out _).mono ?_
  rintro e w2 ⟨rfl, rfl⟩
  go_wp2_with fail
  refine (HS.out _ (HF.out.below HB1.out)).mono ?_
  rintro e w3 ⟨G, rfl, hG, hb3⟩
  have HB3 := hid (HB1.out.trans (hb3.mono HB1.out.size))
  have HGI := hid hG.ints
  clear hG hb3
  go_wp2_with fail
  refine (HD.out _ _ _ HGI.out).mono ?_
  rintro e w4 ⟨j, rfl, hj, hf, hb4⟩
  have HB4 := hid (HB3.out.trans (hb4.mono HB3.out.size))
  have HJ : Hid (DrwN l m k j) := by
    obtain ⟨h1, h2⟩ := hj
    exact HDR.out j h1 h2 hf
  clear hj hf hb4
  go_wp2
  go_ret2
  exact ⟨j, rfl, HJ.out, HB4.out⟩
end Go.Proofs.YtnnfmfdjgdgdhaaDoor


/- Package table: the closures of Fix and Out. -/
namespace Go.Proofs.YtnnfmfdjgdgdhaaDoor
open Go.RowKit Go.Shelf

end Go.Proofs.YtnnfmfdjgdgdhaaDoor


/- Package table: Fix. -/
namespace Go.Proofs.YtnnfmfdjgdgdhaaDoor
open Go.RowKit Go.Shelf

theorem up_iff {l : List Int} {n : Nat} : Up l n ↔ (∀ x ∈ l, 0 ≤ x ∧ x < n) ∧ l.Pairwise (· < ·) := by
  constructor
  · intro h
    refine ⟨fun x hx => ?_, List.pairwise_iff_getElem.2 fun i j hi hj hij => h.lt i j hj hij⟩
    obtain ⟨i, hi, rfl⟩ := List.getElem_of_mem hx
    exact h.each i hi
  · rintro ⟨h1, h2⟩
    exact ⟨fun i hi => h1 _ (List.getElem_mem hi), fun i j hj hi => List.pairwise_iff_getElem.1 h2 i j (by omega) hj hi⟩
theorem lessN_up {vars : List Int} {n : Nat} (h : Up vars n) (v : Int) : Up (lessN vars v) n := by
  rw [up_iff] at h ⊢
  exact ⟨fun x hx => h.1 x (List.mem_filter.1 hx).1, h.2.filter _⟩
theorem lessN_out {vars : List Int} {n v : Nat} (h : Up vars n) : ¬ v ∈ toN (lessN vars (v : Int)) := fun hm => by
  obtain ⟨x, hx, e⟩ := List.mem_map.1 hm
  have h1 := (up_iff.1 (lessN_up h v)).1 x hx
  have h2 := (List.mem_filter.1 hx).2
  simp at h2
  omega
theorem fixL_length (S vars rest : List Nat) (v x : Nat) (l : List Fr) : (fixL S vars rest v x l).length = cnt S rest := by simp [fixL]
theorem fixL_get (S vars rest : List Nat) (v x : Nat) (l : List Fr) {k : Nat} (h : k < (fixL S vars rest v x l).length) : (fixL S vars rest v x l)[k] = qF (frQ (celF l (pos S (withV (asg S rest k) v x) vars))) := by simp [fixL]
/-- The place of an assignment with one more value is a place. -/
theorem with_lt {sizes vars rest : List Int} {v x K m : Nat} (hk : checkA sizes vars m = 0) (hK : K < cnt (toN sizes) (toN rest)) (hx : x < sz (toN sizes) v) : pos (toN sizes) (withV (asg (toN sizes) (toN rest) K) v x) (toN vars) < m := by
  obtain ⟨h1, h2, h3⟩ := checkA_parts hk
  rw [h3]
  exact pos_lt _ (withV_lt (fun u => asg_lt h1.pos _ _ u hK) hx) _
end Go.Proofs.YtnnfmfdjgdgdhaaDoor


/- Package table: the closure of Out. -/
namespace Go.Proofs.YtnnfmfdjgdgdhaaDoor
open Go.RowKit Go.Shelf

theorem fits_mono {m n : Nat} {q : Rat} (h : Fits m q) (hm : m ≤ n) : Fits n q := by
  obtain ⟨A, D, h1, h2, h3, h4⟩ := h
  exact ⟨A, D, h1, h2, Nat.lt_of_lt_of_le h3 (pow_mono hm), Nat.lt_of_lt_of_le h4 (pow_mono hm)⟩
theorem great_one (f g : Fr) : great f g = f ∨ great f g = g := by
  rw [great]
  by_cases h : cmpQ (frQ f) (frQ g) < 0
  · rw [if_pos h]; exact .inr rfl
  · rw [if_neg h]; exact .inl rfl
theorem qF_size (q : Rat) : (qF q).2.1.size + (qF q).2.2.size = qw q := rfl
theorem outN_fits (most : Bool) (T : Nat → Fr) : ∀ k, (∀ x, x ≤ k → (T x).2.1.size + (T x).2.2.size + 2 ≤ 8192) → Fits ((k + 1) * 8192) (frQ (outN most T k))
  | 0, h => fits_mono (fits_val _ _ _) (by have := h 0 (Nat.le_refl _); show (T 0).2.1.size + (T 0).2.2.size + 1 ≤ _; omega)
  | k + 1, h => by
    have h1 := outN_fits most T k fun x hx => h x (by omega)
    have h2 : Fits 8191 (frQ (T (k + 1))) := fits_mono (fits_val _ _ _) (by have := h (k + 1) (Nat.le_refl _); omega)
    rw [outN]
    cases most with
    | true =>
      rw [if_pos rfl]
      rcases great_one (outN true T k) (T (k + 1)) with e | e
      · rw [e]; exact fits_mono h1 (by omega)
      · rw [e]; exact fits_mono h2 (by omega)
    | false =>
      rw [if_neg (by decide), frQ_qF]
      exact fits_mono (fits_add h1 h2) (by omega)
theorem out_ar1 (k : Nat) : 2 * ((k + 1) * 8192) ≤ 2 * ((k + 1 + 1) * 8192) := by omega
theorem out_ar2 (k : Nat) : 8192 ≤ 2 * ((k + 1 + 1) * 8192) := by omega
theorem great_size {f g : Fr} {A : Nat} (h1 : f.2.1.size + f.2.2.size ≤ A) (h2 : g.2.1.size + g.2.2.size ≤ A) : (great f g).2.1.size + (great f g).2.2.size ≤ A := by
  rcases great_one f g with e | e
  · rw [e]; exact h1
  · rw [e]; exact h2
theorem outN_size (most : Bool) (T : Nat → Fr) : ∀ k, (∀ x, x ≤ k → (T x).2.1.size + (T x).2.2.size + 2 ≤ 8192) → (outN most T k).2.1.size + (outN most T k).2.2.size ≤ 2 * ((k + 1) * 8192)
  | 0, h => by have := h 0 (Nat.le_refl _); rw [outN]; omega
  | k + 1, h => by
    have h1 := outN_size most T k fun x hx => h x (by omega)
    have h2 := h (k + 1) (Nat.le_refl _)
    have h3 := outN_fits most T (k + 1) h
    rw [outN] at h3 ⊢
    cases most with
    | true =>
      rw [if_pos rfl]
      exact great_size (Nat.le_trans h1 (out_ar1 k)) (Nat.le_trans (Nat.le_trans (Nat.le_add_right _ 2) h2) (out_ar2 k))
    | false =>
      rw [if_neg (by decide)] at h3 ⊢
      rw [frQ_qF] at h3
      have h4 := fits_qw h3
      rw [qF_size]
      exact h4
/-- A way to make two fractions one. -/
def Pairs (most : Bool) (pf : Nat) : Prop := (∀ args w, (callFunc pf args).run Tryd.prog w = .ok (.enter pf args) w) ∧ ∀ (f g : Fr) (V : World), f.2.1.size + f.2.2.size ≤ 100000 → g.2.1.size + g.2.2.size ≤ 100000 → Calls Tryd.prog pf #[frV f, frV g] V fun e w' => e = .returned (frV (if most then great f g else qF (frQ f + frQ g))) ∧ Below V.heap.size V w'
theorem pairs_sum : Pairs false 29 := ⟨enters_of Tryd.func29 (by kernel_rfl) rfl, fun f g V h1 h2 => fAdd_q (n := f.1) (m := g.1) (x := f.2.1) (y := f.2.2) (u := g.2.1) (v := g.2.2) (w := V) (frQ f + frQ g) rfl rfl rfl h1 h2⟩
end Go.Proofs.YtnnfmfdjgdgdhaaDoor


/- Package table: Out. -/
namespace Go.Proofs.YtnnfmfdjgdgdhaaDoor
open Go.RowKit Go.Shelf

theorem outL_length (S vars rest : List Nat) (v : Nat) (most : Bool) (l : List Fr) : (outL S vars rest v most l).length = cnt S rest := by simp [outL]
theorem outL_get (S vars rest : List Nat) (v : Nat) (most : Bool) (l : List Fr) {k : Nat} (h : k < (outL S vars rest v most l).length) : (outL S vars rest v most l)[k] = qF (frQ (outN most (fun x => celF l (pos S (withV (asg S rest k) v x) vars)) (sz S v - 1))) := by simp [outL]

end Go.Proofs.YtnnfmfdjgdgdhaaDoor

