/- Rows of chances: isRow of package net. -/
import Derived.Test.YtojidhnkpeiimaaGreatDoorSumAToNameD
import Derived.Test.YtojidhnkpeiimaaGreatDoorIterBToNetC
import Derived.Laws.EntriesVeiled
import Derived.Test.YtojidhnkpeiimaaGreatDoorFracAToRefS
import Derived.Deep.QuietTactic
import Derived.BigQuiet
import Derived.Shelf.Slices.CompactI
import Derived.Test.YtojidhnkpeiimaaGreatDoorTabR1ToSetA
import Derived.Test.YtojidhnkpeiimaaGreatDoorCore1ToTextB
import Derived.Lib.ItoaNum
import Derived.Test.YtojidhnkpeiimaaGreatDoorRefEToNumR
import Derived.Lib.ItoaMem
namespace Go.Proofs.YtojidhnkpeiimaaGreatDoor
open Go.RowKit Go.Shelf
def rowB (l : List Fr) : Bool := (l.all fun f => decide (¬ frQ f < 0)) && decide (fsum l = 1)
theorem cmp_below {p : Rat} : cmpQ p 0 < 0 ↔ p < 0 := by
  rw [cmpQ]
  by_cases h : p < 0
  · rw [if_pos h]; exact ⟨fun _ => h, fun _ => by decide⟩
  · rw [if_neg h]
    by_cases e : p = 0
    · rw [if_pos e]; exact ⟨fun h => absurd h (by decide), fun h' => absurd h' h⟩
    · rw [if_neg e]; exact ⟨fun h => absurd h (by decide), fun h' => absurd h' h⟩
theorem cmp_same {p : Rat} : (cmpQ p 1 == 0) = decide (p = 1) := by
  rw [Bool.eq_iff_iff, beq_iff_eq, decide_eq_true_iff, cmpQ]
  by_cases h : p < 1
  · rw [if_pos h]; exact ⟨fun h => absurd h (by decide), fun e => by rw [e] at h; exact absurd h (by decide)⟩
  · rw [if_neg h]
    by_cases e : p = 1
    · rw [if_pos e]; exact ⟨fun _ => e, fun _ => rfl⟩
    · rw [if_neg e]; exact ⟨fun h => absurd h (by decide), fun h' => absurd h' e⟩
theorem rowB_neg {l : List Fr} {i : Nat} (h : i < l.length) (e : frQ l[i] < 0) : rowB l = false := by
  have : (l.all fun f => decide (¬ frQ f < 0)) = false := by
    rw [List.all_eq_false]; exact ⟨l[i], List.getElem_mem h, by simpa using e⟩
  rw [rowB, this]; rfl
theorem rowB_all {l : List Fr} (h : ∀ i (hi : i < l.length), ¬ frQ l[i] < 0) : rowB l = decide (fsum l = 1) := by
  have : (l.all fun f => decide (¬ frQ f < 0)) = true := by
    rw [List.all_eq_true]
    intro f hf
    obtain ⟨i, hi, rfl⟩ := List.getElem_of_mem hf
    exact decide_eq_true (h i hi)
  rw [rowB, this, Bool.true_and]
theorem qw_one2 : qw 1 ≤ 2 := by
  show (B 1).size + (B 1).size ≤ 2
  have := B_one_size
  omega
theorem fw_each {l : List Fr} {i : Nat} (h : i < l.length) (hw : fw l ≤ 10000) : l[i].2.1.size + l[i].2.2.size ≤ 10000 := by have := fw_mem (List.getElem_mem h); omega
set_option maxRecDepth 100000 in
set_option maxHeartbeats 1000000 in
theorem isRow_any (a : Option Addr) (ca : Nat) (l : List Fr) (w : World) (h : FrS w a l) (hw : fw l ≤ 10000) (hn : l.length ≤ 10000) :
    Calls Tryz.prog 48 #[.slice a l.length ca] w fun e w' => e = .returned (.bool (rowB l)) ∧ Below w.heap.size w w' := by
  have HF := hid h
  have HW := hid hw
  have HO := hid (fun V : World => fOf_q (k := 0) (w := V) 0 0 rfl (by decide) (by rfl))
  have HO1 := hid (fun V : World => fOf_q (k := 1) (w := V) 1 1 rfl (by decide) (by rfl))
  have HS := hid (fun (V : World) (hV : FrS V a l) => fSum_any a ca l V hV hw hn)
  have HN := hid (fun i h e => rowB_neg (l := l) (i := i) h e)
  have HA := hid (fun h => rowB_all (l := l) h)
  have HQ : Hid (val (sgn (fsum l)) (nu (fsum l)) (de (fsum l)) = fsum l ∧ (nu (fsum l)).size + (de (fsum l)).size ≤ 100000) := ⟨val_own _, by
    have h1 := fits_qw (fits_sum l)
    rw [own_size]
    omega⟩
  have HZ : Hid (val (sgn 0) (nu 0) (de 0) = 0 ∧ (nu 0).size + (de 0).size ≤ 100000) := ⟨val_own _, by have := qw_zero; rw [own_size]; omega⟩
  have H1 : Hid (val (sgn 1) (nu 1) (de 1) = 1 ∧ (nu 1).size + (de 1).size ≤ 100000) := ⟨val_own _, by
    have h1 : qw 1 ≤ 2 := qw_one2
    rw [own_size]
    omega⟩
  generalize rowB l = rb at *
  clear h hw
  simp only [C] at HO HO1 HS
  generalize sgn 0 = zn at *
  generalize nu 0 = zx at *
  generalize de 0 = zy at *
  generalize sgn 1 = on at *
  generalize nu 1 = ox at *
  generalize de 1 = oy at *
  go_enter Tryz.func48, Tryz.ntmps48
  go_wp2_with fail
  refine (HO.out _).mono ?_
  rintro e w1 ⟨rfl, hb1⟩
  have HB0 := hid (hb1.alloc hb1.size (FC zn zx zy))
  have HZB := hid (Box.new w1 zn zx zy)
  have hw1 := hb1.size
  clear hb1
  go_wp2_with fail
  generalize (w1.alloc (FC zn zx zy)) = w2 at *
  generalize w1.heap.size = B at *
  go_loopw [9] (fun iv wr => ∃ i : Nat, i ≤ l.length ∧ iv = .int .i64 i ∧ Hid (∀ j (hj : j < l.length), j < i → ¬ frQ l[j] < 0) ∧ Hid (Box wr B zn zx zy) ∧ Hid (Below w.heap.size w wr)) (fun iv _ => l.length - (intOf iv).toNat)
  case atStart => exact ⟨0, Nat.zero_le _, rfl, fun j _ h => absurd h (by omega), HZB, HB0⟩
  case round =>
    obtain ⟨i, hi, rfl, HP, HX, HB⟩ := hrel
    clear HZB HB0
    by_cases hlt : i < l.length
    · obtain ⟨g, o, rfl, hg, c0, c1, c2⟩ := (HF.out.below HB.out) i hlt
      have hfe := fw_each hlt HW.out
      have HNi := hid (HN.out i hlt)
      have HPi : Hid (¬ frQ l[i] < 0 → ∀ j (hj : j < l.length), j < i + 1 → ¬ frQ l[j] < 0) := fun h j hj hji => by
        rcases Nat.lt_or_ge j i with h2 | h2
        · exact HP.out j hj h2
        · obtain rfl : j = i := by omega
          exact h
      generalize l[i] = f at *
      obtain ⟨fn, fx, fy⟩ := f
      simp only at c0 c1 c2 hfe
      have hbA := (Below.refl _ wr).alloc (Nat.le_refl _) (FC fn fx fy)
      obtain ⟨k0, k1, k2, -⟩ := (Box.new wr fn fx fy).facts
      have hXA := HX.out.below hbA HX.out.lt
      obtain ⟨z0, z1, z2, -⟩ := hXA.facts
      have HXA := hid hXA
      have HBA := hid (HB.out.trans (hbA.mono HB.out.size))
      clear hbA hXA
      go_wp2_with fail
      generalize (wr.alloc (FC fn fx fy)) = w3 at *
      refine (fCmp_q (w := w3) (cmpQ (val fn fx fy) 0) rfl HZ.out.1 rfl (by omega) HZ.out.2).mono ?_
      rintro e w4 ⟨rfl, hb4⟩
      have HX4 := hid (HXA.out.below hb4 HXA.out.lt)
      have HB4 := hid (HBA.out.trans (hb4.mono HBA.out.size))
      clear k0 k1 k2 z0 z1 z2 hb4
      by_cases hneg : val fn fx fy < 0
      · have HE := hid (HNi.out hneg)
        have hc : cmpQ (val fn fx fy) 0 < 0 := cmp_below.2 hneg
        clear hneg
        generalize cmpQ (val fn fx fy) 0 = q at *
        go_wp2
        go_ret
        exact ⟨by rw [HE.out]; rfl, HB4.out⟩
      · have HE := hid (HPi.out hneg)
        have hc : 0 ≤ cmpQ (val fn fx fy) 0 := by
          have : ¬ cmpQ (val fn fx fy) 0 < 0 := fun h => hneg (cmp_below.1 h)
          omega
        clear hneg
        generalize cmpQ (val fn fx fy) 0 = q at *
        go_wp2
        go_roundw
        case rel => exact ⟨i + 1, by omega, by go_num, HE, HX4, HB4⟩
        case measure => simp [intOf]; omega
    · obtain rfl : i = l.length := by omega
      have HE := hid (HA.out fun j hj => HP.out j hj hj)
      have HCS := hid (cmp_same (p := fsum l))
      generalize fsum l = s at *
      go_wp2_with fail
      refine (HS.out _ (HF.out.below HB.out)).mono ?_
      rintro e w5 ⟨rfl, hb5⟩
      have HB5 := hid (HB.out.trans (hb5.mono HB.out.size))
      clear hb5
      go_wp2_with fail
      refine (HO1.out _).mono ?_
      rintro e w6 ⟨rfl, hb6⟩
      have HB6 := hid (HB5.out.trans (hb6.mono HB5.out.size))
      clear hb6
      go_wp2_with fail
      refine (fCmp_q (w := w6) (cmpQ s 1) HQ.out.1 H1.out.1 rfl HQ.out.2 H1.out.2).mono ?_
      rintro e w7 ⟨rfl, hb7⟩
      have HB7 := hid (HB6.out.trans (hb7.mono HB6.out.size))
      clear hb7
      go_wp2
      go_ret
      exact ⟨by rw [HE.out, ← HCS.out]; rfl, HB7.out⟩
end Go.Proofs.YtojidhnkpeiimaaGreatDoor

/- Package graph: read, Check. -/
namespace Go.Proofs.YtojidhnkpeiimaaGreatDoor
open Go.RowKit Go.Shelf
theorem gB_parts {L : List (List Int)} (h : gB L = true) : 1 ≤ L.length ∧ L.length ≤ 8 ∧ allRis L L.length = true ∧ noSelf L = true := by
  rw [gB, Bool.and_eq_true, Bool.and_eq_true, decide_eq_true_iff] at h
  exact ⟨h.1.1.1, h.1.1.2, h.1.2, h.2⟩
theorem gB_par {L : List (List Int)} (h : gB L = true) : ∀ p ∈ parN L, ∀ u ∈ p, u < 8 := by
  obtain ⟨h1, h2, h3, h4⟩ := gB_parts h
  intro p hp
  obtain ⟨l, hl, rfl⟩ := List.mem_map.1 hp
  exact ris_all h2 (List.all_eq_true.1 h3 l hl)
set_option maxRecDepth 100000 in
set_option maxHeartbeats 1000000 in
theorem gRead_any (a : Option Addr) (ca : Nat) (L : List (List Int)) (w : World) (h : LsS w a L) (hl : ∀ l ∈ L, l.length ≤ 140737488355328) :
    Calls Tryz.prog 42 #[.slice a L.length ca] w fun e w' => Below w.heap.size w w' ∧
      ((gcE L = 0 ∧ ∃ G, e = .returned (.tuple #[.slice (some ⟨G, 0, none⟩) L.length L.length, .int .i64 0]) ∧ w.heap.size ≤ G ∧ RowU w' G (masks L)) ∨ (gcE L ≠ 0 ∧ e = .returned (.tuple #[.slice none 0 0, .int .i64 (gcE L)]))) := by
  have HF := hid h
  have HR := hid (fun (V : World) (hV : LsS V a L) => readOthers_any a ca L V hV hl)
  have HG1 : Hid (gB L = false → gcE L = 11) := fun h => if_neg (by rw [h]; decide)
  have HG2 : Hid (gB L = true → (ordN (parN L) L.length).length < L.length → gcE L = 10) := fun h1 h2 => by rw [gcE, if_pos h1, if_pos h2]
  have HG3 : Hid (gB L = true → ¬ (ordN (parN L) L.length).length < L.length → gcE L = 0) := fun h1 h2 => by rw [gcE, if_pos h1, if_neg h2]
  have HO : Hid (gB L = true → ∀ (G c : Nat) (V : World), RowU V G (masks L) → Calls Tryz.prog 65 #[.slice (some ⟨G, 0, none⟩) L.length c] V fun e w' => ∃ x, e = .returned x ∧ RwI w' V.heap.size x (iL (ordN (parN L) L.length)) ∧ Below V.heap.size V w') := fun hg G c V hV => by
    have h8 := (gB_parts hg).2.1
    have := order_any G c (parN L) V (by rw [← masks_par]; exact hV) (by rw [parN_length]; exact h8) (gB_par hg)
    rwa [parN_length] at this
  generalize gcE L = ge at *
  generalize masks L = ms at *
  clear h hl
  go_enter Tryz.func42, Tryz.ntmps42
  go_wp2_with fail
  refine (HR.out _ HF.out).mono ?_
  rintro e w1 ⟨hb, ⟨hg, G, rfl, hG, hU⟩ | ⟨hg, v, rfl⟩⟩
  · have HUU := hid hU
    have HOG := hid (HO.out hg G L.length)
    have HB := hid hb
    have HGG := hid hg
    clear hU hb hg HO HR
    go_wp2_with fail
    refine (HOG.out _ HUU.out).mono ?_
    rintro e w2 ⟨x, rfl, hx, hb2⟩
    obtain ⟨d, cd, rfl, _⟩ := hx.ints
    have HB2 := hid (HB.out.trans (hb2.mono HB.out.size))
    have HU2 := hid (HUU.out.below hb2 HUU.out.lt)
    have HLL : Hid ((iL (ordN (parN L) L.length)).length = (ordN (parN L) L.length).length) := iL_length _
    clear hx hb2
    by_cases hlt : (ordN (parN L) L.length).length < L.length
    · have HE := hid (HG2.out HGG.out hlt)
      have hlt' : (iL (ordN (parN L) L.length)).length < L.length := by rw [HLL.out]; exact hlt
      clear hlt
      generalize (iL (ordN (parN L) L.length)).length = m at *
      go_wp2
      go_ret2
      exact ⟨HB2.out, .inr ⟨by rw [HE.out]; decide, by rw [HE.out]; rfl⟩⟩
    · have HE := hid (HG3.out HGG.out hlt)
      have hlt' : ¬ (iL (ordN (parN L) L.length)).length < L.length := by rw [HLL.out]; exact hlt
      clear hlt
      generalize (iL (ordN (parN L) L.length)).length = m at *
      go_wp2
      go_ret2
      exact ⟨HB2.out, .inl ⟨HE.out, G, rfl, hG, HU2.out⟩⟩
  · have HE := hid (HG1.out hg)
    have HB := hid hb
    clear hg hb
    go_wp2
    go_ret2
    exact ⟨HB.out, .inr ⟨by rw [HE.out]; decide, by rw [HE.out]; rfl⟩⟩
set_option maxRecDepth 100000 in
set_option maxHeartbeats 1000000 in
theorem gCheck_any (a : Option Addr) (ca : Nat) (L : List (List Int)) (w : World) (h : LsS w a L) (hl : ∀ l ∈ L, l.length ≤ 140737488355328) :
    Calls Tryz.prog 23 #[.slice a L.length ca] w fun e w' => e = .returned (.int .i64 (gcE L)) ∧ Below w.heap.size w w' := by
  have HF := hid h
  have HR := hid (fun (V : World) (hV : LsS V a L) => gRead_any a ca L V hV hl)
  generalize gcE L = ge at *
  clear h hl
  go_enter Tryz.func23, Tryz.ntmps23
  go_wp2_with fail
  refine (HR.out _ HF.out).mono ?_
  rintro e w1 ⟨hb, ⟨rfl, G, rfl, hG, hU⟩ | ⟨hg, rfl⟩⟩
  · clear hU
    go_wp2
    go_ret
    exact ⟨rfl, hb⟩
  · clear hg
    go_wp2
    go_ret
    exact ⟨rfl, hb⟩
end Go.Proofs.YtojidhnkpeiimaaGreatDoor

/- Package table: Fix. -/
namespace Go.Proofs.YtojidhnkpeiimaaGreatDoor
open Go.RowKit Go.Shelf
theorem up_iff {l : List Int} {n : Nat} : Up l n ↔ (∀ x ∈ l, 0 ≤ x ∧ x < n) ∧ l.Pairwise (· < ·) := by
  constructor
  · intro h
    refine ⟨fun x hx => ?_, List.pairwise_iff_getElem.2 fun i j hi hj hij => h.lt i j hj hij⟩
    obtain ⟨i, hi, rfl⟩ := List.getElem_of_mem hx
    exact h.each i hi
  · rintro ⟨h1, h2⟩
    exact ⟨fun i hi => h1 _ (List.getElem_mem hi), fun i j hj hi => List.pairwise_iff_getElem.1 h2 i j (by omega) hj hi⟩
end Go.Proofs.YtojidhnkpeiimaaGreatDoor

/- The document's answer: tables that grow cell by cell. -/
namespace Go.Proofs.YtojidhnkpeiimaaGreatDoor
open Go.RowKit Go.Shelf
def RwF (w : World) (B : Nat) (v : Value) (l : List Fr) : Prop := w.ownsRow B 58 3 v l.length (frC l)
theorem RwF.empty (w : World) (B : Nat) : RwF w B (.slice none 0 0) [] := ⟨rfl, .inl ⟨rfl, rfl⟩⟩
theorem RwF.below {w w' : World} {B : Nat} {v : Value} {l : List Fr} (h : RwF w B v l) (hb : Below w.heap.size w w') : RwF w' B v l := by
  refine ⟨h.1, h.2.imp id ?_⟩
  rintro ⟨g, cap, cur, h1, h2, h3, h4⟩
  exact ⟨g, cap, cur, h1, h2, (hb.block g (Array.getElem?_eq_some_iff.1 h3).1).trans h3, h4⟩
theorem RwF.own {w : World} {B : Nat} {v : Value} {l : List Fr} (h : RwF w B v l) : ∀ k, v.ownBlock = some k → B ≤ k := by
  intro k hk
  rcases h.2 with ⟨rfl, _⟩ | ⟨g, cap, cur, rfl, h2, _⟩
  · cases hk
  · cases hk
    exact h2
theorem RwF.fr {w : World} {B : Nat} {v : Value} {l : List Fr} (h : RwF w B v l) : ∃ d cd, v = .slice d l.length cd ∧ FrS w d l := by
  rcases h.2 with ⟨h1, h2⟩ | ⟨g, cap, cur, h1, h2, h3, h4, h5, h6, h7⟩
  · have : l = [] := List.length_eq_zero_iff.1 h2
    subst this
    exact ⟨none, 0, h1, fun k hk => absurd hk (by simp)⟩
  · refine ⟨_, _, h1, fun k hk => ?_⟩
    obtain ⟨e1, e2, e3⟩ := frC_get l k hk
    have at_ : ∀ j, j < l.length * 3 → cur[j]? = (frC l)[j]? := fun j hj => by
      rw [← h7, List.getElem?_take, if_pos hj, Array.getElem?_toList]
    refine ⟨g, 0, rfl, (Array.getElem?_eq_some_iff.1 h3).1, ?_, ?_, ?_⟩
    · rw [cell_of_row w g _ _ _ (0, 0) h3, Nat.zero_add, at_ _ (by omega)]; exact e1
    · rw [cell_of_row w g _ _ _ (0, 0) h3, Nat.zero_add, at_ _ (by omega)]; exact e2
    · rw [cell_of_row w g _ _ _ (0, 0) h3, Nat.zero_add, at_ _ (by omega)]; exact e3
theorem RwF.slv {w : World} {B : Nat} {v : Value} {l : List Fr} (h : RwF w B v l) : SlV v := by
  obtain ⟨d, cd, e, _⟩ := h.fr
  exact ⟨d, _, cd, e⟩
theorem frC_snoc (l : List Fr) (f : Fr) : frC (l ++ [f]) = frC l ++ [.bool f.1, .string f.2.1, .string f.2.2] := by
  induction l with
  | nil => rfl
  | cons x l ih => simp only [List.cons_append, frC, ih]
theorem wpList_append_fr {w : World} {ops : Array Oper} {rest : List Oper} {o : Oper} {a : Act} {Q : Exit → Act → World → Prop} (hgd : o.guard = none) (s x : Operand)
    (ho : o.op = .call { callee := .builtin .append, args := #[s, x], argTypes := #[51, 51] }) (base : Nat) (v : Value) (l : List Fr) (f : Fr) (hs : a.eval s = v) (hown : RwF w base v l) (g : Nat) (hx : a.eval x = .slice (some ⟨g, 0, none⟩) 1 1) (hg : Box w g f.1 f.2.1 f.2.2) (hlen : l.length + 1 ≤ 100000) (hbase : base ≤ w.heap.size)
    (h : ∀ v' w', RwF w' base v' (l ++ [f]) → w.grownBy w' v.ownBlock → wpList Tryz.prog ops Q rest (a.put o.dst v') w') : wpList Tryz.prog ops Q (o :: rest) a w := by
  obtain ⟨i0, hi0, hz0, hz1, hz2⟩ := info_parts Tryz.infoFrac
  refine wpList_append_own _ hgd s x 51 ho base 58 i0 (.agg #[.bool false, .string ⟨#[]⟩, .string ⟨#[]⟩]) 3 40 Tryz.underlying51 hi0 hz0 hz1 hz2 rfl (by decide) v l.length _ hs hown ⟨g, 0, none⟩ 1 1 [.bool f.1, .string f.2.1, .string f.2.2] hx rfl ?_ ?_ (by unfold maxLen; omega) (by omega) hbase ?_
  · intro j u hj
    match j, hj with
    | 0, hj => cases hj; exact hg.c0
    | 1, hj => cases hj; exact hg.c1
    | 2, hj => cases hj; exact hg.c2
    | j + 3, hj => simp at hj
  · intro u hu
    simp only [List.mem_cons, List.not_mem_nil, or_false] at hu
    rcases hu with rfl | rfl | rfl <;> rfl
  · intro v' w' h1 h2 _
    refine h v' w' ?_ h2
    rw [RwF, List.length_append, frC_snoc]
    exact h1
end Go.Proofs.YtojidhnkpeiimaaGreatDoor

/- The document's answer: Fix. -/
namespace Go.Proofs.YtojidhnkpeiimaaGreatDoor
open Go.RowKit Go.Shelf
theorem countB_of {sizes vars : List Int} (h1 : Fine sizes) (h2 : Up vars sizes.length) : countB sizes vars = true := by
  rw [countB, Bool.and_eq_true]
  constructor
  · rw [fitB, Bool.and_eq_true, decide_eq_true_iff]
    refine ⟨⟨h1.one, h1.eight⟩, List.all_eq_true.2 fun x hx => ?_⟩
    obtain ⟨i, hi, rfl⟩ := List.getElem_of_mem hx
    rw [okSize, decide_eq_true_iff]
    exact h1.each i hi
  · rw [risB, List.all_eq_true]
    intro i hi
    have hi' := List.mem_range.1 hi
    rw [okAt, decide_eq_true_iff, getD_eq hi']
    refine ⟨(h2.each i hi').1, (h2.each i hi').2, fun h0 => ?_⟩
    rw [getD_eq (show i - 1 < vars.length by omega)]
    exact h2.lt (i - 1) i hi' (by omega)
theorem rCount_in (a b : Option Addr) (ca cb : Nat) (sizes vars : List Int) (w : World) (hs : IntS w a sizes) (hv : IntS w b vars) (hfi : Fine sizes) (hup : Up vars sizes.length) :
    Calls Tryz.prog 15 #[.slice a sizes.length ca, .slice b vars.length cb] w fun e w' => e = .returned (.tuple #[.int .i64 (cnt (toN sizes) (toN vars) : Nat), .int .i64 0]) ∧ Below w.heap.size w w' := by
  have h8 := hfi.eight
  have h9 := hup.length
  have h := rCount_any a b ca cb sizes vars w hs hv (by omega) (by omega)
  rw [countA_yes (countB_of hfi hup)] at h
  exact h
theorem Canon_r {n : Bool} {x y : ByteArray} {w : World} (s1 : x.size + y.size ≤ 100000) :
    Calls Tryz.prog 22 #[.agg #[.bool n, .string x, .string y]] w fun e w' => e = .returned (frV (qF (val n x y))) ∧ Below w.heap.size w w' := rCanon_any n x y w (by omega) (by omega)
end Go.Proofs.YtojidhnkpeiimaaGreatDoor

/- Nets: what is wrong with rows; the document's answer: NetCheck, as far as the names. -/
namespace Go.Proofs.YtojidhnkpeiimaaGreatDoor
open Go.RowKit Go.Shelf
def FsS (w : World) (a : Option Addr) (R : List (List Fr)) : Prop := ∀ k (h : k < R.length), ∃ g o b c, a = some ⟨g, o, none⟩ ∧ g < w.heap.size ∧ w.cell? ⟨g, o + k, none⟩ = some (.slice b R[k].length c) ∧ FrS w b R[k] ∧ R[k].length ≤ c
theorem FsS.below {w w' : World} {a : Option Addr} {R : List (List Fr)} (h : FsS w a R) (hb : Below w.heap.size w w') : FsS w' a R := fun k hk => by
  obtain ⟨g, o, b, c, h1, h2, h3, h4, h5⟩ := h k hk
  exact ⟨g, o, b, c, h1, Nat.lt_of_lt_of_le h2 hb.size, (hb.cell (p := ⟨g, o + k, none⟩) h2).trans h3, h4.below hb, h5⟩
def chunkF (l : List Fr) (k i : Nat) : List Fr := (l.drop (i * k)).take k
def rowE (S : List Nat) (L : List (List Int)) (R : List (List Fr)) (v : Nat) : Int :=
  if (R.getD v []).length = cnt S (toN (L.getD v [])) * sz S v then (if ((List.range (cnt S (toN (L.getD v [])))).all fun i => rowB (chunkF (R.getD v []) (sz S v) i)) = true then 0 else 9) else 8
def netE (V : List Vr) (L : List (List Int)) (R : List (List Fr)) : Int :=
  if L.length = V.length ∧ R.length = V.length then (if gcE L = 0 then (if varsE V = 0 then firstE (rowE (sizesN V) L R) V.length else varsE V) else gcE L) else 8
theorem FrS.chunk {w : World} {g o : Nat} {l : List Fr} {k i m : Nat} (h : FrS w (some ⟨g, o, none⟩) l) (hm : (i + 1) * k ≤ l.length) (hk : m = k) : FrS w (some ⟨g, o + i * k * 3, none⟩) (chunkF l k i) ∧ (chunkF l k i).length = m := by
  have hlen : (chunkF l k i).length = k := by
    rw [chunkF, List.length_take, List.length_drop]
    have : (i + 1) * k = i * k + k := by rw [Nat.add_mul, Nat.one_mul]
    omega
  refine ⟨fun j hj => ?_, by rw [hlen, hk]⟩
  have e : (i + 1) * k = i * k + k := by rw [Nat.add_mul, Nat.one_mul]
  rw [hlen] at hj
  obtain ⟨g', o', h1, h2, h3, h4, h5⟩ := h (i * k + j) (by omega)
  cases h1
  have ej : (chunkF l k i)[j]'(by rw [hlen]; exact hj) = l[i * k + j]'(by omega) := by
    simp only [chunkF, List.getElem_take, List.getElem_drop]
  refine ⟨g, o + i * k * 3, rfl, h2, ?_, ?_, ?_⟩
  · rw [ej, show o + i * k * 3 + j * 3 = o + (i * k + j) * 3 by rw [Nat.add_mul]; omega]; exact h3
  · rw [ej, show o + i * k * 3 + j * 3 = o + (i * k + j) * 3 by rw [Nat.add_mul]; omega]; exact h4
  · rw [ej, show o + i * k * 3 + j * 3 = o + (i * k + j) * 3 by rw [Nat.add_mul]; omega]; exact h5
theorem fw_chunk (l : List Fr) (k i : Nat) : fw (chunkF l k i) ≤ fw l := by
  have h1 := fw_take (l.drop (i * k)) k
  have h2 := fw_append (l.take (i * k)) (l.drop (i * k))
  rw [List.take_append_drop] at h2
  rw [chunkF]
  omega
def RwS (w : World) (B : Nat) (v : Value) (l : List ByteArray) : Prop := w.ownsRow B 9 1 v l.length (l.map Value.string)
theorem RwS.own {w : World} {B : Nat} {v : Value} {l : List ByteArray} (h : RwS w B v l) : ∀ k, v.ownBlock = some k → B ≤ k := by
  intro k hk
  rcases h.2 with ⟨rfl, _⟩ | ⟨g, cap, cur, rfl, h2, _⟩
  · cases hk
  · cases hk
    exact h2
theorem RwS.st {w : World} {B : Nat} {v : Value} {l : List ByteArray} (h : RwS w B v l) : ∃ d cd, v = .slice d l.length cd ∧ StS w d l := by
  rcases h.2 with ⟨h1, h2⟩ | ⟨g, cap, cur, h1, h2, h3, h4, h5, h6, h7⟩
  · have : l = [] := List.length_eq_zero_iff.1 h2
    subst this
    exact ⟨none, 0, h1, fun k hk => absurd hk (by simp)⟩
  · refine ⟨_, _, h1, fun j hj => ⟨g, 0, rfl, (Array.getElem?_eq_some_iff.1 h3).1, ?_⟩⟩
    rw [Nat.zero_add, cell_of_row w g j _ _ (0, 0) h3]
    have e : cur[j]? = (cur.toList.take (l.length * 1))[j]? := by
      rw [List.getElem?_take, if_pos (by omega), Array.getElem?_toList]
    rw [e, h7, List.getElem?_map, List.getElem?_eq_getElem hj]
    rfl
theorem wpList_append_str {w : World} {ops : Array Oper} {rest : List Oper} {o : Oper} {a : Act} {Q : Exit → Act → World → Prop} (hgd : o.guard = none) (s x : Operand)
    (ho : o.op = .call { callee := .builtin .append, args := #[s, x], argTypes := #[44, 44] }) (base : Nat) (v : Value) (l : List ByteArray) (f : ByteArray) (hs : a.eval s = v) (hown : RwS w base v l) (g : Nat) (hx : a.eval x = .slice (some ⟨g, 0, none⟩) 1 1) (hg : w.cell? ⟨g, 0, none⟩ = some (.string f)) (hlen : l.length + 1 ≤ 100000) (hbase : base ≤ w.heap.size)
    (h : ∀ v' w', RwS w' base v' (l ++ [f]) → w.grownBy w' v.ownBlock → wpList Tryz.prog ops Q rest (a.put o.dst v') w') : wpList Tryz.prog ops Q (o :: rest) a w := by
  obtain ⟨i0, hi0, hz0, hz1, hz2⟩ := info_parts Tryz.infoStr
  refine wpList_append_own _ hgd s x 44 ho base 9 i0 (.string ⟨#[]⟩) 1 16 Tryz.underlying44 hi0 hz0 hz1 hz2 rfl (by decide) v l.length _ hs hown ⟨g, 0, none⟩ 1 1 [.string f] hx rfl ?_ ?_ (by unfold maxLen; omega) (by omega) hbase ?_
  · intro j u hj
    match j, hj with
    | 0, hj => cases hj; exact hg
    | j + 1, hj => simp at hj
  · intro u hu
    simp only [List.mem_cons, List.not_mem_nil, or_false] at hu
    subst hu; rfl
  · intro v' w' h1 h2 _
    refine h v' w' ?_ h2
    rw [RwS, List.length_append, List.map_append]
    exact h1
theorem one_str (w : World) (u : ByteArray) : (w.alloc (.cells #[.string u] 9)).cell? ⟨w.heap.size, 0, none⟩ = some (.string u) := (Boxed.new w _ _).cell
end Go.Proofs.YtojidhnkpeiimaaGreatDoor

/- Nets: the document's answer: NetCheck. -/
namespace Go.Proofs.YtojidhnkpeiimaaGreatDoor
open Go.RowKit Go.Shelf
structure NetI (w : World) (a b c : Option Addr) (V : List Vr) (L : List (List Int)) (R : List (List Fr)) : Prop where
  vars : VsS w a V
  pars : LsS w b L
  rows : FsS w c R
theorem NetI.below {w w' : World} {a b c : Option Addr} {V : List Vr} {L : List (List Int)} {R : List (List Fr)} (h : NetI w a b c V L R) (hb : Below w.heap.size w w') : NetI w' a b c V L R := ⟨h.vars.below hb, h.pars.below hb, h.rows.below hb⟩
structure NSm (V : List Vr) (L : List (List Int)) (R : List (List Fr)) : Prop where
  vars : VSm V
  pars : L.length ≤ 5000 ∧ ∀ l ∈ L, l.length ≤ 5000
  rows : R.length ≤ 5000 ∧ ∀ l ∈ R, l.length ≤ 5000 ∧ fw l ≤ 10000
def NK (w wr : World) (x y z : Value) : Prop := NBox wr w.heap.size x y z ∧ Below w.heap.size w wr
theorem NK.step {w wr wr' : World} {x y z : Value} (h : NK w wr x y z) (hb : Below wr.heap.size wr wr') : NK w wr' x y z := ⟨h.1.below hb h.1.lt, h.2.trans (hb.mono h.2.size)⟩
theorem NK.grow {w wr wr' : World} {x y z : Value} (h : NK w wr x y z) (hb : Below (w.heap.size + 1) wr wr') : NK w wr' x y z := ⟨h.1.below hb (by omega), h.2.trans (hb.mono (by omega))⟩
theorem NK.new (w : World) (x y z : Value) : NK w (w.alloc (NC x y z)) x y z := ⟨NBox.at rfl x y z, (Below.refl _ w).alloc (Nat.le_refl _) _⟩
theorem fine_sizes {V : List Vr} {L : List (List Int)} (hl : L.length = V.length) (hg : gcE L = 0) (hv : varsE V = 0) : Fine (iL (sizesN V)) ∧ L.length ≤ 8 ∧ ∀ v (h : v < L.length), Up L[v] L.length := by
  have hgb : gB L = true := by
    rw [gcE] at hg
    by_cases h : gB L = true
    · exact h
    · rw [if_neg h] at hg; exact absurd hg (by decide)
  obtain ⟨h1, h8, h3, _⟩ := gB_parts hgb
  have hf : ∀ i, i < V.length → varE V i = 0 := by
    rw [varsE] at hv
    by_cases h : namesE (namesV V) = 0
    · rw [if_pos h] at hv
      intro i hi
      have key : ∀ {n : Nat}, firstE (varE V) n = 0 → ∀ j, j < n → varE V j = 0 := by
        intro n
        induction n with
        | zero => intro _ j hj; omega
        | succ n ih =>
          intro hz j hj
          rw [firstE] at hz
          by_cases e : firstE (varE V) n = 0
          · rw [if_pos e] at hz
            rcases Nat.lt_or_ge j n with h2 | h2
            · exact ih e j h2
            · obtain rfl : j = n := by omega
              exact hz
          · rw [if_neg e] at hz; exact absurd hz e
      exact key hv i hi
    · rw [if_neg h] at hv; exact absurd hv h
  refine ⟨⟨by rw [iL_length, sizesN_length]; omega, by rw [iL_length, sizesN_length]; omega, fun i hi => ?_⟩, h8, fun v hv => ris_up (allRis_at h3 hv)⟩
  rw [iL_length, sizesN_length] at hi
  have h4 := hf i hi
  rw [varE, getV hi] at h4
  have h5 : 1 ≤ V[i].2.length ∧ V[i].2.length ≤ 4 := by
    by_cases e : 1 ≤ V[i].2.length ∧ V[i].2.length ≤ 4
    · exact e
    · rw [if_neg e] at h4; exact absurd h4 (by decide)
  have e : (iL (sizesN V))[i]'(by rw [iL_length, sizesN_length]; exact hi) = (V[i].2.length : Int) := by simp [iL, sizesN]
  rw [e]
  omega
end Go.Proofs.YtojidhnkpeiimaaGreatDoor

/- Nets: how likely all values are: joint of the document's answer. -/
namespace Go.Proofs.YtojidhnkpeiimaaGreatDoor
open Go.RowKit Go.Shelf
structure NOK (V : List Vr) (L : List (List Int)) (R : List (List Fr)) : Prop where
  len : L.length = V.length
  lenR : R.length = V.length
  n8 : V.length ≤ 8
  fine : Fine (iL (sizesN V))
  up : ∀ v (h : v < L.length), Up L[v] V.length
  rows : ∀ v (h : v < L.length) (h' : v < R.length), R[v].length = cnt (sizesN V) (toN L[v]) * sz (sizesN V) v
theorem firstE_zero {f : Nat → Int} : ∀ {n : Nat}, firstE f n = 0 → ∀ j, j < n → f j = 0
  | 0, _, j, hj => by omega
  | n + 1, hz, j, hj => by
    rw [firstE] at hz
    by_cases e : firstE f n = 0
    · rw [if_pos e] at hz
      rcases Nat.lt_or_ge j n with h2 | h2
      · exact firstE_zero e j h2
      · obtain rfl : j = n := by omega
        exact hz
    · rw [if_neg e] at hz; exact absurd hz e
theorem netE_ok {V : List Vr} {L : List (List Int)} {R : List (List Fr)} (h : netE V L R = 0) : NOK V L R := by
  rw [netE] at h
  by_cases h1 : L.length = V.length ∧ R.length = V.length
  · rw [if_pos h1] at h
    by_cases h2 : gcE L = 0
    · rw [if_pos h2] at h
      by_cases h3 : varsE V = 0
      · rw [if_pos h3] at h
        obtain ⟨hf, h8, hu⟩ := fine_sizes h1.1 h2 h3
        refine ⟨h1.1, h1.2, by omega, hf, fun v hv => by rw [← h1.1]; exact hu v hv, fun v hv hr => ?_⟩
        have h4 := firstE_zero h v (by omega)
        rw [rowE, List.getD_eq_getElem?_getD, List.getElem?_eq_getElem hr, List.getD_eq_getElem?_getD, List.getElem?_eq_getElem hv] at h4
        by_cases h5 : R[v].length = cnt (sizesN V) (toN L[v]) * sz (sizesN V) v
        · exact h5
        · simp only [Option.getD_some] at h4
          rw [if_neg h5] at h4
          exact absurd h4 (by decide)
      · rw [if_neg h3] at h; exact absurd h h3
    · rw [if_neg h2] at h; exact absurd h h2
  · rw [if_neg h1] at h; exact absurd h (by decide)
end Go.Proofs.YtojidhnkpeiimaaGreatDoor

/- Plain facts for the sums' order: taking two variables out in either order leaves the same numbers; what has nothing of a variable may be taken out of the sum. -/
namespace Go.Proofs.YtojidhnkpeiimaaGreatDoor
open Go.RowKit Go.Shelf
theorem cnt_three {S : List Nat} (h : ∀ v, sz S v ≤ 3) : ∀ vs : List Nat, cnt S vs ≤ 3 ^ vs.length
  | [] => Nat.le_refl _
  | v :: vs => by rw [cnt, List.length_cons, Nat.pow_succ, Nat.mul_comm]; exact Nat.mul_le_mul (cnt_three h vs) (h v)
end Go.Proofs.YtojidhnkpeiimaaGreatDoor

/- The document's answer: Product. -/
namespace Go.Proofs.YtojidhnkpeiimaaGreatDoor
open Go.RowKit Go.Shelf
theorem RwI.below {w w' : World} {B : Nat} {v : Value} {l : List Int} (h : RwI w B v l) (hb : Below w.heap.size w w') : RwI w' B v l := by
  refine ⟨h.1, h.2.imp id ?_⟩
  rintro ⟨g, cap, cur, h1, h2, h3, h4⟩
  exact ⟨g, cap, cur, h1, h2, (hb.block g (Array.getElem?_eq_some_iff.1 h3).1).trans h3, h4⟩
theorem RwI.intS {w : World} {B : Nat} {d : Option Addr} {cd : Nat} {U : List Int} (h : RwI w B (.slice d U.length cd) U) : IntS w d U := by
  obtain ⟨d', cd', e, hi⟩ := h.ints
  cases e
  exact hi
end Go.Proofs.YtojidhnkpeiimaaGreatDoor

/- The law's raw numbers: Pick, sizesOf, All, Some, Less. -/
namespace Go.Proofs.YtojidhnkpeiimaaGreatDoor
open Go.RowKit Go.Shelf
def pickN (c : Int) (n : Nat) : Nat := (if c < 0 then (-(c + 1)).toNat else c.toNat) % n
theorem pickN_lt (c : Int) {n : Nat} (h : 1 ≤ n) : pickN c n < n := Nat.mod_lt _ h
set_option maxRecDepth 100000 in
set_option maxHeartbeats 1000000 in
theorem rPick_same (c : Int) (n : Nat) (w : World) (h1 : -9223372036854775808 ≤ c) (h2 : c ≤ 9223372036854775807) (hn : 1 ≤ n) (hn' : n ≤ 1000) :
    Calls Tryz.prog 10 #[.int .i64 c, .int .i64 (n : Nat)] w fun e w' => e = .returned (.int .i64 (pickN c n : Nat)) ∧ w' = w := by
  have HP : Hid (pickN c n = (if c < 0 then (-(c + 1)).toNat else c.toNat) % n) := rfl
  have hlt := pickN_lt c hn
  generalize pickN c n = P at *
  by_cases hc : c < 0
  · rw [if_pos hc] at HP
    obtain ⟨d, hd⟩ : ∃ d : Nat, c = -((d : Int) + 1) := ⟨(-(c + 1)).toNat, by omega⟩
    subst hd
    have HE : Hid ((d : Int) % (n : Int) = (P : Int)) := by
      show _ = _
      rw [HP.out, show (-(-((d : Int) + 1) + 1)).toNat = d by omega, Int.natCast_emod]
    have hw : IntKind.i64.wrap (-((d : Int) + 1) + 1) = -(d : Int) := by rw [IntKind.wrap_i64]; omega
    have hw2 : IntKind.i64.wrap (- -(d : Int)) = (d : Int) := by rw [IntKind.wrap_i64]; omega
    go_enter Tryz.func10, Tryz.ntmps10
    go_wp2
    go_ret
    exact ⟨by rw [HE.out]; rfl, rfl⟩
  · rw [if_neg hc] at HP
    obtain ⟨d, rfl⟩ : ∃ d : Nat, c = d := ⟨c.toNat, by omega⟩
    have HE : Hid ((d : Int) % (n : Int) = (P : Int)) := by
      show _ = _
      rw [HP.out, Int.toNat_natCast, Int.natCast_emod]
    go_enter Tryz.func10, Tryz.ntmps10
    go_wp2
    go_ret
    exact ⟨by rw [HE.out]; rfl, rfl⟩
theorem rPick_any (c : Int) (n : Nat) (w : World) (h1 : -9223372036854775808 ≤ c) (h2 : c ≤ 9223372036854775807) (hn : 1 ≤ n) (hn' : n ≤ 1000) :
    Calls Tryz.prog 10 #[.int .i64 c, .int .i64 (n : Nat)] w fun e w' => e = .returned (.int .i64 (pickN c n : Nat)) ∧ Below w.heap.size w w' := by
  refine (rPick_same c n w h1 h2 hn hn').mono ?_
  rintro e w' ⟨h, rfl⟩
  exact ⟨h, Below.refl _ _⟩
end Go.Proofs.YtojidhnkpeiimaaGreatDoor

/- Plain facts on decimal numerals in groups of nine digits. -/
namespace Go.Proofs.YtojidhnkpeiimaaGreatDoor
open Go
def decs : Nat → Nat → List UInt8
  | 0, _ => []
  | j + 1, r => decs j (r / 10) ++ [UInt8.ofNat (48 + r % 10)]
theorem dec_small {u : Nat} (h : u < 10) : Lib.decDigits u = [UInt8.ofNat (48 + u)] := by rw [Lib.decDigits, dif_pos h]
theorem dec_big {u : Nat} (h : ¬ u < 10) : Lib.decDigits u = Lib.decDigits (u / 10) ++ [UInt8.ofNat (48 + u % 10)] := by rw [Lib.decDigits, dif_neg h]
theorem dec_step (q d : Nat) (hq : q ≠ 0) (hd : d < 10) : Lib.decDigits (q * 10 + d) = Lib.decDigits q ++ [UInt8.ofNat (48 + d)] := by
  rw [dec_big (by omega), show (q * 10 + d) / 10 = q by omega, show (q * 10 + d) % 10 = d by omega]
theorem dec_join (j : Nat) : ∀ (q r : Nat), q ≠ 0 → r < 10 ^ j → Lib.decDigits (q * 10 ^ j + r) = Lib.decDigits q ++ decs j r := by
  induction j with
  | zero => intro q r _ hr; rw [Nat.pow_zero] at hr; have : r = 0 := by omega
            subst this; simp [decs]
  | succ j ih =>
    intro q r hq hr
    have hr' : r / 10 < 10 ^ j := Nat.div_lt_of_lt_mul (by rw [Nat.pow_succ] at hr; omega)
    have hne : q * 10 ^ j + r / 10 ≠ 0 := by
      have : 0 < q * 10 ^ j := Nat.mul_pos (Nat.pos_of_ne_zero hq) (Nat.pow_pos (by decide))
      omega
    have e : q * 10 ^ (j + 1) + r = (q * 10 ^ j + r / 10) * 10 + r % 10 := by
      rw [Nat.pow_succ, Nat.add_mul, Nat.mul_assoc]; omega
    rw [e, dec_step _ _ hne (Nat.mod_lt _ (by decide)), ih q (r / 10) hq hr', decs, List.append_assoc]
theorem decs_zero (j : Nat) : decs j 0 = List.replicate j 48 := by
  induction j with
  | zero => rfl
  | succ j ih => rw [decs, Nat.zero_div, ih, List.replicate_succ']; rfl
theorem decs_pad (j : Nat) : ∀ r, r < 10 ^ (j + 1) → decs (j + 1) r = List.replicate (j + 1 - (Lib.decDigits r).length) 48 ++ Lib.decDigits r := by
  induction j with
  | zero => intro r hr; rw [dec_small (by simpa using hr)]; simp [decs, Nat.mod_eq_of_lt (show r < 10 by simpa using hr)]
  | succ j ih =>
    intro r hr
    by_cases h : r < 10
    · rw [dec_small h, decs, Nat.div_eq_of_lt h, decs_zero, Nat.mod_eq_of_lt h]; simp
    · rw [dec_big h, decs, ih (r / 10) (Nat.div_lt_of_lt_mul (by rw [Nat.pow_succ] at hr; omega)), List.append_assoc, List.length_append, List.length_singleton]
      congr 2
      omega
theorem grp_get (i : Nat) : ∀ n, i < (grp n).length → (grp n)[i]? = some (n / G ^ i % G) := by
  induction i with
  | zero =>
    intro n h
    have hn : n ≠ 0 := by rintro rfl; rw [grp_zero] at h; simp at h
    rw [grp_pos n hn, Nat.pow_zero, Nat.div_one]; rfl
  | succ i ih =>
    intro n h
    have hn : n ≠ 0 := by rintro rfl; rw [grp_zero] at h; simp at h
    rw [grp_pos n hn, List.length_cons] at h
    rw [grp_pos n hn, List.getElem?_cons_succ, ih _ (Nat.lt_of_succ_lt_succ h), Nat.div_div_eq_div_mul, Nat.pow_succ, Nat.mul_comm G]
theorem grp_lt_pow (n : Nat) : n < G ^ (grp n).length := by
  induction n using Nat.strongRecOn with
  | ind n ih =>
    by_cases h : n = 0
    · subst h; rw [grp_zero]; simp
    · rw [grp_pos n h, List.length_cons, Nat.pow_succ]
      have := ih _ (div_G_lt h)
      exact (Nat.div_lt_iff_lt_mul G_pos).1 this
theorem grp_top (n : Nat) (h : n ≠ 0) : n / G ^ ((grp n).length - 1) ≠ 0 := by
  induction n using Nat.strongRecOn with
  | ind n ih =>
    rw [grp_pos n h, List.length_cons, Nat.add_sub_cancel]
    by_cases h2 : n / G = 0
    · rw [h2, grp_zero]; simpa using h
    · have hp : 0 < (grp (n / G)).length := List.length_pos_iff.2 (fun e => h2 ((grp_nil_iff _).1 e))
      have := ih _ (div_G_lt h) h2
      rwa [Nat.div_div_eq_div_mul, Nat.mul_comm, ← Nat.pow_succ, Nat.succ_eq_add_one, Nat.sub_add_cancel hp] at this
def txt (n k : Nat) : List UInt8 := if k = 0 then [] else Lib.decDigits (n / G ^ ((grp n).length - k))
theorem txt_zero (n : Nat) : txt n 0 = [] := rfl
theorem txt_all (n : Nat) (h : n ≠ 0) : txt n (grp n).length = Lib.decDigits n := by
  have hp : 0 < (grp n).length := List.length_pos_iff.2 (fun e => h ((grp_nil_iff _).1 e))
  rw [txt, if_neg (by omega), Nat.sub_self, Nat.pow_zero, Nat.div_one]
theorem G_pow9 : G = 10 ^ 9 := rfl
theorem txt_succ (n k : Nat) (hk : k < (grp n).length) : txt n (k + 1) = txt n k ++ (if k = 0 then Lib.decDigits ((grp n)[(grp n).length - 1 - k]?.getD 0) else List.replicate (9 - (Lib.decDigits ((grp n)[(grp n).length - 1 - k]?.getD 0)).length) 48 ++ Lib.decDigits ((grp n)[(grp n).length - 1 - k]?.getD 0)) := by
  have hn : n ≠ 0 := by rintro rfl; rw [grp_zero] at hk; simp at hk
  rw [grp_get _ n (by omega), Option.getD_some]
  by_cases h0 : k = 0
  · subst h0
    rw [txt, if_neg (by omega), txt_zero, if_pos rfl, List.nil_append, Nat.sub_zero]
    congr 1
    have hlt := grp_lt_pow n
    rw [Nat.zero_add]
    refine (Nat.mod_eq_of_lt (Nat.div_lt_of_lt_mul ?_)).symm
    rw [← Nat.pow_succ, Nat.succ_eq_add_one, Nat.sub_add_cancel (by omega)]
    exact hlt
  · rw [txt, if_neg (by omega), txt, if_neg h0, if_neg h0]
    obtain ⟨e, he⟩ : ∃ e, e + 1 = (grp n).length - k := ⟨(grp n).length - k - 1, by omega⟩
    have e1 : (grp n).length - (k + 1) = e := by omega
    have e2 : (grp n).length - 1 - k = e := by omega
    rw [e1, e2, ← he]
    have hq : n / G ^ (e + 1) ≠ 0 := by
      intro hz
      have ht := grp_top n hn
      apply ht
      have hle : e + 1 ≤ (grp n).length - 1 := by omega
      obtain ⟨d, hd⟩ : ∃ d, (grp n).length - 1 = (e + 1) + d := ⟨(grp n).length - 1 - (e + 1), by omega⟩
      rw [hd, Nat.pow_add, ← Nat.div_div_eq_div_mul, hz, Nat.zero_div]
    have hs : n / G ^ e = n / G ^ (e + 1) * 10 ^ 9 + n / G ^ e % G := by
      rw [Nat.pow_succ, ← Nat.div_div_eq_div_mul, ← G_pow9]
      exact (Nat.div_add_mod' _ _).symm
    have hr : n / G ^ e % G < 10 ^ (8 + 1) := Nat.mod_lt _ G_pos
    rw [← decs_pad 8 _ hr]
    generalize n / G ^ e % G = r at *
    rw [hs]
    exact dec_join 9 _ r hq hr
theorem txt_len (n k : Nat) (hk : k ≤ (grp n).length) : (txt n k).length ≤ 9 * k := by
  induction k with
  | zero => simp [txt_zero]
  | succ k ih =>
    have hk' : k < (grp n).length := hk
    have ihk := ih (by omega)
    have hx : (grp n)[(grp n).length - 1 - k]?.getD 0 < 10 ^ 9 := by
      rw [grp_get _ n (by omega)]; exact Nat.mod_lt _ G_pos
    generalize hy : (grp n)[(grp n).length - 1 - k]?.getD 0 = y at *
    have hyl : (Lib.decDigits y).length ≤ 9 := by
      have h1 := decs_pad 8 y hx
      have h2 : (decs 9 y).length = 9 := rfl
      rw [h1, List.length_append] at h2
      omega
    rw [txt_succ n k hk', hy, List.length_append]
    split
    · omega
    · rw [List.length_append, List.length_replicate]; omega
end Go.Proofs.YtojidhnkpeiimaaGreatDoor

/- The document's answer: NatText. -/
namespace Go.Proofs.YtojidhnkpeiimaaGreatDoor
open Go.RowKit Go.Lib
theorem dec_len (k : Nat) : ∀ n, n < 10 ^ (k + 1) → (decDigits n).length ≤ k + 1 := by
  induction k with
  | zero => intro n h; rw [dec_small (by simpa using h)]; simp
  | succ k ih =>
    intro n h
    by_cases h9 : n < 10
    · rw [dec_small h9]; simp
    · rw [dec_big h9, List.length_append]
      have := ih (n / 10) (by rw [Nat.pow_succ] at h; omega)
      simp
      omega
theorem dec_fits {n k : Nat} (h : n < 256 ^ k) : (decDigits n).length ≤ 3 * k + 1 := by
  apply dec_len
  have h1 : (256 : Nat) ^ k ≤ (10 ^ 3) ^ k := Nat.pow_le_pow_left (by decide) k
  rw [← Nat.pow_mul] at h1
  have h2 : 10 ^ (3 * k) ≤ 10 ^ (3 * k + 1) := Nat.pow_le_pow_right (by decide) (by omega)
  omega
def dg0 (n : Nat) : List UInt8 := if n = 0 then [] else decDigits n
theorem dg0_step {n : Nat} (h : n ≠ 0) : dg0 n = dg0 (n / 10) ++ [UInt8.ofNat (48 + n % 10)] := by
  rw [dg0, if_neg h]
  by_cases h9 : n < 10
  · rw [dec_small h9, dg0, if_pos (by omega), List.nil_append, Nat.mod_eq_of_lt h9]
  · rw [dec_big h9, dg0, if_neg (by omega)]
set_option maxRecDepth 100000 in
set_option maxHeartbeats 1000000 in
theorem rText_any (a : ByteArray) (w : World) (ha : a.size ≤ 500000) :
    Calls Tryz.prog 11 #[.string a] w fun e w' => e = .returned (.string ⟨(decDigits (N a)).toArray⟩) ∧ Below w.heap.size w w' := by
  have HT := hide (rTrim_any a w (by omega))
  have sa := Nat.le_trans (B_size_le a) ha
  have hfit := dec_fits (B_lt (N a))
  generalize hA' : N a = A at *
  clear hA' ha
  by_cases hA0 : A = 0
  · subst hA0
    rw [B_zero] at HT
    have HZ : Hid (decDigits 0 = [48]) := dec_small (by decide)
    rw [HZ.out]
    clear hfit
    go_enter Tryz.func11, Tryz.ntmps11
    go_wp2_with fail
    refine (HT.out).mono ?_
    rintro e w1 ⟨rfl, hw⟩
    subst hw
    go_wp2
    go_ret
    exact ⟨rfl, Below.refl _ _⟩
  · have hne := B_full hA0
    have HDA : Hid (dg0 A = decDigits A) := if_neg hA0
    have hN10 : N ⟨#[10]⟩ = 10 := rfl
    go_enter Tryz.func11, Tryz.ntmps11
    go_wp2_with fail
    refine (HT.out).mono ?_
    rintro e w1 ⟨rfl, hw⟩
    subst hw
    clear HT
    go_wp2
    go_loopg [0, 3] A (fun n va vs wr => ∃ s : ByteArray, va = .string (B n) ∧ vs = .string s ∧ (B n).size ≤ 500000 ∧ Hid (dg0 n ++ s.data.toList = dg0 A) ∧ Below w1.heap.size w1 wr)
    case atStart => exact ⟨⟨#[]⟩, rfl, rfl, sa, (show _ = _ by simp), Below.refl _ _⟩
    case round =>
      obtain ⟨s, rfl, rfl, hn, HS, hBr⟩ := hrel
      clear hne
      by_cases h0 : gk = 0
      · subst h0
        rw [B_zero]
        have HE : Hid (s = ⟨(decDigits A).toArray⟩) := by
          show _ = _
          have := HS.out
          rw [dg0, if_pos rfl, List.nil_append, HDA.out] at this
          apply ByteArray.ext
          apply Array.toList_inj.1
          rw [this]
        go_wp2
        go_ret
        exact ⟨by rw [← HE.out]; rfl, hBr⟩
      · have hne := B_full h0
        have hdv := fun V => rDiv_any (B gk) ⟨#[10]⟩ V hn (by show 1 ≤ _; omega) (by rw [hN10]; decide)
        rw [N_B, hN10] at hdv
        have HD := hide hdv
        have hm10 : gk % 10 < 10 := Nat.mod_lt _ (by decide)
        have hsm : (B (gk % 10)).size ≤ 500000 := Nat.le_trans (sz_mono (Nat.mod_le _ _)) hn
        have hdg := fun V => digit_any (B (gk % 10)) 0 V (by omega) (by omega)
        rw [N_B, Nat.pow_zero, Nat.div_one, Nat.mod_eq_of_lt (show gk % 10 < 256 by omega)] at hdg
        have HG := hide hdg
        have hq := Nat.le_trans (sz_mono (Nat.div_le_self gk 10)) hn
        have hss : s.size ≤ 1500001 := by
          have e := congrArg List.length HS.out
          rw [List.length_append, bytes_len, HDA.out] at e
          omega
        have hlt : gk / 10 < gk := Nat.div_lt_self (Nat.pos_of_ne_zero h0) (by decide)
        have hst := dg0_step h0
        have HS2 : Hid (dg0 (gk / 10) ++ (strOfNums [48 + ((gk % 10 : Nat) : Int)] ++ s).data.toList = dg0 A) := by
          show _ = _
          rw [← HS.out, hst, ByteArray.data_append, Array.toList_append, strOfNums_data, List.append_assoc]
          have this : (48 + ((gk % 10 : Nat) : Int)).toNat = 48 + gk % 10 := by omega
          rw [List.map_cons, List.map_nil, this]
        clear hst hdv hdg hn hsm
        generalize hd' : gk % 10 = d at *
        clear hd'
        have hconv := fun V : World => run_convert_bytes_arg (P := Tryz.prog) (V.alloc (.cells #[.int .u8 (48 + (d : Int))] 5)) 66 5 Tryz.underlying66 Tryz.underlying5 V.heap.size 0 1 1 [48 + (d : Int)] rfl (fun i hi => by
          obtain rfl : i = 0 := by omega
          rw [cell_of_row _ V.heap.size (0 + 0) _ _ (0, 0) (heap_alloc_new _ _)]
          rfl) 9 Tryz.underlying9
        have hs1 : (strOfNums [48 + (d : Int)]).size = 1 := strOfNums_size _
        go_wp2_with fail
        refine (HD.out _).mono ?_
        rintro e w2 ⟨rfl, hb2⟩
        go_wp2_with fail
        refine (HG.out _).mono ?_
        rintro e w3 ⟨rfl, hw3⟩
        subst hw3
        have hconv2 := hconv w3
        clear hconv
        go_wp2
        go_roundg (gk / 10)
        case measure => exact hlt
        case rel => exact ⟨strOfNums [48 + (d : Int)] ++ s, rfl, rfl, hq, HS2.out, (hBr.trans (hb2.mono hBr.size)).alloc (hBr.trans (hb2.mono hBr.size)).size _⟩
end Go.Proofs.YtojidhnkpeiimaaGreatDoor

/- strconv.FormatUint at base 10, and a strings.Builder's WriteString, at this program. -/
namespace Go.Proofs.YtojidhnkpeiimaaGreatDoor
open Go.RowKit Go.Sort Go.Lib
theorem WriteString_any (Bb b : Nat) (bs : List Value) (s : ByteArray) (w : World) (h : Lib.IsBuilder 103 5 Bb b bs w) (hlen : bs.length + s.size ≤ 140737488355328) (hBw : Bb ≤ w.heap.size) :
    Calls Tryz.prog 55 #[.pointer (some ⟨b, 0, none⟩), .string s] w fun e w' => e = .returned (.tuple #[.int .i64 s.size, .nilIface]) ∧ (Lib.BuilderAt 103 5 Bb b (.pointer (some ⟨b, 0, none⟩)) (bs ++ Lib.strCells s) w' ∧ Below Bb w w') :=
  Any.Builder_WriteString (ρ := Tryz.lays105_ren) { Tryz.lays105 with } Tryz.Builder_Extra_105 Bb b bs s w h hlen hBw
theorem holds_zero0 (w : World) (T : TypeId) (nd : Nat) (hs : nd ≤ 24) : Holds (fun (b : UInt8) => Value.int .u8 (b.toNat : Int)) (w.alloc (.cells zeros24 T)) w.heap.size 0 (Array.replicate nd (0 : UInt8)) := fun j hj => by
  rw [Array.size_replicate] at hj
  refine ⟨?_, World.frozen?_alloc_new _ _ _ _⟩
  rw [World.cell?_alloc_new, zeros24_at (0 + j) (by omega)]
  simp [hj]
theorem below_putRow {w : World} (o : Obj) (off k : Nat) (dk : Array UInt8) : Below w.heap.size w ((putRow (fun (b : UInt8) => Value.int .u8 (b.toNat : Int)) (w.alloc o) w.heap.size off dk).drewN k) := by
  refine ⟨rfl, rfl, rfl, ?_, fun i hi => ?_⟩
  · show w.heap.size ≤ ((w.heap.push o).modify _ _).size
    simp
  · show ((w.heap.push o).modify _ _)[i]? = _
    rw [Array.getElem?_modify, if_neg (by omega), Array.getElem?_push, if_neg (by omega)]
set_option maxRecDepth 100000 in
set_option maxHeartbeats 2000000 in
theorem iFormatUint_any (u : Nat) (w : World) (hu64 : u < 18446744073709551616) (htab : Lib.TabIs Tryz.prog w "internal/strconv.uint64pow10" .u64 Lib.pow10Tab) :
    Calls Tryz.prog 150 #[.int .u64 u, .int .i64 10] w fun e w' => e = .returned (.string ⟨(Lib.decDigits u).toArray⟩) ∧ Below w.heap.size w w' := by
  by_cases hs : u < 100
  · go_enter Tryz.func150, Tryz.ntmps150
    go_wp2_with (go_at_call 178; refine (Tryz.internal_strconv_small u hs _).mono ?_; rintro e w' ⟨rfl, rfl⟩)
    go_ret
    exact ⟨rfl, Below.refl _ _⟩
  · have hu1 : 1 ≤ u := by omega
    have hnd20 : Lib.nDigits u ≤ 20 := by have := Lib.numDigits_eq u hu1 hu64; split at this <;> omega
    have hal : Tryz.prog.arrayLen 212 = 24 := by simp [Program.arrayLen, Tryz.underlying212]
    have hsl1 : ∀ V, (Instr.sliceAt 212 (.pointer (some ⟨w.heap.size, 0, none⟩)) none (some (.int .i64 (Lib.nDigits u : Int))) none).run Tryz.prog V = .ok (.slice (some ⟨w.heap.size, 0, none⟩) (Lib.nDigits u) 24) V := fun V => by
      rw [run_sliceAt_array_h V 212 ⟨w.heap.size, 0, none⟩ (by simp [Program.arrayLen, Program.elem, Tryz.underlying212]) .i64 (Lib.nDigits u : Int) (by omega) (by rw [hal]; omega)]
      go_simp
    have hH0 := holds_zero0 w 212 (Lib.nDigits u) (by omega)
    have hfmt := Tryz.internal_strconv_formatBase10 w.heap.size 0 24 u (Array.replicate (Lib.nDigits u) 0) (w.alloc (.cells Lib.zeros24 212)) hH0 (by rw [Array.size_replicate]; exact Lib.lt_pow_nDigits u) hu64 (by rw [Array.size_replicate]; omega)
    rw [Array.size_replicate] at hfmt
    have HH0 := Lib.hid hH0
    clear hH0 hal
    go_enter Tryz.func150, Tryz.ntmps150
    go_wp2_with (first
      | (go_at_call 179; refine (Tryz.internal_strconv_numDigits u hu1 hu64 _ (Lib.tabIs_alloc htab _)).mono ?_; rintro e w' ⟨rfl, rfl⟩))
    refine hfmt.mono ?_
    rintro e w' ⟨rfl, k, v', dk, rfl, hF⟩
    have hcv : (convert 66 9 (.slice (some ⟨w.heap.size, 0, none⟩) (Lib.nDigits u) 24)).run Tryz.prog ((putRow (fun (b : UInt8) => Value.int .u8 (b.toNat : Int)) (w.alloc (.cells Lib.zeros24 212)) w.heap.size 0 dk).drewN k) = .ok (.string ⟨(Lib.decDigits u).toArray⟩) ((putRow (fun (b : UInt8) => Value.int .u8 (b.toNat : Int)) (w.alloc (.cells Lib.zeros24 212)) w.heap.size 0 dk).drewN k) := by
      have h := run_convert_bytes_back (P := Tryz.prog) ((putRow (fun (b : UInt8) => Value.int .u8 (b.toNat : Int)) (w.alloc (.cells Lib.zeros24 212)) w.heap.size 0 dk).drewN k) 66 9 5 ⟨w.heap.size, 0, none⟩ 24 (Lib.decDigits u) Tryz.underlying66 Tryz.underlying5 Tryz.underlying9 (fun j hj => by
        rw [Lib.row_is_numeral hF j hj, Lib.add_plain, World.cell?_drewN]
        exact cell?_putRow (fun (b : UInt8) => Value.int .u8 (b.toNat : Int)) _ w.heap.size 0 _ dk HH0.out (by rw [hF.size, Array.size_replicate]) j (by rw [hF.size]; rw [Lib.decDigits_length] at hj; exact hj))
      rw [Lib.decDigits_length] at h
      exact h
    go_wp2
    go_ret
    exact ⟨rfl, below_putRow _ _ _ _⟩
set_option maxHeartbeats 400000 in
theorem FormatUint_any (u : Nat) (w : World) (hu64 : u < 18446744073709551616) (htab : Lib.TabIs Tryz.prog w "internal/strconv.uint64pow10" .u64 Lib.pow10Tab) :
    Calls Tryz.prog 114 #[.int .u64 u, .int .i64 10] w fun e w' => e = .returned (.string ⟨(Lib.decDigits u).toArray⟩) ∧ Below w.heap.size w w' := by
  go_enter Tryz.func114, Tryz.ntmps114
  go_wp2_with (go_at_call 150; refine (iFormatUint_any u _ hu64 htab).mono ?_; rintro e w1 ⟨rfl, hb⟩)
  go_ret
  exact ⟨rfl, hb⟩
end Go.Proofs.YtojidhnkpeiimaaGreatDoor
