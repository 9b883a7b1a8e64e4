/- Package table: Norm. -/
import Derived.Test.YthcfgoknphpkdaaSliAToUniA
import Derived.Test.YthcfgoknphpkdaaFilTToNormA
import Derived.Test.YthcfgoknphpkdaaIterBToBestA
import Derived.Laws.EntriesVeiled
import Derived.BigQuiet
import Derived.Test.YthcfgoknphpkdaaRcDToFilP
import Derived.Test.YthcfgoknphpkdaaRefCToTabR5
import Derived.Deep.Strs
import Derived.HandedShaped
import Derived.ProofKit
import Derived.OpenShut
import Derived.ShutString
import Derived.SizedLaws
import Derived.Carry
namespace Go.Proofs.Ythcfgoknphpkdaa
open Go.RowKit Go.Shelf

theorem normL_length (l : List Fr) : (normL l).length = l.length := by simp [normL]
theorem normL_get (l : List Fr) {k : Nat} (h : k < (normL l).length) : (normL l)[k] = qF (frQ (l[k]'(by rw [normL_length] at h; exact h)) * (1 / fsum l)) := by simp [normL]
theorem qw_inv {q : Rat} (h : q ≠ 0) : qw (1 / q) ≤ qw q + 1 := by
  have e : val (sgn q) (nu q) (de q) ≠ 0 := by rw [val_own]; exact h
  have h0 := fun h => e (val_zero_iff.2 h)
  have e1 : 1 / q = val (sgn q) (de q) (nu q) := by rw [val_inv _ _ _ (fun h => h0 (.inl h)) (fun h => h0 (.inr h)), val_own, Rat.div_def, Rat.one_mul]
  rw [e1]
  refine Nat.le_trans (qw_val _ _ _) ?_
  show (B q.den).size + (B q.num.natAbs).size + 1 ≤ qw q + 1
  rw [qw]
  omega
theorem qw_sum {l : List Fr} (h : fw l ≤ 10000) : qw (fsum l) ≤ 20002 := by have := fits_qw (fits_sum l); omega

end Go.Proofs.Ythcfgoknphpkdaa


/- The document's answer: Norm. -/
namespace Go.Proofs.Ythcfgoknphpkdaa
open Go.RowKit Go.Shelf

end Go.Proofs.Ythcfgoknphpkdaa


/- Package table: together. -/
namespace Go.Proofs.Ythcfgoknphpkdaa
open Go.RowKit Go.Shelf Go.Sort Go.Lib

end Go.Proofs.Ythcfgoknphpkdaa


/- Package table: the closure of Product. -/
namespace Go.Proofs.Ythcfgoknphpkdaa
open Go.RowKit Go.Shelf

end Go.Proofs.Ythcfgoknphpkdaa


/- Package table: Product. -/
namespace Go.Proofs.Ythcfgoknphpkdaa
open Go.RowKit Go.Shelf

/-- What is no nil function lies elsewhere. -/
theorem nil_far {V : World} {B b j : Nat} {t : TypeId} {x : Value} (h : Boxed V B t .nilFunc) (hx : V.cell? ⟨b, j, none⟩ = some x) (hn : x ≠ .nilFunc) : b ≠ B := fun e => by
  subst e
  rw [cell_of_row V b j _ _ (0, 0) h] at hx
  match j with
  | 0 => simp at hx; exact hn hx.symm
  | j + 1 => simp at hx
theorem intS_nil {V : World} {B : Nat} {t : TypeId} {c : Option Addr} {l : List Int} (h : Boxed V B t .nilFunc) (hi : IntS V c l) (y : Value) : IntS (V.setCell ⟨B, 0, none⟩ y) c l := fun k hk => by
  obtain ⟨g, o, rfl, hlt, hc⟩ := hi k hk
  have hne := nil_far h hc (by simp)
  exact ⟨g, o, rfl, Nat.lt_of_lt_of_le hlt (KeepsOthers.setCell V _ _).size, (World.cell?_setCell_other _ _ _ _ (fun e => hne (congrArg Addr.block e).symm)).trans hc⟩
theorem prodL_length (S va vb U : List Nat) (la lb : List Fr) : (prodL S va vb U la lb).length = cnt S U := by simp [prodL]
theorem prodL_get (S va vb U : List Nat) (la lb : List Fr) {k : Nat} (h : k < (prodL S va vb U la lb).length) : (prodL S va vb U la lb)[k] = qF (frQ (celF la (pos S (asg S U k) va)) * frQ (celF lb (pos S (asg S U k) vb))) := by simp [prodL]
theorem stand_lt {sizes vars U : List Int} {K m : Nat} (hk : checkA sizes vars m = 0) (hK : K < cnt (toN sizes) (toN U)) : pos (toN sizes) (asg (toN sizes) (toN U) K) (toN vars) < m := by
  obtain ⟨h1, h2, h3⟩ := checkA_parts hk
  rw [h3]
  exact pos_lt _ (fun u => asg_lt h1.pos _ _ u hK) _

end Go.Proofs.Ythcfgoknphpkdaa


/- The document's answer: Product. -/
namespace Go.Proofs.Ythcfgoknphpkdaa
open Go.RowKit Go.Shelf

/-- The variables so far. -/
def bothI (a b : List Int) (i : Nat) : List Int := iL (bothN i a b)
theorem bothI_succ (a b : List Int) (i : Nat) : bothI a b (i + 1) = bothI a b i ++ if (inB (i : Int) a || inB (i : Int) b) = true then [(i : Int)] else [] := by
  rw [bothI, bothI, bothN, bothN, List.range_succ, List.filter_append, iL, iL, List.map_append]
  congr 1
  by_cases h : (inB (i : Int) a || inB (i : Int) b) = true
  · simp only [List.filter_cons, h, List.filter_nil, if_true, List.map_cons, List.map_nil]
  · simp only [List.filter_cons, h, List.filter_nil]
    rfl
theorem bothI_len (a b : List Int) (i : Nat) : (bothI a b i).length ≤ i := by
  rw [bothI, iL_length]
  exact Nat.le_trans (List.length_filter_le _ _) (by rw [List.length_range]; exact Nat.le_refl _)
theorem RwI.off {w : World} {B : Nat} {v : Value} {l : List Int} (h : RwI w B v l) (b j : Nat) (y : Value) (hb : b < B) : RwI (w.setCell ⟨b, j, none⟩ y) B v l := by
  refine ⟨h.1, h.2.imp id ?_⟩
  rintro ⟨g, cap, cur, h1, h2, h3, h4⟩
  exact ⟨g, cap, cur, h1, h2, (Below.heap_setCell w ⟨b, j, none⟩ y g (by show g ≠ b; omega)).trans h3, h4⟩
theorem RwI.below {w w' : World} {B : Nat} {v : Value} {l : List Int} (h : RwI w B v l) (hb : Below w.heap.size w w') : RwI w' B v l := by
  refine ⟨h.1, h.2.imp id ?_⟩
  rintro ⟨g, cap, cur, h1, h2, h3, h4⟩
  exact ⟨g, cap, cur, h1, h2, (hb.block g (Array.getElem?_eq_some_iff.1 h3).1).trans h3, h4⟩
theorem RwI.slv {w : World} {B : Nat} {v : Value} {l : List Int} (h : RwI w B v l) : SlV v := by
  obtain ⟨d, cd, e, _⟩ := h.ints
  exact ⟨d, _, cd, e⟩
theorem RwI.intS {w : World} {B : Nat} {d : Option Addr} {cd : Nat} {U : List Int} (h : RwI w B (.slice d U.length cd) U) : IntS w d U := by
  obtain ⟨d', cd', e, hi⟩ := h.ints
  cases e
  exact hi

end Go.Proofs.Ythcfgoknphpkdaa


/- Package table: Best. -/
namespace Go.Proofs.Ythcfgoknphpkdaa
open Go.RowKit Go.Shelf

end Go.Proofs.Ythcfgoknphpkdaa


/- The law's comparison of two answers beside errors. -/
namespace Go.Proofs.Ythcfgoknphpkdaa
open Go.RowKit

end Go.Proofs.Ythcfgoknphpkdaa


/- The law's small functions on tables. -/
namespace Go.Proofs.Ythcfgoknphpkdaa
open Go.RowKit Go.Shelf

set_option maxRecDepth 100000 in
set_option maxHeartbeats 400000 in
theorem sameInts_any (a b : Option Addr) (ca cb : Nat) (l : List Int) (w : World) (ha : IntS w a l) (hb : IntS w b l) (hn : l.length ≤ 100000) :
    Calls Try.prog 8 #[.slice a l.length ca, .slice b l.length cb] w fun e w' => e = .returned (.bool true) ∧ Below w.heap.size w w' := by
  have HA := hid ha
  have HB := hid hb
  clear ha hb
  go_enter Try.func8, Try.ntmps8
  go_wp2_with fail
  go_loopw [5] (fun iv wr => ∃ i : Nat, i ≤ l.length ∧ iv = .int .i64 i ∧ Hid (Below w.heap.size w wr)) (fun iv _ => l.length - (intOf iv).toNat)
  case atStart => exact ⟨0, Nat.zero_le _, rfl, Below.refl _ _⟩
  case round =>
    obtain ⟨i, hi, rfl, HW⟩ := hrel
    by_cases hlt : i < l.length
    · obtain ⟨g, o, rfl, hg, c0⟩ := (HA.out.below HW.out) i hlt
      obtain ⟨g2, o2, rfl, hg2, c2⟩ := (HB.out.below HW.out) i hlt
      generalize l[i] = x at *
      go_wp2_with fail
      go_quiet (fail)
      go_wp2
      go_roundw
      case rel => exact ⟨i + 1, by omega, by go_num, below_dn HW.out _⟩
      case measure => simp [intOf]; omega
    · obtain rfl : i = l.length := by omega
      go_wp2
      go_ret
      exact ⟨rfl, HW.out⟩

end Go.Proofs.Ythcfgoknphpkdaa


/- The law GraphFills: heavyLists, sameLists, sameLinks. -/
namespace Go.Proofs.Ythcfgoknphpkdaa
open Go.RowKit Go.Shelf

/-- How many numbers lists hold, as far as i, their own count with them. -/
def totL (L : List (List Int)) (i : Nat) : Nat := L.length + ((L.take i).map List.length).sum
theorem totL_succ {L : List (List Int)} {i : Nat} (h : i < L.length) : totL L (i + 1) = totL L i + L[i].length := by
  rw [totL, totL, List.take_succ_eq_append_getElem h, List.map_append, List.sum_append]; simp; omega
theorem mem_le_sum : ∀ {l : List Nat} {x : Nat}, x ∈ l → x ≤ l.sum
  | y :: l, x, h => by
    rw [List.sum_cons]
    rcases List.mem_cons.1 h with rfl | h
    · omega
    · have := mem_le_sum h
      omega
theorem totL_each {L : List (List Int)} (h : totL L L.length ≤ 512) : ∀ l ∈ L, l.length ≤ 512 := fun l hl => by
  rw [totL, List.take_length] at h
  have : l.length ≤ (L.map List.length).sum := mem_le_sum (List.mem_map.2 ⟨l, hl, rfl⟩)
  omega

set_option maxRecDepth 100000 in
set_option maxHeartbeats 1000000 in
theorem heavyLists_any (a : Option Addr) (ca : Nat) (L : List (List Int)) (w : World) (h : LsS w a L) (hl : ∀ l ∈ L, l.length ≤ 140737488355328) (hL : L.length ≤ 140737488355328) :
    Calls Try.prog 5 #[.slice a L.length ca] w fun e w' => ∃ q, e = .returned (.bool q) ∧ (q = false → L.length ≤ 512 ∧ ∀ l ∈ L, l.length ≤ 512) ∧ w' = w := by
  have HF := hid h
  have HL := hid hl
  have HT0 : Hid (totL L 0 = L.length) := by show _ = _; simp [totL]
  have HTS : Hid (∀ i (h : i < L.length), totL L (i + 1) = totL L i + L[i].length) := fun i h => totL_succ h
  have HTE : Hid (totL L L.length ≤ 512 → L.length ≤ 512 ∧ ∀ l ∈ L, l.length ≤ 512) := fun h => ⟨by rw [totL] at h; omega, totL_each h⟩
  clear h hl
  generalize totL L = T at *
  go_enter Try.func5, Try.ntmps5
  go_wp2_with fail
  go_loopw [3, 4] (fun nv iv wr => ∃ i : Nat, i ≤ L.length ∧ iv = .int .i64 i ∧ nv = .int .i64 (T i : Nat) ∧ Hid (T i ≤ 281474976710656) ∧ wr = w) (fun _ iv _ => L.length - (intOf iv).toNat)
  case atStart => exact ⟨0, Nat.zero_le _, rfl, by rw [HT0.out], by show _ ≤ _; rw [HT0.out]; omega, rfl⟩
  case round =>
    obtain ⟨i, hi, rfl, rfl, HTB, rfl⟩ := hrel
    have htb := HTB.out
    by_cases hgo : i < L.length ∧ T i ≤ 512
    · obtain ⟨hil, hti⟩ := hgo
      obtain ⟨g, o, b, c, rfl, hg, c0, -⟩ := HF.out i hil
      have hli := HL.out _ (List.getElem_mem hil)
      have HS := hid (HTS.out i hil)
      generalize L[i].length = li at *
      generalize hT : T i = Ti at *
      clear hT HTB
      go_wp2_with fail
      go_roundw
      case rel => exact ⟨i + 1, by omega, by go_num, by rw [HS.out]; go_num, by show _ ≤ _; rw [HS.out]; omega, by first | rfl | trivial⟩
      case measure => simp [intOf]; omega
    · by_cases hil : i < L.length
      · have hti : ¬ T i ≤ 512 := fun h => hgo ⟨hil, h⟩
        generalize hT : T i = Ti at *
        clear hT hgo
        go_wp2
        go_ret
        exact ⟨true, by simp <;> omega, (fun h => by cases h), rfl⟩
      · obtain rfl : i = L.length := by omega
        by_cases hti : T L.length ≤ 512
        · have HE := hid (HTE.out hti)
          generalize hT : T L.length = Ti at *
          clear hT hgo
          go_wp2
          go_ret
          exact ⟨false, by simp <;> omega, fun _ => HE.out, rfl⟩
        · generalize hT : T L.length = Ti at *
          clear hT hgo
          go_wp2
          go_ret
          exact ⟨true, by simp <;> omega, (fun h => by cases h), rfl⟩

set_option maxRecDepth 100000 in
set_option maxHeartbeats 1000000 in
theorem sameLists_any (a b : Option Addr) (ca cb : Nat) (L : List (List Int)) (w : World) (ha : LsS w a L) (hb : LsS w b L) (hL : L.length ≤ 1000) (hl : ∀ l ∈ L, l.length ≤ 1000) :
    Calls Try.prog 17 #[.slice a L.length ca, .slice b L.length cb] w fun e w' => e = .returned (.bool true) ∧ Below w.heap.size w w' := by
  have HA := hid ha
  have HB := hid hb
  have HL := hid hl
  clear ha hb hl
  go_enter Try.func17, Try.ntmps17
  go_wp2_with fail
  go_loopw [5] (fun iv wr => ∃ i : Nat, i ≤ L.length ∧ iv = .int .i64 i ∧ Hid (Below w.heap.size w wr)) (fun iv _ => L.length - (intOf iv).toNat)
  case atStart => exact ⟨0, Nat.zero_le _, rfl, Below.refl _ _⟩
  case round =>
    obtain ⟨i, hi, rfl, HW⟩ := hrel
    by_cases hlt : i < L.length
    · obtain ⟨g, o, b1, c1, rfl, hg, k1, h1⟩ := HA.out i hlt
      obtain ⟨g2, o2, b2, c2, rfl, hg2, k2, h2⟩ := HB.out i hlt
      have hli := HL.out _ (List.getElem_mem hlt)
      have HC1 : Hid (∀ U : World, Below w.heap.size w U → U.cell? ⟨g, o + i, none⟩ = some (.slice b1 L[i].length c1)) := fun U hb => (hb.cell (p := ⟨g, _, none⟩) hg).trans k1
      have HC2 : Hid (∀ U : World, Below w.heap.size w U → U.cell? ⟨g2, o2 + i, none⟩ = some (.slice b2 L[i].length c2)) := fun U hb => (hb.cell (p := ⟨g2, _, none⟩) hg2).trans k2
      have HS := hid (fun (U : World) (hb : Below w.heap.size w U) => sameInts_any b1 b2 c1 c2 L[i] U (h1.below hb) (h2.below hb) (by omega))
      clear k1 k2 h1 h2
      generalize L[i].length = li at *
      go_upto_region 6 with fail
      refine wp_region_held_drew (S := fun U => U.cell? ⟨g, o + i, none⟩ = some (.slice b1 li c1) ∧ U.cell? ⟨g2, o2 + i, none⟩ = some (.slice b2 li c2)) (by kernel_rfl) ⟨HC1.out _ HW.out.drew, HC2.out _ HW.out.drew⟩ (fun hSd => ?_)
      refine wpAnyH_take (i := 0) (oi := _) (v := .slice (some ⟨g, o, none⟩) L.length ca) rfl (by kernel_rfl) (by kernel_rfl) (by kernel_rfl) (fun _ _ _ h => h) (Or.inl ⟨by rfl, ?_⟩) (by assumption) ?_
      · intro u' hSu
        (try simp only [List.getElem_toArray, List.getElem_cons_zero])
        go_simp
      (try simp only [List.getElem_toArray, List.getElem_cons_zero])
      (try simp only [Act.put, List.setIfInBounds_toArray, List.set_cons_zero, List.set_cons_succ])
      refine wpAnyH_take (i := 1) (oi := _) (v := .int .i64 (i : Nat)) rfl (by kernel_rfl) (by kernel_rfl) (by kernel_rfl) (fun _ _ _ h => h) (Or.inl ⟨by rfl, ?_⟩) (by assumption) ?_
      · intro u' hSu
        (try simp only [List.getElem_toArray, List.getElem_cons_zero, List.getElem_cons_succ])
        go_simp
      (try simp only [List.getElem_toArray, List.getElem_cons_zero, List.getElem_cons_succ])
      (try simp only [Act.put, List.setIfInBounds_toArray, List.set_cons_zero, List.set_cons_succ])
      refine wpAnyH_take (i := 2) (oi := _) (v := .pointer (some ⟨g, o + i, none⟩)) rfl (by kernel_rfl) (by kernel_rfl) (by kernel_rfl) (fun _ _ _ h => h) (Or.inl ⟨by rfl, ?_⟩) (by assumption) ?_
      · intro u' hSu
        (try simp only [List.getElem_toArray, List.getElem_cons_zero, List.getElem_cons_succ])
        go_simp
      (try simp only [List.getElem_toArray, List.getElem_cons_zero, List.getElem_cons_succ])
      (try simp only [Act.put, List.setIfInBounds_toArray, List.set_cons_zero, List.set_cons_succ])
      refine wpAnyH_take (i := 3) (oi := _) (v := .slice b1 li c1) rfl (by kernel_rfl) (by kernel_rfl) (by kernel_rfl) (fun _ _ _ h => h) (Or.inl ⟨by rfl, ?_⟩) (by assumption) ?_
      · intro u' hSu
        (try simp only [List.getElem_toArray, List.getElem_cons_zero, List.getElem_cons_succ])
        obtain ⟨s1, s2⟩ := hSu
        go_simp
      (try simp only [List.getElem_toArray, List.getElem_cons_zero, List.getElem_cons_succ])
      (try simp only [Act.put, List.setIfInBounds_toArray, List.set_cons_zero, List.set_cons_succ])
      refine wpAnyH_take (i := 4) (oi := _) (v := .slice (some ⟨g2, o2, none⟩) L.length cb) rfl (by kernel_rfl) (by kernel_rfl) (by kernel_rfl) (fun _ _ _ h => h) (Or.inl ⟨by rfl, ?_⟩) (by assumption) ?_
      · intro u' hSu
        (try simp only [List.getElem_toArray, List.getElem_cons_zero, List.getElem_cons_succ])
        go_simp
      (try simp only [List.getElem_toArray, List.getElem_cons_zero, List.getElem_cons_succ])
      (try simp only [Act.put, List.setIfInBounds_toArray, List.set_cons_zero, List.set_cons_succ])
      refine wpAnyH_take (i := 5) (oi := _) (v := .int .i64 (i : Nat)) rfl (by kernel_rfl) (by kernel_rfl) (by kernel_rfl) (fun _ _ _ h => h) (Or.inl ⟨by rfl, ?_⟩) (by assumption) ?_
      · intro u' hSu
        (try simp only [List.getElem_toArray, List.getElem_cons_zero, List.getElem_cons_succ])
        go_simp
      (try simp only [List.getElem_toArray, List.getElem_cons_zero, List.getElem_cons_succ])
      (try simp only [Act.put, List.setIfInBounds_toArray, List.set_cons_zero, List.set_cons_succ])
      refine wpAnyH_take (i := 6) (oi := _) (v := .pointer (some ⟨g2, o2 + i, none⟩)) rfl (by kernel_rfl) (by kernel_rfl) (by kernel_rfl) (fun _ _ _ h => h) (Or.inl ⟨by rfl, ?_⟩) (by assumption) ?_
      · intro u' hSu
        (try simp only [List.getElem_toArray, List.getElem_cons_zero, List.getElem_cons_succ])
        go_simp
      (try simp only [List.getElem_toArray, List.getElem_cons_zero, List.getElem_cons_succ])
      (try simp only [Act.put, List.setIfInBounds_toArray, List.set_cons_zero, List.set_cons_succ])
      refine wpAnyH_take (i := 7) (oi := _) (v := .slice b2 li c2) rfl (by kernel_rfl) (by kernel_rfl) (by kernel_rfl) (fun _ _ _ h => h) (Or.inl ⟨by rfl, ?_⟩) (by assumption) ?_
      · intro u' hSu
        (try simp only [List.getElem_toArray, List.getElem_cons_zero, List.getElem_cons_succ])
        obtain ⟨s1, s2⟩ := hSu
        go_simp
      (try simp only [List.getElem_toArray, List.getElem_cons_zero, List.getElem_cons_succ])
      (try simp only [Act.put, List.setIfInBounds_toArray, List.set_cons_zero, List.set_cons_succ])
      refine wpAnyH_ready (rs := [8]) (by kernel_rfl) (by simp) (AllReadyH.cons rfl ?_ (AllReadyH.nil))
      · intro K' hK'
        (try simp only [List.getElem_toArray, List.getElem_cons_zero, List.getElem_cons_succ])
        go_simp
        refine (HS.out _ HW.out.drew).mono ?_
        rintro r w5 ⟨rfl, hb5⟩
        have hl5 : Below w.heap.size w w5 := HW.out.drew.trans (hb5.mono HW.out.drew.size)
        refine hK'.out _ _ ⟨HC1.out _ hl5, HC2.out _ hl5⟩ (fun hSe => ?_)
        clear hK' K' hSd
        (try simp only [List.getElem_toArray, List.getElem_cons_zero, List.getElem_cons_succ])
        (try simp only [Act.put, List.setIfInBounds_toArray, List.set_cons_zero, List.set_cons_succ])
        refine wpAnyH_take (i := 9) (oi := _) (v := .bool false) rfl (by kernel_rfl) (by kernel_rfl) (by kernel_rfl) (fun _ _ _ h => h) (Or.inl ⟨by rfl, ?_⟩) (by assumption) ?_
        · intro u' hSu
          (try simp only [List.getElem_toArray, List.getElem_cons_zero, List.getElem_cons_succ])
          go_simp
        (try simp only [List.getElem_toArray, List.getElem_cons_zero, List.getElem_cons_succ])
        (try simp only [Act.put, List.setIfInBounds_toArray, List.set_cons_zero, List.set_cons_succ])
        refine wpAnyH_done (by kernel_rfl) ?_ _
        clear hSe
        have HW5 := hid hl5
        clear hl5 hb5
        go_wp2
        go_roundw
        case rel => exact ⟨i + 1, by omega, by go_num, HW5⟩
        case measure => simp [intOf]; omega
    · obtain rfl : i = L.length := by omega
      go_wp2
      go_ret
      exact ⟨rfl, HW.out⟩

set_option maxRecDepth 100000 in
set_option maxHeartbeats 400000 in
theorem sameInts_q (a b : Option Addr) (ca cb : Nat) (l : List Int) (w : World) (ha : IntS w a l) (hb : IntS w b l) (hn : l.length ≤ 100000) :
    Calls Try.prog 8 #[.slice a l.length ca, .slice b l.length cb] w fun e w' => e = .returned (.bool true) ∧ ∃ m, w' = w.drewN m := by
  have HA := hid (fun m => ha.below (below_drewN (Below.refl _ w) m))
  have HB := hid (fun m => hb.below (below_drewN (Below.refl _ w) m))
  clear ha hb
  go_enter Try.func8, Try.ntmps8
  go_wp2_with fail
  go_loopw [5] (fun iv wr => ∃ i : Nat, i ≤ l.length ∧ iv = .int .i64 i ∧ Hid (∃ m, wr = w.drewN m)) (fun iv _ => l.length - (intOf iv).toNat)
  case atStart => exact ⟨0, Nat.zero_le _, rfl, ⟨0, rfl⟩⟩
  case round =>
    obtain ⟨i, hi, rfl, HW⟩ := hrel
    have HA' : Hid (IntS wr a l) := by
      obtain ⟨m, e⟩ := HW.out
      show IntS wr a l
      rw [e]
      exact HA.out m
    have HB' : Hid (IntS wr b l) := by
      obtain ⟨m, e⟩ := HW.out
      show IntS wr b l
      rw [e]
      exact HB.out m
    have HN : Hid (∀ n', ∃ m, wr.drewN n' = w.drewN m) := fun n' => by
      obtain ⟨m, e⟩ := HW.out
      exact ⟨m + n', by rw [e, World.drewN_drewN]⟩
    by_cases hlt : i < l.length
    · obtain ⟨g, o, rfl, hg, c0⟩ := HA'.out i hlt
      obtain ⟨g2, o2, rfl, hg2, c2⟩ := HB'.out i hlt
      generalize l[i] = x at *
      go_wp2_with fail
      go_quiet (fail)
      go_wp2
      go_roundw
      case rel => exact ⟨i + 1, by omega, by go_num, HN.out _⟩
      case measure => simp [intOf]; omega
    · obtain rfl : i = l.length := by omega
      go_wp2
      go_ret
      exact ⟨rfl, HW.out⟩

end Go.Proofs.Ythcfgoknphpkdaa


/- The law CauseGraphs. -/
namespace Go.Proofs.Ythcfgoknphpkdaa
open Go.RowKit Go.Shelf

set_option maxRecDepth 100000 in
set_option maxHeartbeats 4000000 in
theorem causeGraphs_any (a bx by' bz bv : Option Addr) (ca cx cy cz cv : Nat) (L : List (List Int)) (k : Int) (x y z v : List Int) (s t : Int) (w : World) (hL : LsS w a L) (hx : IntS w bx x) (hy : IntS w by' y) (hz : IntS w bz z) (hv : IntS w bv v) (hx0 : bx = none → cx = 0) (hy0 : by' = none → cy = 0) (hz0 : bz = none → cz = 0) (hv0 : bv = none → cv = 0) (hLl : L.length ≤ 140737488355328 ∧ ∀ l ∈ L, l.length ≤ 140737488355328) (hxl : x.length ≤ 140737488355328) (hyl : y.length ≤ 140737488355328) (hzl : z.length ≤ 140737488355328) (hvl : v.length ≤ 140737488355328) :
    Calls Try.prog 4 #[.slice a L.length ca, .int .i64 k, .slice bx x.length cx, .slice by' y.length cy, .slice bz z.length cz, .slice bv v.length cv, .int .i64 s, .int .i64 t] w fun e w' => e = .returned (.bool true) ∧ Below w.heap.size w w' := by
  have HH1 := hid (heavyLists_any a ca L w hL hLl.2 hLl.1)
  have HC : Hid (L.length ≤ 512 → (∀ l ∈ L, l.length ≤ 512) → x.length ≤ 512 → y.length ≤ 512 → z.length ≤ 512 → v.length ≤ 512 → ∀ U : World, Below w.heap.size w U →
      (∃ rb re, (Calls Try.prog 18 #[.slice a L.length ca, .int .i64 k, .slice bx x.length cx, .slice by' y.length cy, .slice bz z.length cz, .slice bv v.length cv] U fun e w' => e = .returned (.tuple #[.bool rb, .int .i64 re]) ∧ Below U.heap.size U w') ∧ ∀ U' : World, Below U.heap.size U U' → Calls Try.prog 19 #[.slice a L.length ca, .int .i64 k, .slice bx x.length cx, .slice by' y.length cy, .slice bz z.length cz, .slice bv v.length cv] U' fun e w' => e = .returned (.tuple #[.bool rb, .int .i64 re]) ∧ Below U'.heap.size U' w') ∧
      (∃ rb re, (Calls Try.prog 20 #[.slice a L.length ca, .int .i64 s, .int .i64 t, .slice bz z.length cz] U fun e w' => e = .returned (.tuple #[.bool rb, .int .i64 re]) ∧ Below U.heap.size U w') ∧ ∀ U' : World, Below U.heap.size U U' → Calls Try.prog 21 #[.slice a L.length ca, .int .i64 s, .int .i64 t, .slice bz z.length cz] U' fun e w' => e = .returned (.tuple #[.bool rb, .int .i64 re]) ∧ Below U'.heap.size U' w') ∧
      ∃ rb re, (Calls Try.prog 22 #[.slice a L.length ca, .int .i64 s, .int .i64 t, .slice bz z.length cz] U fun e w' => e = .returned (.tuple #[.bool rb, .int .i64 re]) ∧ Below U.heap.size U w') ∧ ∀ U' : World, Below U.heap.size U U' → Calls Try.prog 23 #[.slice a L.length ca, .int .i64 s, .int .i64 t, .slice bz z.length cz] U' fun e w' => e = .returned (.tuple #[.bool rb, .int .i64 re]) ∧ Below U'.heap.size U' w') := fun h1 h2 h3 h4 h5 h6 U hU => by
    have hl1 : ∀ l ∈ L, l.length ≤ 1000 := fun l hl => by have := h2 l hl; omega
    have hU2 : ∀ U' : World, Below U.heap.size U U' → Below w.heap.size w U' := fun U' h => hU.trans (h.mono hU.size)
    refine ⟨⟨_, _, cRule_any a bx by' bz bv ca cx cy cz cv L k x y z v U (hL.below hU) hl1 (hx.below hU) (hy.below hU) (hz.below hU) (hv.below hU) hx0 hy0 hz0 hv0 (by omega) (by omega) (by omega) (by omega), fun U' h => rRule_any a bx by' bz bv ca cx cy cz cv L k x y z v U' (hL.below (hU2 U' h)) hl1 (by omega) (hx.below (hU2 U' h)) (hy.below (hU2 U' h)) (hz.below (hU2 U' h)) (hv.below (hU2 U' h)) (by omega) (by omega) (by omega) (by omega)⟩, ⟨_, _, cBack_any a bz ca cz L s t z U (hL.below hU) hl1 (hz.below hU) hz0 (by omega), fun U' h => rBack_any a bz ca cz L s t z U' (hL.below (hU2 U' h)) hl1 (by omega) (hz.below (hU2 U' h)) (by omega)⟩, ⟨_, _, cFront_any a bz ca cz L s t z U (hL.below hU) hl1 (hz.below hU) hz0 (by omega), fun U' h => rFront_any a bz ca cz L s t z U' (hL.below (hU2 U' h)) hl1 (by omega) (hz.below (hU2 U' h)) (by omega)⟩⟩
  clear hL hx hy hz hv hx0 hy0 hz0 hv0
  go_enter Try.func4, Try.ntmps4
  go_wp2_with fail
  refine HH1.out.mono ?_
  rintro e w1 ⟨q1, rfl, hq1, rfl⟩
  cases q1 with
  | true =>
    clear hq1
    go_wp2
    go_ret
    exact ⟨rfl, Below.refl _ _⟩
  | false =>
    obtain ⟨hn1, hn2⟩ := hq1 rfl
    have HNS := hid hn2
    clear hq1 hn2 HH1
    by_cases hbig : 512 < x.length + y.length + z.length + v.length
    · go_wp2
      go_ret
      exact ⟨rfl, Below.refl _ _⟩
    · have HC1 := hid (HC.out hn1 HNS.out (by omega) (by omega) (by omega) (by omega))
      clear HC
      obtain ⟨⟨rb, re, hA, hB⟩, _, _⟩ := HC1.out _ (Below.refl _ _)
      have HA := hid hA
      have HBR := hid hB
      clear hA hB
      have hnb : (rb != rb) = false := bne_self_eq_false _
      have hne : (re != re) = false := bne_self_eq_false _
      go_wp2_with fail
      refine HA.out.mono ?_
      rintro e w2 ⟨rfl, hb2⟩
      have HB2 := hid hb2
      have HR := hid (HBR.out w2 hb2)
      clear hb2 HA HBR
      go_wp2_with fail
      refine HR.out.mono ?_
      rintro e w3 ⟨rfl, hb3⟩
      have HB3 := hid (HB2.out.trans (hb3.mono HB2.out.size))
      clear hb3 HR
      obtain ⟨_, ⟨rb2, re2, hA, hB⟩, _⟩ := HC1.out _ HB3.out
      have HA := hid hA
      have HBR := hid hB
      clear hA hB
      have hnb2 : (rb2 != rb2) = false := bne_self_eq_false _
      have hne2 : (re2 != re2) = false := bne_self_eq_false _
      go_wp2_with fail
      refine HA.out.mono ?_
      rintro e w4 ⟨rfl, hb4⟩
      have HB4 := hid (HB3.out.trans (hb4.mono HB3.out.size))
      have HR := hid (HBR.out w4 hb4)
      clear hb4 HA HBR hnb hne
      go_wp2_with fail
      refine HR.out.mono ?_
      rintro e w5 ⟨rfl, hb5⟩
      have HB5 := hid (HB4.out.trans (hb5.mono HB4.out.size))
      clear hb5 HR
      obtain ⟨_, _, rb3, re3, hA, hB⟩ := HC1.out _ HB5.out
      have HA := hid hA
      have HBR := hid hB
      clear hA hB
      have hnb3 : (rb3 == rb3) = true := beq_self_eq_true _
      have hne3 : (re3 == re3) = true := beq_self_eq_true _
      go_wp2_with fail
      refine HA.out.mono ?_
      rintro e w6 ⟨rfl, hb6⟩
      have HB6 := hid (HB5.out.trans (hb6.mono HB5.out.size))
      have HR := hid (HBR.out w6 hb6)
      clear hb6 HA HBR hnb2 hne2
      go_wp2_with fail
      refine HR.out.mono ?_
      rintro e w7 ⟨rfl, hb7⟩
      have HB7 := hid (HB6.out.trans (hb7.mono HB6.out.size))
      clear hb7 HR
      go_wp2
      go_ret
      exact ⟨rfl, HB7.out⟩
end Go.Proofs.Ythcfgoknphpkdaa


/- A lifting that hands on the world's shape beside what the row lists; fractions opened and shut. -/
namespace Go.Proofs.Ythcfgoknphpkdaa
open Go.ChangeShapes Go.WideShapes Go.ChangeAt Go.RowKit

theorem lift_shaped {H : Type} {enc : TypeId × Value → H} {a : Assume} {C : Checked} {os : Os} {f : FuncId} {fn : Func} {s : ChangeSpec} {conds : List PathCond} {apart fresh handsOn again : Bool} {X : World → Array Value → Prop}
    (hX : ∀ (w w' : World) (args : Array Value), w.heap = w'.heap → X w args → X w' args)
    (own : ownKnob C.prog.godebug = none) (started : os.Started) (noInit : C.prog.inits.idxOf? f = none) (hfn : C.prog.funcs[f]? = some fn)
    (witness : ∃ (w : World) (tape : Tape) (i : Input), w.os = os ∧ (w.forCall tape i).Shaped C.prog ∧ i.vars = [] ∧ Input.okWide C.prog (w.forCall tape i) .any w.heap.size f i ∧
      ((s.pre enc C.prog fn conds apart (w.forCall tape i).memory i.args ∧ X (w.forCall tape i).memory i.args) ∧ sizedMet enc C.prog fn (OpenSpec.ofChange s) apart (w.forCall tape i).memory i.args) ∧ a.holds C.prog (lone (Frame.enter C.prog f i.args .normal) [] (w.forCall tape i)))
    (walk : ∀ (W : World) (base : Nat) (args : Array Value) (ds gs : List (DataW H)) (before : List MemPlace),
      (∀ (j : Nat) t v, fn.params[j]? = some t → args[j]? = some v → Value.okWide C.prog W .any base t v) →
      DataW.Whole enc C.prog fn.params.toList s.vars apart W args.toList ds gs before →
      (DataW.weightsEach C.prog (fn.params.toList ++ s.plain.varTypes C.prog) (ds ++ gs)).all (· ≤ reachBytes) = true → X W args → W.ShapedOpen C.prog →
      Calls C.prog f args W fun e W' => ∃ v, e = .returned v ∧ s.post enc C.prog fn apart fresh handsOn again W args v W') :
    ReturnsInHanded a C os f .any (fun w args => (s.pre enc C.prog fn conds apart w args ∧ X w args) ∧ sizedMet enc C.prog fn (OpenSpec.ofChange s) apart w args) (s.post enc C.prog fn apart fresh handsOn again) := by
  refine returnsInHanded_of_calls own started noInit witness ?_
  intro w tape i _ hsh _ hok hpre _
  obtain ⟨_, _, _, fn', hfn', _, _, _, _, hval⟩ := hok
  obtain rfl : fn' = fn := Option.some.inj (hfn'.symm.trans hfn)
  obtain ⟨⟨⟨ds, gs, before, hw, _⟩, hx⟩, hz⟩ := hpre
  refine (walk (w.forCall tape i) w.heap.size i.args ds gs before hval (DataW.Whole.of_heap (w' := w.forCall tape i) (by rfl) hw) (hz.weights hw) (hX _ _ _ (by rfl) hx) hsh).mono fun e W' ⟨v, he, hp⟩ => ?_
  subst he
  exact ChangeSpec.post_blind hp

theorem cellsB : Try.prog.cellsOf 4 = 1 := by kernel_rfl
end Go.Proofs.Ythcfgoknphpkdaa


/- A slice of fractions that came in, opened. -/
namespace Go.Proofs.Ythcfgoknphpkdaa
open Go.ChangeShapes Go.WideShapes Go.ChangeAt Go.RowKit

theorem cell_lt {w : World} {a : Addr} {v : Value} (h : w.cell? a = some v) : a.block < w.heap.size := by
  rcases Nat.lt_or_ge a.block w.heap.size with h1 | h1
  · exact h1
  · simp [World.cell?, Array.getElem?_eq_none h1] at h
/-- What a fraction reads as. -/
def fd {H : Type} (f : Fr) : DataW H := .agg [.lit (.bool f.1), .lit (.string f.2.1.data.toList), .lit (.string f.2.2.data.toList)]
theorem weights_all {H : Type} {P : Program} {e : TypeId} {n : Nat} : ∀ {l : List (DataW H)} {d : DataW H}, d ∈ l → n ∈ d.weights P e → n ∈ DataW.weightsAll P e l
  | x :: l, d, hd, hn => by
    simp only [DataW.weightsAll, List.mem_append]
    rcases List.mem_cons.1 hd with rfl | hd
    · exact .inl hn
    · exact .inr (weights_all hd hn)
end Go.Proofs.Ythcfgoknphpkdaa


/- Both answer alike: each call on tables, in package table and in the document's answer. -/
namespace Go.Proofs.Ythcfgoknphpkdaa
open Go.RowKit Go.Shelf

/-- Both answer the same table and error. -/
def TwoT (w : World) (f g : FuncId) (args : Array Value) : Prop := ∃ (V : List Int) (L : List Fr) (k : Int), V.length ≤ 100000 ∧ L.length ≤ 100000 ∧
  (∀ W, Below w.heap.size w W → Calls Try.prog f args W fun e w' => TabA V L k e w' ∧ Below W.heap.size W w') ∧ ∀ W, Below w.heap.size w W → Calls Try.prog g args W fun e w' => TabA V L k e w' ∧ Below W.heap.size W w'
/-- A table that came in. -/
structure TIn (w : World) (b c : Option Addr) (cb : Nat) (vars : List Int) (l : List Fr) : Prop where
  ints : IntS w b vars
  cells : FrS w c l
  nil : b = none → cb = 0
  len : vars.length ≤ 4096
  small : fw l ≤ 8192
theorem TIn.below {w w' : World} {b c : Option Addr} {cb : Nat} {vars : List Int} {l : List Fr} (h : TIn w b c cb vars l) (hb : Below w.heap.size w w') : TIn w' b c cb vars l := ⟨h.ints.below hb, h.cells.below hb, h.nil, h.len, h.small⟩
theorem cnt_all {sizes vars : List Int} (h1 : Fine sizes) (h2 : Up vars sizes.length) : cnt (toN sizes) (toN vars) ≤ 65536 := cnt_small h1.sz_le (by rw [toN_length]; have := h1.eight; have := h2.length; omega)
end Go.Proofs.Ythcfgoknphpkdaa


/- Lists of ints and tables that came in, opened. -/
namespace Go.Proofs.Ythcfgoknphpkdaa
open Go.ChangeShapes Go.WideShapes Go.ChangeAt Go.RowKit

/-- What an int reads as. -/
def idt {H : Type} (x : Int) : DataW H := .lit (.int .i64 x)
theorem cellsI : Try.prog.cellsOf 3 = 1 := by kernel_rfl
theorem cellsIs : Try.prog.cellsOf 23 = 1 := by kernel_rfl
set_option maxRecDepth 100000 in
theorem trod_ints {H : Type} {enc : TypeId × Value → H} {W : World} {fuel : Nat} {cs : List Value} {x : DataW H × List MemPlace} (hf : DataW.trod enc Try.prog W 0 (fun _ => true) true fuel 23 cs = some x) :
    ∃ (a : Option Addr) (cap : Nat) (l : List Int), cs = [.slice a l.length cap] ∧ IntS W a l ∧ (a = none → cap = 0) ∧ ((x.1 = .nil ∧ l = []) ∨ ∃ rest, x.1 = .slice (l.map idt) rest) ∧ ∀ y ∈ l, -9223372036854775808 ≤ y ∧ y ≤ 9223372036854775807 := by
  rcases Deep.open_slice Try.underlying23 hf with ⟨hcs, hx⟩ | ⟨a', len, cap, m, n, D, Pl, hcs, hb, hl, hm, hmm, hx, hel⟩
  · exact ⟨none, 0, [], hcs, fun k hk => absurd hk (by simp), fun _ => rfl, .inl ⟨by rw [hx], rfl⟩, fun _ h => by cases h⟩
  · have hlm : len ≤ m := by rw [hmm]; split <;> omega
    rw [cellsI] at hel
    have each : ∀ i, i < len → ∃ z : Int, (W.cell? (a'.add (i * 1)) = some (.int .i64 z) ∧ -9223372036854775808 ≤ z ∧ z ≤ 9223372036854775807) ∧ D i = idt z := by
      intro i hi
      obtain ⟨cs', h1, h2⟩ := hel i (by omega)
      obtain ⟨_, hlen, hcell⟩ := World.cells?_some h1
      obtain ⟨z, e0, hxx, hwf⟩ := DataW.trod_int Try.underlying3 h2
      subst e0
      simp only [Prod.mk.injEq] at hxx
      have g0 := hcell 0 (by omega)
      rw [Deep.add_add] at g0
      exact ⟨z, ⟨by simpa using g0, bounds_i64 hwf⟩, hxx.1⟩
    obtain ⟨f, hf2⟩ := Deep.choose_lt (α := Int) each
    refine ⟨some a', cap, (List.range len).map f, by rw [hcs]; simp, ?_, fun e => by (cases e), .inr ⟨(List.range (m - len)).map fun j => D (len + j), ?_⟩, ?_⟩
    · intro k hk
      have hk' : k < len := by simpa using hk
      obtain ⟨⟨g0, _⟩, _⟩ := hf2 k hk'
      obtain ⟨⟨z0, _⟩, _⟩ := hf2 0 (by omega)
      have hsp := World.cell?_spot z0
      obtain ⟨bb, oo, sp⟩ := a'
      rw [Nat.zero_mul] at hsp
      simp [Addr.add] at hsp
      subst hsp
      rw [add_plain] at g0
      refine ⟨bb, oo, rfl, cell_lt g0, ?_⟩
      simpa using g0
    · rw [hx]
      show DataW.slice _ _ = DataW.slice _ _
      congr 1
      rw [List.map_map]
      exact List.map_congr_left fun i hi => (hf2 i (List.mem_range.1 hi)).2
    · intro y hy
      obtain ⟨i, hi, rfl⟩ := List.mem_map.1 hy
      exact (hf2 i (List.mem_range.1 hi)).1.2
set_option maxRecDepth 100000 in
theorem open_ints {H : Type} {enc : TypeId × Value → H} {W : World} {r : Reach} {b0 : Nat} {v : Value} {d : DataW H} {p : List MemPlace} (hval : Value.okWide Try.prog W r b0 23 v) (h : DataW.Trod enc Try.prog W 0 (fun _ => true) true 23 v d p) :
    ∃ (a : Option Addr) (cap : Nat) (l : List Int), v = .slice a l.length cap ∧ IntS W a l ∧ (a = none → cap = 0) ∧ ((d = .nil ∧ l = []) ∨ ∃ rest, d = .slice (l.map idt) rest) ∧ ∀ x ∈ l, -9223372036854775808 ≤ x ∧ x ≤ 9223372036854775807 := by
  obtain ⟨a, len, cap, rfl⟩ := okWide_slice Try.underlying23 hval
  obtain ⟨fuel, hf⟩ := h
  obtain ⟨a', cap', l, hcs, hi, h0, hd, hr⟩ := trod_ints hf
  simp [Value.cells] at hcs
  obtain ⟨rfl, rfl, rfl⟩ := hcs
  exact ⟨a, cap, l, rfl, hi, h0, hd, hr⟩
theorem bytesI : Try.prog.bytesOf 3 = 8 := by kernel_rfl
theorem sized_ints {H : Type} {ts : List TypeId} {ds : List (DataW H)} (h : (DataW.weightsEach Try.prog ts ds).all (· ≤ reachBytes) = true) {j : Nat} {l : List Int} {d : DataW H} (ht : ts[j]? = some 23) (hd : ds[j]? = some d) (hl : (d = .nil ∧ l = []) ∨ ∃ rest, d = .slice (l.map idt) rest) :
    l.length ≤ 140737488355328 := by
  rcases hl with ⟨_, rfl⟩ | ⟨rest, rfl⟩
  · simp
  have h1 := List.all_eq_true.1 h _ (DataW.weights_mem_each ht hd (((l.map (idt (H := H))).length + rest.length) * Try.prog.bytesOf 3) (by simp [DataW.weights, Try.underlying23]))
  have h1' : ((l.map (idt (H := H))).length + rest.length) * Try.prog.bytesOf 3 ≤ reachBytes := by simpa using h1
  rw [bytesI, List.length_map] at h1'
  simp only [reachBytes] at h1'
  omega
end Go.Proofs.Ythcfgoknphpkdaa

