/- Package table: Norm. -/
import Derived.Test.YtockhhleapbpiaaSliAToTogA
import Derived.Test.YtockhhleapbpiaaFilFToNormA
import Derived.Test.YtockhhleapbpiaaStandAToBestA
import Derived.Laws.EntriesVeiled
import Derived.BigQuiet
namespace Go.Proofs.Ytockhhleapbpiaa
open Go.RowKit Go.Shelf

theorem normL_length (l : List Fr) : (normL l).length = l.length := by simp [normL]
theorem normL_get (l : List Fr) {k : Nat} (h : k < (normL l).length) : (normL l)[k] = qF (frQ (l[k]'(by rw [normL_length] at h; exact h)) * (1 / fsum l)) := by simp [normL]
theorem qw_inv {q : Rat} (h : q ≠ 0) : qw (1 / q) ≤ qw q + 1 := by
  have e : val (sgn q) (nu q) (de q) ≠ 0 := by rw [val_own]; exact h
  have h0 := fun h => e (val_zero_iff.2 h)
  have e1 : 1 / q = val (sgn q) (de q) (nu q) := by rw [val_inv _ _ _ (fun h => h0 (.inl h)) (fun h => h0 (.inr h)), val_own, Rat.div_def, Rat.one_mul]
  rw [e1]
  refine Nat.le_trans (qw_val _ _ _) ?_
  show (B q.den).size + (B q.num.natAbs).size + 1 ≤ qw q + 1
  rw [qw]
  omega
theorem qw_sum {l : List Fr} (h : fw l ≤ 10000) : qw (fsum l) ≤ 20002 := by have := fits_qw (fits_sum l); omega

end Go.Proofs.Ytockhhleapbpiaa


/- The document's answer: Norm. -/
namespace Go.Proofs.Ytockhhleapbpiaa
open Go.RowKit Go.Shelf

end Go.Proofs.Ytockhhleapbpiaa


/- Package table: together. -/
namespace Go.Proofs.Ytockhhleapbpiaa
open Go.RowKit Go.Shelf Go.Sort Go.Lib

end Go.Proofs.Ytockhhleapbpiaa


/- Package table: the closure of Product. -/
namespace Go.Proofs.Ytockhhleapbpiaa
open Go.RowKit Go.Shelf

end Go.Proofs.Ytockhhleapbpiaa


/- Package table: Product. -/
namespace Go.Proofs.Ytockhhleapbpiaa
open Go.RowKit Go.Shelf

/-- What is no nil function lies elsewhere. -/
theorem nil_far {V : World} {B b j : Nat} {t : TypeId} {x : Value} (h : Boxed V B t .nilFunc) (hx : V.cell? ⟨b, j, none⟩ = some x) (hn : x ≠ .nilFunc) : b ≠ B := fun e => by
  subst e
  rw [cell_of_row V b j _ _ (0, 0) h] at hx
  match j with
  | 0 => simp at hx; exact hn hx.symm
  | j + 1 => simp at hx
theorem intS_nil {V : World} {B : Nat} {t : TypeId} {c : Option Addr} {l : List Int} (h : Boxed V B t .nilFunc) (hi : IntS V c l) (y : Value) : IntS (V.setCell ⟨B, 0, none⟩ y) c l := fun k hk => by
  obtain ⟨g, o, rfl, hlt, hc⟩ := hi k hk
  have hne := nil_far h hc (by simp)
  exact ⟨g, o, rfl, Nat.lt_of_lt_of_le hlt (KeepsOthers.setCell V _ _).size, (World.cell?_setCell_other _ _ _ _ (fun e => hne (congrArg Addr.block e).symm)).trans hc⟩
theorem prodL_length (S va vb U : List Nat) (la lb : List Fr) : (prodL S va vb U la lb).length = cnt S U := by simp [prodL]
theorem prodL_get (S va vb U : List Nat) (la lb : List Fr) {k : Nat} (h : k < (prodL S va vb U la lb).length) : (prodL S va vb U la lb)[k] = qF (frQ (celF la (pos S (asg S U k) va)) * frQ (celF lb (pos S (asg S U k) vb))) := by simp [prodL]
theorem stand_lt {sizes vars U : List Int} {K m : Nat} (hk : checkA sizes vars m = 0) (hK : K < cnt (toN sizes) (toN U)) : pos (toN sizes) (asg (toN sizes) (toN U) K) (toN vars) < m := by
  obtain ⟨h1, h2, h3⟩ := checkA_parts hk
  rw [h3]
  exact pos_lt _ (fun u => asg_lt h1.pos _ _ u hK) _

end Go.Proofs.Ytockhhleapbpiaa


/- The document's answer: Product. -/
namespace Go.Proofs.Ytockhhleapbpiaa
open Go.RowKit Go.Shelf

/-- The variables so far. -/
def bothI (a b : List Int) (i : Nat) : List Int := iL (bothN i a b)
theorem bothI_succ (a b : List Int) (i : Nat) : bothI a b (i + 1) = bothI a b i ++ if (inB (i : Int) a || inB (i : Int) b) = true then [(i : Int)] else [] := by
  rw [bothI, bothI, bothN, bothN, List.range_succ, List.filter_append, iL, iL, List.map_append]
  congr 1
  by_cases h : (inB (i : Int) a || inB (i : Int) b) = true
  · simp only [List.filter_cons, h, List.filter_nil, if_true, List.map_cons, List.map_nil]
  · simp only [List.filter_cons, h, List.filter_nil]
    rfl
theorem bothI_len (a b : List Int) (i : Nat) : (bothI a b i).length ≤ i := by
  rw [bothI, iL_length]
  exact Nat.le_trans (List.length_filter_le _ _) (by rw [List.length_range]; exact Nat.le_refl _)
theorem RwI.off {w : World} {B : Nat} {v : Value} {l : List Int} (h : RwI w B v l) (b j : Nat) (y : Value) (hb : b < B) : RwI (w.setCell ⟨b, j, none⟩ y) B v l := by
  refine ⟨h.1, h.2.imp id ?_⟩
  rintro ⟨g, cap, cur, h1, h2, h3, h4⟩
  exact ⟨g, cap, cur, h1, h2, (Below.heap_setCell w ⟨b, j, none⟩ y g (by show g ≠ b; omega)).trans h3, h4⟩
theorem RwI.below {w w' : World} {B : Nat} {v : Value} {l : List Int} (h : RwI w B v l) (hb : Below w.heap.size w w') : RwI w' B v l := by
  refine ⟨h.1, h.2.imp id ?_⟩
  rintro ⟨g, cap, cur, h1, h2, h3, h4⟩
  exact ⟨g, cap, cur, h1, h2, (hb.block g (Array.getElem?_eq_some_iff.1 h3).1).trans h3, h4⟩
theorem RwI.slv {w : World} {B : Nat} {v : Value} {l : List Int} (h : RwI w B v l) : SlV v := by
  obtain ⟨d, cd, e, _⟩ := h.ints
  exact ⟨d, _, cd, e⟩
theorem RwI.intS {w : World} {B : Nat} {d : Option Addr} {cd : Nat} {U : List Int} (h : RwI w B (.slice d U.length cd) U) : IntS w d U := by
  obtain ⟨d', cd', e, hi⟩ := h.ints
  cases e
  exact hi

end Go.Proofs.Ytockhhleapbpiaa


/- Package table: Best. -/
namespace Go.Proofs.Ytockhhleapbpiaa
open Go.RowKit Go.Shelf

end Go.Proofs.Ytockhhleapbpiaa


/- The law's comparison of two answers beside errors. -/
namespace Go.Proofs.Ytockhhleapbpiaa
open Go.RowKit

end Go.Proofs.Ytockhhleapbpiaa


/- The law's small functions on tables. -/
namespace Go.Proofs.Ytockhhleapbpiaa
open Go.RowKit Go.Shelf

set_option maxRecDepth 100000 in
set_option maxHeartbeats 400000 in
theorem sameInts_any (a b : Option Addr) (ca cb : Nat) (l : List Int) (w : World) (ha : IntS w a l) (hb : IntS w b l) (hn : l.length ≤ 100000) :
    Calls Try.prog 10 #[.slice a l.length ca, .slice b l.length cb] w fun e w' => e = .returned (.bool true) ∧ Below w.heap.size w w' := by
  have HA := hid ha
  have HB := hid hb
  clear ha hb
  go_enter Try.func10, Try.ntmps10
  go_wp2_with fail
  go_loopw [5] (fun iv wr => ∃ i : Nat, i ≤ l.length ∧ iv = .int .i64 i ∧ Hid (Below w.heap.size w wr)) (fun iv _ => l.length - (intOf iv).toNat)
  case atStart => exact ⟨0, Nat.zero_le _, rfl, Below.refl _ _⟩
  case round =>
    obtain ⟨i, hi, rfl, HW⟩ := hrel
    by_cases hlt : i < l.length
    · obtain ⟨g, o, rfl, hg, c0⟩ := (HA.out.below HW.out) i hlt
      obtain ⟨g2, o2, rfl, hg2, c2⟩ := (HB.out.below HW.out) i hlt
      generalize l[i] = x at *
      go_wp2_with fail
      go_quiet (fail)
      go_wp2
      go_roundw
      case rel => exact ⟨i + 1, by omega, by go_num, below_dn HW.out _⟩
      case measure => simp [intOf]; omega
    · obtain rfl : i = l.length := by omega
      go_wp2
      go_ret
      exact ⟨rfl, HW.out⟩

end Go.Proofs.Ytockhhleapbpiaa


/- The law GraphFills: heavyLists, sameLists, sameLinks. -/
namespace Go.Proofs.Ytockhhleapbpiaa
open Go.RowKit Go.Shelf

/-- How many numbers lists hold, as far as i, their own count with them. -/
def totL (L : List (List Int)) (i : Nat) : Nat := L.length + ((L.take i).map List.length).sum
theorem totL_succ {L : List (List Int)} {i : Nat} (h : i < L.length) : totL L (i + 1) = totL L i + L[i].length := by
  rw [totL, totL, List.take_succ_eq_append_getElem h, List.map_append, List.sum_append]; simp; omega
theorem mem_le_sum : ∀ {l : List Nat} {x : Nat}, x ∈ l → x ≤ l.sum
  | y :: l, x, h => by
    rw [List.sum_cons]
    rcases List.mem_cons.1 h with rfl | h
    · omega
    · have := mem_le_sum h
      omega
theorem totL_each {L : List (List Int)} (h : totL L L.length ≤ 512) : ∀ l ∈ L, l.length ≤ 512 := fun l hl => by
  rw [totL, List.take_length] at h
  have : l.length ≤ (L.map List.length).sum := mem_le_sum (List.mem_map.2 ⟨l, hl, rfl⟩)
  omega

set_option maxRecDepth 100000 in
set_option maxHeartbeats 1000000 in
theorem heavyLists_any (a : Option Addr) (ca : Nat) (L : List (List Int)) (w : World) (h : LsS w a L) (hl : ∀ l ∈ L, l.length ≤ 140737488355328) (hL : L.length ≤ 140737488355328) :
    Calls Try.prog 7 #[.slice a L.length ca] w fun e w' => ∃ q, e = .returned (.bool q) ∧ (q = false → L.length ≤ 512 ∧ ∀ l ∈ L, l.length ≤ 512) ∧ w' = w := by
  have HF := hid h
  have HL := hid hl
  have HT0 : Hid (totL L 0 = L.length) := by show _ = _; simp [totL]
  have HTS : Hid (∀ i (h : i < L.length), totL L (i + 1) = totL L i + L[i].length) := fun i h => totL_succ h
  have HTE : Hid (totL L L.length ≤ 512 → L.length ≤ 512 ∧ ∀ l ∈ L, l.length ≤ 512) := fun h => ⟨by rw [totL] at h; omega, totL_each h⟩
  clear h hl
  generalize totL L = T at *
  go_enter Try.func7, Try.ntmps7
  go_wp2_with fail
  go_loopw [3, 4] (fun nv iv wr => ∃ i : Nat, i ≤ L.length ∧ iv = .int .i64 i ∧ nv = .int .i64 (T i : Nat) ∧ Hid (T i ≤ 281474976710656) ∧ wr = w) (fun _ iv _ => L.length - (intOf iv).toNat)
  case atStart => exact ⟨0, Nat.zero_le _, rfl, by rw [HT0.out], by show _ ≤ _; rw [HT0.out]; omega, rfl⟩
  case round =>
    obtain ⟨i, hi, rfl, rfl, HTB, rfl⟩ := hrel
    have htb := HTB.out
    by_cases hgo : i < L.length ∧ T i ≤ 512
    · obtain ⟨hil, hti⟩ := hgo
      obtain ⟨g, o, b, c, rfl, hg, c0, -⟩ := HF.out i hil
      have hli := HL.out _ (List.getElem_mem hil)
      have HS := hid (HTS.out i hil)
      generalize L[i].length = li at *
      generalize hT : T i = Ti at *
      clear hT HTB
      go_wp2_with fail
      go_roundw
      case rel => exact ⟨i + 1, by omega, by go_num, by rw [HS.out]; go_num, by show _ ≤ _; rw [HS.out]; omega, by first | rfl | trivial⟩
      case measure => simp [intOf]; omega
    · by_cases hil : i < L.length
      · have hti : ¬ T i ≤ 512 := fun h => hgo ⟨hil, h⟩
        generalize hT : T i = Ti at *
        clear hT hgo
        go_wp2
        go_ret
        exact ⟨true, by simp <;> omega, (fun h => by cases h), rfl⟩
      · obtain rfl : i = L.length := by omega
        by_cases hti : T L.length ≤ 512
        · have HE := hid (HTE.out hti)
          generalize hT : T L.length = Ti at *
          clear hT hgo
          go_wp2
          go_ret
          exact ⟨false, by simp <;> omega, fun _ => HE.out, rfl⟩
        · generalize hT : T L.length = Ti at *
          clear hT hgo
          go_wp2
          go_ret
          exact ⟨true, by simp <;> omega, (fun h => by cases h), rfl⟩

set_option maxRecDepth 100000 in
set_option maxHeartbeats 1000000 in
theorem sameLists_any (a b : Option Addr) (ca cb : Nat) (L : List (List Int)) (w : World) (ha : LsS w a L) (hb : LsS w b L) (hL : L.length ≤ 1000) (hl : ∀ l ∈ L, l.length ≤ 1000) :
    Calls Try.prog 19 #[.slice a L.length ca, .slice b L.length cb] w fun e w' => e = .returned (.bool true) ∧ Below w.heap.size w w' := by
  have HA := hid ha
  have HB := hid hb
  have HL := hid hl
  clear ha hb hl
  go_enter Try.func19, Try.ntmps19
  go_wp2_with fail
  go_loopw [5] (fun iv wr => ∃ i : Nat, i ≤ L.length ∧ iv = .int .i64 i ∧ Hid (Below w.heap.size w wr)) (fun iv _ => L.length - (intOf iv).toNat)
  case atStart => exact ⟨0, Nat.zero_le _, rfl, Below.refl _ _⟩
  case round =>
    obtain ⟨i, hi, rfl, HW⟩ := hrel
    by_cases hlt : i < L.length
    · obtain ⟨g, o, b1, c1, rfl, hg, k1, h1⟩ := HA.out i hlt
      obtain ⟨g2, o2, b2, c2, rfl, hg2, k2, h2⟩ := HB.out i hlt
      have hli := HL.out _ (List.getElem_mem hlt)
      have HC1 : Hid (∀ U : World, Below w.heap.size w U → U.cell? ⟨g, o + i, none⟩ = some (.slice b1 L[i].length c1)) := fun U hb => (hb.cell (p := ⟨g, _, none⟩) hg).trans k1
      have HC2 : Hid (∀ U : World, Below w.heap.size w U → U.cell? ⟨g2, o2 + i, none⟩ = some (.slice b2 L[i].length c2)) := fun U hb => (hb.cell (p := ⟨g2, _, none⟩) hg2).trans k2
      have HS := hid (fun (U : World) (hb : Below w.heap.size w U) => sameInts_any b1 b2 c1 c2 L[i] U (h1.below hb) (h2.below hb) (by omega))
      clear k1 k2 h1 h2
      generalize L[i].length = li at *
      go_upto_region 6 with fail
      refine wp_region_held_drew (S := fun U => U.cell? ⟨g, o + i, none⟩ = some (.slice b1 li c1) ∧ U.cell? ⟨g2, o2 + i, none⟩ = some (.slice b2 li c2)) (by kernel_rfl) ⟨HC1.out _ HW.out.drew, HC2.out _ HW.out.drew⟩ (fun hSd => ?_)
      refine wpAnyH_take (i := 0) (oi := _) (v := .slice (some ⟨g, o, none⟩) L.length ca) rfl (by kernel_rfl) (by kernel_rfl) (by kernel_rfl) (fun _ _ _ h => h) (Or.inl ⟨by rfl, ?_⟩) (by assumption) ?_
      · intro u' hSu
        (try simp only [List.getElem_toArray, List.getElem_cons_zero])
        go_simp
      (try simp only [List.getElem_toArray, List.getElem_cons_zero])
      (try simp only [Act.put, List.setIfInBounds_toArray, List.set_cons_zero, List.set_cons_succ])
      refine wpAnyH_take (i := 1) (oi := _) (v := .int .i64 (i : Nat)) rfl (by kernel_rfl) (by kernel_rfl) (by kernel_rfl) (fun _ _ _ h => h) (Or.inl ⟨by rfl, ?_⟩) (by assumption) ?_
      · intro u' hSu
        (try simp only [List.getElem_toArray, List.getElem_cons_zero, List.getElem_cons_succ])
        go_simp
      (try simp only [List.getElem_toArray, List.getElem_cons_zero, List.getElem_cons_succ])
      (try simp only [Act.put, List.setIfInBounds_toArray, List.set_cons_zero, List.set_cons_succ])
      refine wpAnyH_take (i := 2) (oi := _) (v := .pointer (some ⟨g, o + i, none⟩)) rfl (by kernel_rfl) (by kernel_rfl) (by kernel_rfl) (fun _ _ _ h => h) (Or.inl ⟨by rfl, ?_⟩) (by assumption) ?_
      · intro u' hSu
        (try simp only [List.getElem_toArray, List.getElem_cons_zero, List.getElem_cons_succ])
        go_simp
      (try simp only [List.getElem_toArray, List.getElem_cons_zero, List.getElem_cons_succ])
      (try simp only [Act.put, List.setIfInBounds_toArray, List.set_cons_zero, List.set_cons_succ])
      refine wpAnyH_take (i := 3) (oi := _) (v := .slice b1 li c1) rfl (by kernel_rfl) (by kernel_rfl) (by kernel_rfl) (fun _ _ _ h => h) (Or.inl ⟨by rfl, ?_⟩) (by assumption) ?_
      · intro u' hSu
        (try simp only [List.getElem_toArray, List.getElem_cons_zero, List.getElem_cons_succ])
        obtain ⟨s1, s2⟩ := hSu
        go_simp
      (try simp only [List.getElem_toArray, List.getElem_cons_zero, List.getElem_cons_succ])
      (try simp only [Act.put, List.setIfInBounds_toArray, List.set_cons_zero, List.set_cons_succ])
      refine wpAnyH_take (i := 4) (oi := _) (v := .slice (some ⟨g2, o2, none⟩) L.length cb) rfl (by kernel_rfl) (by kernel_rfl) (by kernel_rfl) (fun _ _ _ h => h) (Or.inl ⟨by rfl, ?_⟩) (by assumption) ?_
      · intro u' hSu
        (try simp only [List.getElem_toArray, List.getElem_cons_zero, List.getElem_cons_succ])
        go_simp
      (try simp only [List.getElem_toArray, List.getElem_cons_zero, List.getElem_cons_succ])
      (try simp only [Act.put, List.setIfInBounds_toArray, List.set_cons_zero, List.set_cons_succ])
      refine wpAnyH_take (i := 5) (oi := _) (v := .int .i64 (i : Nat)) rfl (by kernel_rfl) (by kernel_rfl) (by kernel_rfl) (fun _ _ _ h => h) (Or.inl ⟨by rfl, ?_⟩) (by assumption) ?_
      · intro u' hSu
        (try simp only [List.getElem_toArray, List.getElem_cons_zero, List.getElem_cons_succ])
        go_simp
      (try simp only [List.getElem_toArray, List.getElem_cons_zero, List.getElem_cons_succ])
      (try simp only [Act.put, List.setIfInBounds_toArray, List.set_cons_zero, List.set_cons_succ])
      refine wpAnyH_take (i := 6) (oi := _) (v := .pointer (some ⟨g2, o2 + i, none⟩)) rfl (by kernel_rfl) (by kernel_rfl) (by kernel_rfl) (fun _ _ _ h => h) (Or.inl ⟨by rfl, ?_⟩) (by assumption) ?_
      · intro u' hSu
        (try simp only [List.getElem_toArray, List.getElem_cons_zero, List.getElem_cons_succ])
        go_simp
      (try simp only [List.getElem_toArray, List.getElem_cons_zero, List.getElem_cons_succ])
      (try simp only [Act.put, List.setIfInBounds_toArray, List.set_cons_zero, List.set_cons_succ])
      refine wpAnyH_take (i := 7) (oi := _) (v := .slice b2 li c2) rfl (by kernel_rfl) (by kernel_rfl) (by kernel_rfl) (fun _ _ _ h => h) (Or.inl ⟨by rfl, ?_⟩) (by assumption) ?_
      · intro u' hSu
        (try simp only [List.getElem_toArray, List.getElem_cons_zero, List.getElem_cons_succ])
        obtain ⟨s1, s2⟩ := hSu
        go_simp
      (try simp only [List.getElem_toArray, List.getElem_cons_zero, List.getElem_cons_succ])
      (try simp only [Act.put, List.setIfInBounds_toArray, List.set_cons_zero, List.set_cons_succ])
      refine wpAnyH_ready (rs := [8]) (by kernel_rfl) (by simp) (AllReadyH.cons rfl ?_ (AllReadyH.nil))
      · intro K' hK'
        (try simp only [List.getElem_toArray, List.getElem_cons_zero, List.getElem_cons_succ])
        go_simp
        refine (HS.out _ HW.out.drew).mono ?_
        rintro r w5 ⟨rfl, hb5⟩
        have hl5 : Below w.heap.size w w5 := HW.out.drew.trans (hb5.mono HW.out.drew.size)
        refine hK'.out _ _ ⟨HC1.out _ hl5, HC2.out _ hl5⟩ (fun hSe => ?_)
        clear hK' K' hSd
        (try simp only [List.getElem_toArray, List.getElem_cons_zero, List.getElem_cons_succ])
        (try simp only [Act.put, List.setIfInBounds_toArray, List.set_cons_zero, List.set_cons_succ])
        refine wpAnyH_take (i := 9) (oi := _) (v := .bool false) rfl (by kernel_rfl) (by kernel_rfl) (by kernel_rfl) (fun _ _ _ h => h) (Or.inl ⟨by rfl, ?_⟩) (by assumption) ?_
        · intro u' hSu
          (try simp only [List.getElem_toArray, List.getElem_cons_zero, List.getElem_cons_succ])
          go_simp
        (try simp only [List.getElem_toArray, List.getElem_cons_zero, List.getElem_cons_succ])
        (try simp only [Act.put, List.setIfInBounds_toArray, List.set_cons_zero, List.set_cons_succ])
        refine wpAnyH_done (by kernel_rfl) ?_ _
        clear hSe
        have HW5 := hid hl5
        clear hl5 hb5
        go_wp2
        go_roundw
        case rel => exact ⟨i + 1, by omega, by go_num, HW5⟩
        case measure => simp [intOf]; omega
    · obtain rfl : i = L.length := by omega
      go_wp2
      go_ret
      exact ⟨rfl, HW.out⟩

set_option maxRecDepth 100000 in
set_option maxHeartbeats 400000 in
theorem sameInts_q (a b : Option Addr) (ca cb : Nat) (l : List Int) (w : World) (ha : IntS w a l) (hb : IntS w b l) (hn : l.length ≤ 100000) :
    Calls Try.prog 10 #[.slice a l.length ca, .slice b l.length cb] w fun e w' => e = .returned (.bool true) ∧ ∃ m, w' = w.drewN m := by
  have HA := hid (fun m => ha.below (below_drewN (Below.refl _ w) m))
  have HB := hid (fun m => hb.below (below_drewN (Below.refl _ w) m))
  clear ha hb
  go_enter Try.func10, Try.ntmps10
  go_wp2_with fail
  go_loopw [5] (fun iv wr => ∃ i : Nat, i ≤ l.length ∧ iv = .int .i64 i ∧ Hid (∃ m, wr = w.drewN m)) (fun iv _ => l.length - (intOf iv).toNat)
  case atStart => exact ⟨0, Nat.zero_le _, rfl, ⟨0, rfl⟩⟩
  case round =>
    obtain ⟨i, hi, rfl, HW⟩ := hrel
    have HA' : Hid (IntS wr a l) := by
      obtain ⟨m, e⟩ := HW.out
      show IntS wr a l
      rw [e]
      exact HA.out m
    have HB' : Hid (IntS wr b l) := by
      obtain ⟨m, e⟩ := HW.out
      show IntS wr b l
      rw [e]
      exact HB.out m
    have HN : Hid (∀ n', ∃ m, wr.drewN n' = w.drewN m) := fun n' => by
      obtain ⟨m, e⟩ := HW.out
      exact ⟨m + n', by rw [e, World.drewN_drewN]⟩
    by_cases hlt : i < l.length
    · obtain ⟨g, o, rfl, hg, c0⟩ := HA'.out i hlt
      obtain ⟨g2, o2, rfl, hg2, c2⟩ := HB'.out i hlt
      generalize l[i] = x at *
      go_wp2_with fail
      go_quiet (fail)
      go_wp2
      go_roundw
      case rel => exact ⟨i + 1, by omega, by go_num, HN.out _⟩
      case measure => simp [intOf]; omega
    · obtain rfl : i = l.length := by omega
      go_wp2
      go_ret
      exact ⟨rfl, HW.out⟩

set_option maxRecDepth 100000 in
set_option maxHeartbeats 2000000 in
theorem sameLinks_any (a b : Option Addr) (ca cb : Nat) (K : List (Nat × Nat × List Int)) (w : World) (ha : LnS w a K) (hb : LnS w b K) (hK : K.length ≤ 1000) (hl : ∀ p ∈ K, p.2.2.length ≤ 1000 ∧ p.1 ≤ 1000 ∧ p.2.1 ≤ 1000) :
    Calls Try.prog 24 #[.slice a K.length ca, .slice b K.length cb] w fun e w' => e = .returned (.bool true) ∧ Below w.heap.size w w' := by
  have HA := hid ha
  have HB := hid hb
  have HL := hid hl
  clear ha hb hl
  go_enter Try.func24, Try.ntmps24
  go_wp2_with fail
  go_loopw [5] (fun iv wr => ∃ i : Nat, i ≤ K.length ∧ iv = .int .i64 i ∧ Hid (Below w.heap.size w wr)) (fun iv _ => K.length - (intOf iv).toNat)
  case atStart => exact ⟨0, Nat.zero_le _, rfl, Below.refl _ _⟩
  case round =>
    obtain ⟨i, hi, rfl, HW⟩ := hrel
    by_cases hlt : i < K.length
    · obtain ⟨g, b1, c1, rfl, hg, k0, k1, k2, h1⟩ := HA.out i hlt
      obtain ⟨g2, b2, c2, rfl, hg2, m0, m1, m2, h2⟩ := HB.out i hlt
      obtain ⟨hli, hx1, hx2⟩ := HL.out _ (List.getElem_mem hlt)
      have HC : Hid (∀ U : World, Below w.heap.size w U → (U.cell? ⟨g, i * 3, none⟩ = some (.int .i64 (K[i].1 : Nat)) ∧ U.cell? ⟨g, i * 3 + 1, none⟩ = some (.int .i64 (K[i].2.1 : Nat)) ∧ U.cell? ⟨g, i * 3 + 2, none⟩ = some (.slice b1 K[i].2.2.length c1)) ∧ U.cell? ⟨g2, i * 3, none⟩ = some (.int .i64 (K[i].1 : Nat)) ∧ U.cell? ⟨g2, i * 3 + 1, none⟩ = some (.int .i64 (K[i].2.1 : Nat)) ∧ U.cell? ⟨g2, i * 3 + 2, none⟩ = some (.slice b2 K[i].2.2.length c2)) := fun U hb => ⟨⟨(hb.cell (p := ⟨g, _, none⟩) hg).trans k0, (hb.cell (p := ⟨g, _, none⟩) hg).trans k1, (hb.cell (p := ⟨g, _, none⟩) hg).trans k2⟩, (hb.cell (p := ⟨g2, _, none⟩) hg2).trans m0, (hb.cell (p := ⟨g2, _, none⟩) hg2).trans m1, (hb.cell (p := ⟨g2, _, none⟩) hg2).trans m2⟩
      have HS := hid (fun (U : World) (hb : Below w.heap.size w U) => sameInts_q b1 b2 c1 c2 K[i].2.2 U (h1.below hb) (h2.below hb) (by omega))
      have HSW := hid (fun m => HS.out (wr.drewN m) (below_drewN HW.out m))
      clear k0 k1 k2 m0 m1 m2 h1 h2 HS
      generalize K[i].2.2.length = li at *
      generalize K[i].1 = x1 at *
      generalize K[i].2.1 = x2 at *
      obtain ⟨⟨k0, k1, k2⟩, m0, m1, m2⟩ := HC.out wr HW.out
      have hn1 : (((x1 : Nat) : Int) != ((x1 : Nat) : Int)) = false := bne_self_eq_false _
      have hn2 : (((x2 : Nat) : Int) != ((x2 : Nat) : Int)) = false := bne_self_eq_false _
      go_wp2_with fail
      go_quiet ((go_at_call 10; refine Calls.quiet_of (HSW.out _)))
      go_wp2
      go_roundw
      case rel => exact ⟨i + 1, by omega, by go_num, below_drewN HW.out _⟩
      case measure => simp [intOf]; omega
    · obtain rfl : i = K.length := by omega
      go_wp2
      go_ret
      exact ⟨rfl, HW.out⟩
end Go.Proofs.Ytockhhleapbpiaa

