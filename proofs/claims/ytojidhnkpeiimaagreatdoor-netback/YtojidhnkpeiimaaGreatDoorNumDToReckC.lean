/- Plain facts on reading digits. -/
import Derived.Test.YtojidhnkpeiimaaGreatDoorNumOwn
import Derived.Test.YtojidhnkpeiimaaGreatDoorCore1ToTextB
import Derived.Lib.ItoaMem
namespace Go.Proofs.YtojidhnkpeiimaaGreatDoor
def mad (c : Nat) : List Nat → List Nat × Nat
  | [] => ([], c)
  | x :: r => ((c + x * 10) % W :: (mad ((c + x * 10) / W) r).1, (mad ((c + x * 10) / W) r).2)
theorem mad_snoc (a : List Nat) (x : Nat) : ∀ c, mad c (a ++ [x]) = ((mad c a).1 ++ [((mad c a).2 + x * 10) % W], ((mad c a).2 + x * 10) / W) := by
  induction a with
  | nil => intro c; rfl
  | cons y a ih => intro c; rw [List.cons_append, mad, ih]; rfl
theorem mad_length (c : Nat) (l : List Nat) : (mad c l).1.length = l.length := by
  induction l generalizing c with
  | nil => rfl
  | cons x r ih => rw [mad, List.length_cons, ih, List.length_cons]
theorem mad_small (c : Nat) (l : List Nat) : Small (mad c l).1 := by
  induction l generalizing c with
  | nil => intro x hx; simp [mad] at hx
  | cons x r ih =>
    intro y hy
    rw [mad] at hy
    rcases List.mem_cons.1 hy with rfl | hy
    · exact Nat.mod_lt _ W_pos
    · exact ih _ y hy
theorem mad_eq (c : Nat) (l : List Nat) : nw (mad c l).1 + W ^ l.length * (mad c l).2 = nw l * 10 + c := by
  induction l generalizing c with
  | nil => simp [mad, nw_nil]
  | cons x r ih =>
    have e := ih ((c + x * 10) / W)
    have hd := Nat.mod_add_div (c + x * 10) W
    rw [mad, nw_cons, nw_cons, List.length_cons, Nat.pow_succ, Nat.mul_comm (W ^ r.length) W, Nat.mul_assoc, Nat.add_assoc, ← Nat.mul_add, e, Nat.mul_add]
    have : W * (nw r * 10) = W * nw r * 10 := by rw [Nat.mul_assoc]
    omega
theorem mad_carry (c : Nat) (l : List Nat) (hc : c ≤ 9) (hs : Small l) : (mad c l).2 ≤ 9 := by
  induction l generalizing c with
  | nil => exact hc
  | cons x r ih =>
    rw [mad]
    refine ih _ ?_ (fun y hy => hs y (List.mem_cons_of_mem _ hy))
    have hx := hs x List.mem_cons_self
    have : (c + x * 10) / W < 10 := Nat.div_lt_of_lt_mul (by omega)
    omega
theorem drop_set_append (q l : List Nat) (k y : Nat) (hq : q.length = k) (hk : k < l.length) : (q ++ l.drop k).set k y = q ++ [y] ++ l.drop (k + 1) := by
  rw [List.set_append_right _ _ (by omega), hq, Nat.sub_self, List.drop_eq_getElem_cons hk, List.set_cons_zero, List.append_assoc]
  rfl
def dval (l : List UInt8) : Nat := l.foldl (fun n c => n * 10 + (c.toNat - 48)) 0
theorem dval_snoc (l : List UInt8) (c : UInt8) : dval (l ++ [c]) = dval l * 10 + (c.toNat - 48) := by simp [dval]
def isDig (c : UInt8) : Bool := decide (48 ≤ c.toNat ∧ c.toNat ≤ 57)
def allDig (l : List UInt8) : Bool := !l.isEmpty && l.all isDig
def wellDig (l : List UInt8) : Bool := allDig l && !(decide (1 < l.length) && l[0]?.getD 0 == 48)
end Go.Proofs.YtojidhnkpeiimaaGreatDoor

/- Plain facts on reckoning part by part with a carry. -/
namespace Go.Proofs.YtojidhnkpeiimaaGreatDoor
def nwF (f : Nat → Nat) : Nat → Nat
  | 0 => 0
  | k + 1 => nwF f k + W ^ k * f k
theorem nwF_add (f g : Nat → Nat) (k : Nat) : nwF (fun j => f j + g j) k = nwF f k + nwF g k := by
  induction k with
  | zero => rfl
  | succ k ih => simp only [nwF, ih, Nat.mul_add]; omega
theorem nwF_mul (c : Nat) (f : Nat → Nat) (k : Nat) : nwF (fun j => c * f j) k = c * nwF f k := by
  induction k with
  | zero => rfl
  | succ k ih => simp only [nwF, ih, Nat.mul_add]; congr 1; rw [← Nat.mul_assoc, Nat.mul_comm (W ^ k) c, Nat.mul_assoc]
theorem nwF_take (l : List Nat) (k : Nat) : nwF (fun j => l[j]?.getD 0) k = nw (l.take k) := by
  induction k with
  | zero => simp [nwF, nw_nil]
  | succ k ih =>
    rw [nwF, ih]
    by_cases h : k < l.length
    · rw [nw_take_succ l k h, List.getElem?_eq_getElem h]; rfl
    · rw [List.getElem?_eq_none (by omega), List.take_of_length_le (by omega : l.length ≤ k), List.take_of_length_le (by omega : l.length ≤ k + 1)]; simp
theorem nwF_list (l : List Nat) (k : Nat) (h : l.length ≤ k) : nwF (fun j => l[j]?.getD 0) k = nw l := by rw [nwF_take, List.take_of_length_le h]
theorem nwF_congr {f g : Nat → Nat} {k : Nat} (h : ∀ j, j < k → f j = g j) : nwF f k = nwF g k := by
  induction k with
  | zero => rfl
  | succ k ih => rw [nwF, nwF, ih (fun j hj => h j (by omega)), h k (by omega)]
def acc (f : Nat → Nat) : Nat → List Nat × Nat
  | 0 => ([], 0)
  | k + 1 => ((acc f k).1 ++ [((acc f k).2 + f k) % W], ((acc f k).2 + f k) / W)
theorem acc_length (f : Nat → Nat) (k : Nat) : (acc f k).1.length = k := by
  induction k with
  | zero => rfl
  | succ k ih => simp [acc, ih]
theorem acc_small (f : Nat → Nat) (k : Nat) : Small (acc f k).1 := by
  induction k with
  | zero => intro x hx; simp [acc] at hx
  | succ k ih =>
    intro x hx
    rw [acc] at hx
    rcases List.mem_append.1 hx with hx | hx
    · exact ih x hx
    · simp at hx; subst hx; exact Nat.mod_lt _ W_pos
theorem acc_eq (f : Nat → Nat) (k : Nat) : nw (acc f k).1 + W ^ k * (acc f k).2 = nwF f k := by
  induction k with
  | zero => simp [acc, nwF, nw_nil]
  | succ k ih =>
    rw [acc, nwF, nw_snoc, acc_length, ← ih, Nat.pow_succ, Nat.mul_assoc]
    have e := Nat.mod_add_div ((acc f k).2 + f k) W
    have : W ^ k * (((acc f k).2 + f k) % W) + W ^ k * (W * (((acc f k).2 + f k) / W)) = W ^ k * (acc f k).2 + W ^ k * f k := by
      rw [← Nat.mul_add, e, Nat.mul_add]
    show nw (acc f k).1 + W ^ k * (((acc f k).2 + f k) % W) + W ^ k * (W * (((acc f k).2 + f k) / W)) = _
    omega
theorem acc_carry (f : Nat → Nat) (b : Nat) (k : Nat) (h : ∀ j, j < k → f j + b < (b + 1) * W) : (acc f k).2 ≤ b := by
  induction k with
  | zero => exact Nat.zero_le _
  | succ k ih =>
    have h1 := ih (fun j hj => h j (by omega))
    have h2 := h k (by omega)
    rw [acc]
    have : ((acc f k).2 + f k) / W < b + 1 := Nat.div_lt_of_lt_mul (by rw [Nat.mul_comm]; omega)
    omega
theorem seg_set (a q l : List Nat) (i k y : Nat) (ha : a.length = i) (hq : q.length = k) (hk : i + k < l.length) : (a ++ q ++ l.drop (i + k)).set (i + k) y = a ++ (q ++ [y]) ++ l.drop (i + (k + 1)) := by
  rw [List.set_append_right _ _ (by rw [List.length_append]; omega), List.length_append, ha, hq, Nat.sub_self, List.drop_eq_getElem_cons hk, List.set_cons_zero]
  simp [List.append_assoc, Nat.add_assoc]
theorem seg_get (a q l : List Nat) (i k : Nat) (ha : a.length = i) (hq : q.length = k) : (a ++ q ++ l.drop (i + k))[i + k]?.getD 0 = l[i + k]?.getD 0 := by
  rw [List.getElem?_append_right (by rw [List.length_append]; omega), List.length_append, ha, hq, Nat.sub_self, List.getElem?_drop, Nat.add_zero]
theorem getD_lt {l : List Nat} (h : Small l) (j : Nat) : l[j]?.getD 0 < W := by
  by_cases hj : j < l.length
  · rw [List.getElem?_eq_getElem hj]; exact h _ (List.getElem_mem hj)
  · rw [List.getElem?_eq_none (by omega)]; exact W_pos
theorem small_append {a b : List Nat} (ha : Small a) (hb : Small b) : Small (a ++ b) := fun x hx => (List.mem_append.1 hx).elim (ha x) (hb x)
theorem small_drop {l : List Nat} (h : Small l) (k : Nat) : Small (l.drop k) := fun x hx => h x (List.mem_of_mem_drop hx)
theorem nw_cut (l : List Nat) (k : Nat) : nw l = nw (l.take k) + W ^ (min k l.length) * nw (l.drop k) := by
  have := nw_append (l.take k) (l.drop k)
  rwa [List.take_append_drop, List.length_take] at this
theorem nw_cut_le (l : List Nat) (k : Nat) (h : k ≤ l.length) : nw l = nw (l.take k) + W ^ k * nw (l.drop k) := by
  have := nw_cut l k
  rwa [Nat.min_eq_left h] at this
theorem nw_zeros (n : Nat) : nw (List.replicate n 0) = 0 := by
  induction n with
  | zero => rfl
  | succ n ih => rw [List.replicate_succ, nw_cons, ih]; simp
theorem small_zeros (n : Nat) : Small (List.replicate n 0) := fun x hx => by rw [(List.mem_replicate.1 hx).2]; exact W_pos
end Go.Proofs.YtojidhnkpeiimaaGreatDoor

/- putBack of package nat: the sum, in the place of its first argument; does it run over its end? -/
namespace Go.Proofs.YtojidhnkpeiimaaGreatDoor
open Go.RowKit
def sumF (xs ys : List Nat) (j : Nat) : Nat := xs[j]?.getD 0 + ys[j]?.getD 0
theorem sumF_nw (xs ys : List Nat) (k : Nat) : nwF (sumF xs ys) k = nw (xs.take k) + nw (ys.take k) := by
  rw [show sumF xs ys = fun j => (fun j => xs[j]?.getD 0) j + (fun j => ys[j]?.getD 0) j from rfl, nwF_add, nwF_take, nwF_take]
theorem sumF_carry (xs ys : List Nat) (hx : Small xs) (hy : Small ys) (k : Nat) : (acc (sumF xs ys) k).2 ≤ 1 := by
  refine acc_carry _ 1 k fun j _ => ?_
  have h1 := getD_lt hx j
  have h2 := getD_lt hy j
  unfold sumF
  omega
set_option maxRecDepth 100000 in
set_option maxHeartbeats 4000000 in
theorem putBack_any (g off cap b offy capy : Nat) (xs ys : List Nat) (w : World) (hsx : Small xs) (hsy : Small ys) (hlen : xs.length ≤ 35184372088832) (hyx : ys.length ≤ xs.length) (hx : Lies w g off xs) (hy : Lies w b offy ys) (hgb : b ≠ g) :
    Calls Tryz.prog 173 #[.slice (some ⟨g, off, none⟩) xs.length cap, .slice (some ⟨b, offy, none⟩) ys.length capy] w fun e w' => ∃ (c : Bool) (l' : List Nat), e = .returned (.bool c) ∧ l'.length = xs.length ∧ Small l' ∧ nw l' + (if c then W ^ xs.length else 0) = nw xs + nw ys ∧ Lies w' g off l' ∧ Upd g off xs.length w w' := by
  go_enter Tryz.func173, Tryz.ntmps173
  go_wp2
  go_loopw [5, 9] (fun c i wr => ∃ k : Nat, k ≤ xs.length ∧ i = .int .i64 k ∧ c = .int .u64 ((acc (sumF xs ys) k).2 : Nat) ∧ Lies wr g off ((acc (sumF xs ys) k).1 ++ xs.drop k) ∧ Upd g off xs.length w wr)
    (fun _ i _ => xs.length - (intOf i).toNat)
  case atStart => exact ⟨0, Nat.zero_le _, rfl, rfl, by simpa [acc] using hx, Upd.refl _ _ _ _⟩
  case round =>
    obtain ⟨k, hk, rfl, rfl, hlr, hur⟩ := hrel
    have hcy := sumF_carry xs ys hsx hsy k
    have hql := acc_length (sumF xs ys) k
    have hqs := acc_small (sumF xs ys) k
    have HQ := hide (acc_eq (sumF xs ys) k)
    by_cases hlt : k < xs.length
    · have hlen2 : k < ((acc (sumF xs ys) k).1 ++ xs.drop k).length := by rw [List.length_append, hql, List.length_drop]; omega
      have hcell := hlr.cell k hlen2
      have hfz := hlr.frozen (off + k)
      have hset := fun y => hlr.set k hlen2 y
      simp only [drop_set_append _ xs k _ hql hlt] at hset
      have hgm : ((acc (sumF xs ys) k).1 ++ xs.drop k)[k]?.getD 0 = xs[k]?.getD 0 := by
        rw [List.getElem?_append_right (by omega), hql, Nat.sub_self, List.getElem?_drop, Nat.add_zero]
      rw [hgm] at hcell
      have HG : Hid (acc (sumF xs ys) (k + 1) = ((acc (sumF xs ys) k).1 ++ [((acc (sumF xs ys) k).2 + sumF xs ys k) % W], ((acc (sumF xs ys) k).2 + sumF xs ys k) / W)) := rfl
      have hxk := getD_lt hsx k
      have hyk := getD_lt hsy k
      rw [W_eq] at hxk hyk
      by_cases hky : k < ys.length
      · have hcy2 := (hy.apart hur hgb).cell k hky
        have HF : Hid (sumF xs ys k = xs[k]?.getD 0 + ys[k]?.getD 0) := rfl
        generalize (acc (sumF xs ys) k).2 = c at *
        generalize (acc (sumF xs ys) k).1 = q at *
        generalize sumF xs ys k = s at *
        generalize xs[k]?.getD 0 = x at *
        generalize ys[k]?.getD 0 = y at *
        have HSET := hide hset
        clear hset hgm hlen2 hlr HQ
        go_wp2
        have hv : Value.int .u32 (((c : Int) + (x : Int) + (y : Int)) % 4294967296) = .int .u32 (((c + s) % W : Nat) : Int) := int_eq (by rw [W_eq, HF.out]; omega)
        have hv2 : Value.int .u64 (((c : Int) + (x : Int) + (y : Int)) / 4294967296) = .int .u64 (((c + s) / W : Nat) : Int) := int_eq (by rw [W_eq, HF.out]; omega)
        rw [hv, hv2]
        have hq := HSET.out ((c + s) % W)
        go_roundw
        case rel => exact ⟨k + 1, by omega, by go_num, by rw [HG.out], by rw [HG.out]; exact hq, hur.trans (Upd.setCell (Nat.le_add_right _ _) (by omega) _)⟩
        case measure => simp [intOf]; omega
      · have hyk0 : ys[k]?.getD 0 = 0 := by rw [List.getElem?_eq_none (by omega)]; rfl
        by_cases hc0 : (acc (sumF xs ys) k).2 = 0
        · have HE : Hid (nw ((acc (sumF xs ys) k).1 ++ xs.drop k) = nw xs + nw ys) := by
            show _ = _
            have e := HQ.out
            rw [hc0, Nat.mul_zero, Nat.add_zero, sumF_nw, List.take_of_length_le (show ys.length ≤ k by omega)] at e
            rw [nw_append, hql, e, nw_cut_le xs k hk]; omega
          have hsm := small_append hqs (small_drop hsx k)
          have hll : ((acc (sumF xs ys) k).1 ++ xs.drop k).length = xs.length := by rw [List.length_append, hql, List.length_drop]; omega
          rw [hc0]
          generalize (acc (sumF xs ys) k).1 ++ xs.drop k = q at *
          clear hset hcell hfz HG hgm hlen2 HQ
          go_wp2
          go_ret
          exact ⟨false, q, rfl, hll, hsm, by rw [HE.out]; rfl, hlr, hur⟩
        · have HF : Hid (sumF xs ys k = xs[k]?.getD 0) := by show _ = _; rw [sumF, hyk0, Nat.add_zero]
          have hcb : (((acc (sumF xs ys) k).2 : Int) == 0) = false := by rw [beq_eq_false_iff_ne]; omega
          generalize (acc (sumF xs ys) k).2 = c at *
          generalize (acc (sumF xs ys) k).1 = q at *
          generalize sumF xs ys k = s at *
          generalize xs[k]?.getD 0 = x at *
          have HSET := hide hset
          clear hset hgm hlen2 hlr HQ hyk0 hc0
          go_wp2
          have hv : Value.int .u32 (((c : Int) + (x : Int)) % 4294967296) = .int .u32 (((c + s) % W : Nat) : Int) := int_eq (by rw [W_eq, HF.out]; omega)
          have hv2 : Value.int .u64 (((c : Int) + (x : Int)) / 4294967296) = .int .u64 (((c + s) / W : Nat) : Int) := int_eq (by rw [W_eq, HF.out]; omega)
          rw [hv, hv2]
          have hq := HSET.out ((c + s) % W)
          go_roundw
          case rel => exact ⟨k + 1, by omega, by go_num, by rw [HG.out], by rw [HG.out]; exact hq, hur.trans (Upd.setCell (Nat.le_add_right _ _) (by omega) _)⟩
          case measure => simp [intOf]; omega
    · obtain rfl : k = xs.length := by omega
      rw [List.drop_length, List.append_nil] at hlr
      have HE : Hid (nw (acc (sumF xs ys) xs.length).1 + W ^ xs.length * (acc (sumF xs ys) xs.length).2 = nw xs + nw ys) := by
        show _ = _
        rw [HQ.out, sumF_nw, List.take_length, List.take_of_length_le hyx]
      generalize (acc (sumF xs ys) xs.length).1 = q at *
      generalize (acc (sumF xs ys) xs.length).2 = c at *
      clear HQ
      rcases (show c = 0 ∨ c = 1 by omega) with rfl | rfl
      · go_wp2
        go_ret
        exact ⟨false, q, rfl, hql, hqs, by have := HE.out; simpa using this, hlr, hur⟩
      · go_wp2
        go_ret
        exact ⟨true, q, rfl, hql, hqs, by have := HE.out; simpa using this, hlr, hur⟩
end Go.Proofs.YtojidhnkpeiimaaGreatDoor

/- spread of package nat once more: besides, the slice is not nil. -/
namespace Go.Proofs.YtojidhnkpeiimaaGreatDoor
open Go.RowKit Go.Shelf
attribute [local go_sem] Oper.semAt_some
set_option maxRecDepth 100000 in
set_option maxHeartbeats 2000000 in
theorem spread_some (s : ByteArray) (w : World) (hs : s.size ≤ 140737488355328) :
    Calls Tryz.prog 113 #[.string s] w fun e w' => ∃ g cap, e = .returned (.slice (some ⟨g, 0, none⟩) (words (N s)).length cap) ∧ Has w' w.heap.size (.slice (some ⟨g, 0, none⟩) (words (N s)).length cap) (words (N s)) ∧ Below w.heap.size w w' := by
  refine (callsIn_wide (n := 6)).1 ?_
  have hbs : (B (N s)).size ≤ 140737488355328 := Nat.le_trans (B_size_le s) hs
  have hup := upto_words (N s)
  have hN := N_B (N s)
  generalize hm : N s = m at *
  obtain ⟨i0, hi, hz0, hz1, hz2⟩ := info_parts Tryz.infoU32
  refine callsIn_of_wp_marks Tryz.func113 rfl trivial ?_ rfl
  simp only [Tryz.ntmps113, List.size_toArray, List.length_cons, List.length_nil, Nat.reduceAdd, Nat.reduceSub, Array.replicate_succ, Array.replicate_zero, List.push_toArray, List.append_toArray, List.nil_append, List.cons_append]
  have HM : Hid (N s = m) := hm
  have HN : Hid (N (B m) = m) := hN
  have HU : Hid (upto m (((B m).size + 3) / 4) = words m) := hup
  clear hm hN hup
  gi_wp2_with (first
    | (refine ⟨trivial, ?_⟩; gi_at_call 116; refine (callsIn_wide.2 (bare_any _ _)).mono ?_; rintro e w' ⟨rfl, rfl⟩; rw [HM.out])
    | (refine ⟨trivial, ?_⟩; gi_at_call 148; refine (callsIn_wide.2 (countParts_any _ _ hbs)).mono ?_; rintro e w' ⟨rfl, rfl⟩)
    | (gi_at_make; refine wpListIn_make_own _ rfl _ _ 147 rfl w'.heap.size 135 i0 (.int .u32 0) 1 Tryz.underlying147 hi hz0 hz1 .i64 .i64 _ (((B m).size + 3) / 4) rfl rfl (by omega) (by rw [hz2]; omega) (by unfold maxLen; omega) (Nat.le_refl _) ?_; intro w1 hown1 hgrow1)
    | (refine ⟨trivial, ?_⟩; gi_at_call 149; refine (fromEnd_in _ _ _).mono ?_; rintro e w2 ⟨rfl, rfl⟩))
  have hsz1 := hgrow1.size
  have hB1 : Below w'.heap.size w' w1 := (Below.refl _ w').grown hgrow1 (Nat.le_refl _) (fun k e => by cases e)
  have bO := Boxed.new w1 147 (.slice (some ⟨w'.heap.size, 0, none⟩) 0 (((B m).size + 3) / 4))
  have bN := Boxed.new (w1.alloc (.cells #[.slice (some ⟨w'.heap.size, 0, none⟩) 0 (((B m).size + 3) / 4)] 147)) 42 (.string (B m))
  rw [World.size_alloc] at bN
  have hB0 : Below w'.heap.size w' ((w1.alloc (.cells #[.slice (some ⟨w'.heap.size, 0, none⟩) 0 (((B m).size + 3) / 4)] 147)).alloc (.cells #[.string (B m)] 42)) := (hB1.alloc hsz1 _).alloc (by simp; omega) _
  refine wpIn_rangeFunc_ownG (α := Nat) rfl (by omega) (gf := 176) (lb := #[.pointer (some ⟨w1.heap.size + 1, 0, none⟩)]) rfl trivial (enters_of Tryz.func176 (by kernel_rfl) rfl)
    (fromEnd_stops 5 (by omega) (w1.heap.size + 1) (B m) hbs _ (by simp) bN.cell) KeepsBox.t (KeepsBox.b (by simp)) (Below.refl _ _) (fun _ => rfl)
    (fun (pre : List Nat) V => ((∃ v, Boxed V w1.heap.size 147 v ∧ V.ownsRow w'.heap.size 135 1 v pre.length (pre.map u32) ∧ v ≠ .slice none 0 0) ∧ Below w'.heap.size w' V) ∧ Boxed V (w1.heap.size + 1) 42 (.string (B m)))
    (fun _ _ _ => False)
    (OwnFrom.and (OwnFrom.and (Own.from (holdsRow_own w'.heap.size w1.heap.size 147 135 1 (fun pre : List Nat => pre.length) (fun pre => pre.map u32) (fun _ v => v ≠ .slice none 0 0)) _) (ownFrom_below (Nat.le_refl _) (by simp; omega))) (Own.from (boxed_own _ _ (fun _ => .string (B m))) _))
    (fun _ _ _ _ _ hs _ _ => hs)
    ⟨⟨⟨_, bO.alloc _, (hown1.alloc _).alloc _, by simp⟩, hB0⟩, bN⟩
    (fun x => { tmps := #[.string (B m), undef, .slice none 0 0, .pointer (some ⟨w1.heap.size, 0, none⟩), .int .u32 (x : Nat), .string s, .string (B m), .string (B m), .int .i64 (((B m).size + 3) / 4), .slice (some ⟨w'.heap.size, 0, none⟩) 0 (((B m).size + 3) / 4), .string (B m), .func (.func 176) #[] #[.pointer (some ⟨w1.heap.size + 1, 0, none⟩)], .int .u32 (x : Nat), undef, undef, undef, undef, undef], defers := [] }) ?assign ?body ?done ?stop
  case assign =>
    intro l x V K hK
    gi_wp2
    exact hK
  case body =>
    rintro l pre x V ⟨⟨⟨v, hv, hrow, _⟩, hB⟩, hb⟩ hlt
    have hc := hv.cell
    gi_wp2_with (gi_at_builtin; refine wpListIn_append_own _ rfl _ _ 147 rfl w'.heap.size 135 i0 (.int .u32 0) 1 4 Tryz.underlying147 hi hz0 hz1 hz2 rfl (by decide) _ _ _ rfl (hrow.alloc _) ⟨V.heap.size, 0, none⟩ 1 1 [.int .u32 (x : Nat)] rfl rfl (cell_one_new _ _ _) (by simp [Value.oneCell']) (by unfold maxLen; omega) (by omega) (by have := hB.size; simp; omega) ?_; intro v' w3 hown' hgrow _; obtain ⟨g', cap', rfl⟩ := ownsRow_succ hown'; obtain ⟨hv1, hv2, hr2, hk2, hb2⟩ := hv.appended (by decide) hrow hB.size hsz1 hown' hgrow; have hb3 := (hb.alloc _).kept hgrow (hb.not_row (by decide) hrow); have hc1 := hv1.cell; have hf1 := hv1.frozen)
    have hb4 := hb3.other (B' := w1.heap.size) (by omega) (.slice (some ⟨g', 0, none⟩) (pre.length + 1) cap')
    exact ⟨hk2.from _, hb4.cell.trans hb.cell.symm, ⟨⟨_, hv2, by simpa [u32] using hr2, by simp⟩, hB.trans hb2⟩, hb4⟩
  case done =>
    rintro D ys V hD rfl ⟨⟨⟨v, hv, hrow, hnn⟩, hB⟩, hb⟩ hK
    have hc := hv.cell
    rw [HN.out, HU.out] at hrow
    gi_wp2
    refine ⟨by simp, .inl ⟨_, _, rfl, run_takeDeferred hK, ?_⟩⟩
    obtain ⟨g, cap, rfl⟩ : ∃ g cap, v = .slice (some ⟨g, 0, none⟩) (words m).length cap := by
      rcases hrow.2 with ⟨e, _⟩ | ⟨g, cap, _, e, _⟩
      · exact absurd e hnn
      · exact ⟨g, cap, e⟩
    refine ⟨_, results_tmp rfl _ _ _, g, cap, rfl, ?_, hB.trans (belowK_b (w := w') (Nat.le_refl _) V D _ _ (by simp at hD; omega) hK rfl rfl)⟩
    exact ownsRow_putObj hrow _ hK rfl
  case stop =>
    rintro D c pre V _ _ h _
    exact h.elim
end Go.Proofs.YtojidhnkpeiimaaGreatDoor

/- plus of package nat, and nat.Add. -/
namespace Go.Proofs.YtojidhnkpeiimaaGreatDoor
open Go.RowKit
theorem made_u32 (n : Nat) : (madeCells (Value.int .u32 0).cells (n * 1)).toList = (List.replicate n 0).map u32 := by
  rw [show (Value.int .u32 0).cells = #[Value.int .u32 0] from rfl, toList_madeCells_one, Nat.mul_one, List.map_replicate]; rfl
theorem lies_of_block {w : World} {g : Nat} {l : List Nat} (h : w.heap[g]? = some (.cells (l.map u32).toArray 135 (0, 0))) : Lies w g 0 l :=
  ⟨_, h, by simp, fun j hj => by simp [List.getElem?_eq_getElem hj]⟩
theorem splice_front (l : List Nat) : splice ((List.replicate (l.length + 1) 0).map u32) 0 (l.map u32) = (l ++ [0]).map u32 := by
  rw [splice_map, splice, List.take_zero, List.nil_append, Nat.zero_add, List.drop_replicate]; simp
theorem cells_of_lies {w : World} {g : Nat} {l : List Nat} (h : Lies w g 0 l) : ∀ j v, (l.map u32)[j]? = some v → w.cell? ((⟨g, 0, none⟩ : Addr).add j) = some v := by
  intro j v hj
  have hjl : j < l.length := by
    rcases Nat.lt_or_ge j l.length with h | h
    · exact h
    · rw [List.getElem?_eq_none (by simpa using h)] at hj; cases hj
  rw [Lib.add_plain, h.cell j hjl]
  rw [List.getElem?_map, List.getElem?_eq_getElem hjl] at hj
  rw [List.getElem?_eq_getElem hjl]
  exact hj
theorem ones_u32 (l : List Nat) : ∀ v ∈ l.map u32, v.oneCell' = true := by
  intro v hv
  obtain ⟨x, _, rfl⟩ := List.mem_map.1 hv
  rfl
theorem sum_fits {xs ys : List Nat} (hx : Small xs) (hy : Small ys) (h : ys.length ≤ xs.length) : nw xs + nw ys < W ^ (xs.length + 1) := by
  have h1 := nw_lt xs hx
  have h2 := nw_lt ys hy
  have h3 : W ^ ys.length ≤ W ^ xs.length := Nat.pow_le_pow_right W_pos h
  have h4 : W ^ (xs.length + 1) = W ^ xs.length * W := Nat.pow_succ ..
  have h5 : W ^ xs.length * 2 ≤ W ^ xs.length * W := Nat.mul_le_mul_left _ (by decide)
  omega
set_option maxRecDepth 100000 in
set_option maxHeartbeats 2000000 in
theorem plus_ge (gx capx gy capy : Nat) (xs ys : List Nat) (w : World) (hsx : Small xs) (hsy : Small ys) (hlen : xs.length ≤ 17592186044416) (hyx : ys.length ≤ xs.length) (hx : Lies w gx 0 xs) (hy : Lies w gy 0 ys) :
    Calls Tryz.prog 142 #[.slice (some ⟨gx, 0, none⟩) xs.length capx, .slice (some ⟨gy, 0, none⟩) ys.length capy] w fun e w' => ∃ v l, e = .returned v ∧ Has w' w.heap.size v l ∧ Small l ∧ l.length = xs.length + 1 ∧ nw l = nw xs + nw ys ∧ Below w.heap.size w w' := by
  obtain ⟨i0, hi, hz0, hz1, hz2⟩ := info_parts Tryz.infoU32
  have hnl : ¬ xs.length < ys.length := by omega
  have hgx := hx.lt
  have hgy := hy.lt
  go_enter Tryz.func142, Tryz.ntmps142
  go_wp2_with (first
    | (at_make; refine wpList_make_full _ rfl _ _ 147 rfl w.heap.size 135 i0 (.int .u32 0) 1 Tryz.underlying147 hi hz0 hz1 .i64 .i64 _ _ (xs.length + 1) rfl rfl (by omega) (by omega) (by rw [hz2]; omega) (by unfold maxLen; omega) (Nat.le_refl _) ?_; intro w2 hown2 hgrow2; have hb2 := block_of_own hown2; rw [made_u32] at hb2; have HB2 := hide hb2; have hB2 : Below w.heap.size w w2 := (Below.refl _ w).grown hgrow2 (Nat.le_refl _) (fun k e => by cases e); have hx2 := hx.below hB2 hgx; clear hown2 hgrow2 hb2)
    | (refine wpList_copy_splice rfl (.tmp 17) (.tmp 18) 147 147 rfl 135 Tryz.underlying147 (by kernel_rfl) _ _ _ _ _ _ rfl rfl w.heap.size 0 ((List.replicate (xs.length + 1) 0).map u32) 135 (by exact HB2.out) (xs.map u32) (by rw [List.length_map]; exact (Nat.min_eq_left (Nat.le_succ _)).symm) (fun _ => ⟨rfl, _, rfl, cells_of_lies hx2⟩) (by simp) (ones_u32 xs) w.heap.size w hB2 (Nat.le_refl _) ?_; intro w3 hg3 hB3))
  rw [splice_front] at hg3
  have hl3 := lies_of_block hg3.out
  have hy3 := hy.below hB3 hgy
  have e1 : (xs ++ [0]).length = xs.length + 1 := by simp
  have hs1 : Small (xs ++ [0]) := small_append hsx (fun x hx => by simp at hx; subst hx; exact W_pos)
  have hpb := putBack_any w.heap.size 0 (xs.length + 1) gy 0 capy (xs ++ [0]) ys w3 hs1 hsy (by omega) (by omega) hl3 hy3 (by omega)
  rw [e1, nw_snoc, Nat.mul_zero, Nat.add_zero] at hpb
  refine hpb.mono ?_
  rintro e w4 ⟨c, l4, rfl, hl4, hs4, hn4, hlies4, hu4⟩
  have hB4 : Below w.heap.size w w4 := Upd.below hB3 hu4 (Nat.le_refl _) hB3.size
  obtain ⟨cur, hc4, hcs, _⟩ := hu4.inside _ hg3.out
  have hown4 := own_of_lies (base := w.heap.size) (cap := xs.length + 1) cur hc4 (by rw [hcs]; simp) (Nat.le_refl _) (by unfold maxLen; omega) (by omega) hlies4
  have HN : Hid (nw l4 = nw xs + nw ys) := by
    show _ = _
    cases c with
    | false => simpa using hn4
    | true =>
      have hf := sum_fits hsx hsy hyx
      simp only [if_true] at hn4
      omega
  have HL := hide hl4
  rw [hl4] at hown4
  clear hn4 hl4 hc4 hcs hpb hg3 hlies4 hu4
  go_wp2
  go_ret
  exact ⟨_, l4, rfl, by rw [Has, HL.out]; exact hown4, hs4, HL.out, HN.out, hB4⟩
set_option maxRecDepth 100000 in
set_option maxHeartbeats 2000000 in
theorem plus_lt (gx capx gy capy : Nat) (xs ys : List Nat) (w : World) (hsx : Small xs) (hsy : Small ys) (hlen : xs.length ≤ 17592186044416) (hlt : ys.length < xs.length) (hx : Lies w gx 0 xs) (hy : Lies w gy 0 ys) :
    Calls Tryz.prog 142 #[.slice (some ⟨gy, 0, none⟩) ys.length capy, .slice (some ⟨gx, 0, none⟩) xs.length capx] w fun e w' => ∃ v l, e = .returned v ∧ Has w' w.heap.size v l ∧ Small l ∧ l.length = xs.length + 1 ∧ nw l = nw xs + nw ys ∧ Below w.heap.size w w' := by
  obtain ⟨i0, hi, hz0, hz1, hz2⟩ := info_parts Tryz.infoU32
  have hyx : ys.length ≤ xs.length := by omega
  have hgx := hx.lt
  have hgy := hy.lt
  go_enter Tryz.func142, Tryz.ntmps142
  go_wp2_with (first
    | (at_make; refine wpList_make_full _ rfl _ _ 147 rfl w.heap.size 135 i0 (.int .u32 0) 1 Tryz.underlying147 hi hz0 hz1 .i64 .i64 _ _ (xs.length + 1) rfl rfl (by omega) (by omega) (by rw [hz2]; omega) (by unfold maxLen; omega) (Nat.le_refl _) ?_; intro w2 hown2 hgrow2; have hb2 := block_of_own hown2; rw [made_u32] at hb2; have HB2 := hide hb2; have hB2 : Below w.heap.size w w2 := (Below.refl _ w).grown hgrow2 (Nat.le_refl _) (fun k e => by cases e); have hx2 := hx.below hB2 hgx; clear hown2 hgrow2 hb2)
    | (refine wpList_copy_splice rfl (.tmp 17) (.tmp 18) 147 147 rfl 135 Tryz.underlying147 (by kernel_rfl) _ _ _ _ _ _ rfl rfl w.heap.size 0 ((List.replicate (xs.length + 1) 0).map u32) 135 (by exact HB2.out) (xs.map u32) (by rw [List.length_map]; exact (Nat.min_eq_left (Nat.le_succ _)).symm) (fun _ => ⟨rfl, _, rfl, cells_of_lies hx2⟩) (by simp) (ones_u32 xs) w.heap.size w hB2 (Nat.le_refl _) ?_; intro w3 hg3 hB3))
  rw [splice_front] at hg3
  have hl3 := lies_of_block hg3.out
  have hy3 := hy.below hB3 hgy
  have e1 : (xs ++ [0]).length = xs.length + 1 := by simp
  have hs1 : Small (xs ++ [0]) := small_append hsx (fun x hx => by simp at hx; subst hx; exact W_pos)
  have hpb := putBack_any w.heap.size 0 (xs.length + 1) gy 0 capy (xs ++ [0]) ys w3 hs1 hsy (by omega) (by omega) hl3 hy3 (by omega)
  rw [e1, nw_snoc, Nat.mul_zero, Nat.add_zero] at hpb
  refine hpb.mono ?_
  rintro e w4 ⟨c, l4, rfl, hl4, hs4, hn4, hlies4, hu4⟩
  have hB4 : Below w.heap.size w w4 := Upd.below hB3 hu4 (Nat.le_refl _) hB3.size
  obtain ⟨cur, hc4, hcs, _⟩ := hu4.inside _ hg3.out
  have hown4 := own_of_lies (base := w.heap.size) (cap := xs.length + 1) cur hc4 (by rw [hcs]; simp) (Nat.le_refl _) (by unfold maxLen; omega) (by omega) hlies4
  have HN : Hid (nw l4 = nw xs + nw ys) := by
    show _ = _
    cases c with
    | false => simpa using hn4
    | true =>
      have hf := sum_fits hsx hsy hyx
      simp only [if_true] at hn4
      omega
  have HL := hide hl4
  rw [hl4] at hown4
  clear hn4 hl4 hc4 hcs hpb hg3 hlies4 hu4
  go_wp2
  go_ret
  exact ⟨_, l4, rfl, by rw [Has, HL.out]; exact hown4, hs4, HL.out, HN.out, hB4⟩
theorem plus_any (gx capx gy capy : Nat) (xs ys : List Nat) (w : World) (hsx : Small xs) (hsy : Small ys) (hlx : xs.length ≤ 17592186044416) (hly : ys.length ≤ 17592186044416) (hx : Lies w gx 0 xs) (hy : Lies w gy 0 ys) :
    Calls Tryz.prog 142 #[.slice (some ⟨gx, 0, none⟩) xs.length capx, .slice (some ⟨gy, 0, none⟩) ys.length capy] w fun e w' => ∃ v l, e = .returned v ∧ Has w' w.heap.size v l ∧ Small l ∧ l.length ≤ 17592186044417 ∧ nw l = nw xs + nw ys ∧ Below w.heap.size w w' := by
  by_cases h : ys.length ≤ xs.length
  · refine (plus_ge gx capx gy capy xs ys w hsx hsy hlx h hx hy).mono ?_
    rintro e w' ⟨v, l, rfl, h1, h2, h3, h4, h5⟩
    exact ⟨v, l, rfl, h1, h2, by omega, h4, h5⟩
  · refine (plus_lt gy capy gx capx ys xs w hsy hsx hly (by omega) hy hx).mono ?_
    rintro e w' ⟨v, l, rfl, h1, h2, h3, h4, h5⟩
    exact ⟨v, l, rfl, h1, h2, by omega, by omega, h5⟩
theorem has_lies {w w' : World} {base g cap n : Nat} {l : List Nat} (h : Has w base (.slice (some ⟨g, 0, none⟩) n cap) l) (hb : Below w.heap.size w w') : Lies w' g 0 l := by
  rcases h.cases with ⟨e, _⟩ | ⟨g', cap', e, _, _, hl⟩
  · cases e
  · cases e; exact hl.below hb hl.lt
theorem words_len_le (s : ByteArray) (k : Nat) (h : s.size ≤ 4 * k) : (words (N s)).length ≤ k := by
  rw [words_length, ← B_size]
  have := B_size_le s
  omega
set_option maxRecDepth 100000 in
set_option maxHeartbeats 1000000 in
theorem Add_any (a b : ByteArray) (w : World) (ha : a.size ≤ 1099511627776) (hb : b.size ≤ 1099511627776) :
    Calls Tryz.prog 104 #[.string a, .string b] w fun e w' => e = .returned (.string (B (N a + N b))) ∧ Below w.heap.size w w' := by
  have hla := words_len_le a 274877906944 (by omega)
  have hlb := words_len_le b 274877906944 (by omega)
  go_enter Tryz.func104, Tryz.ntmps104
  go_wp2_with fail
  refine (spread_some a _ (by omega)).mono ?_
  rintro e w1 ⟨g1, c1, rfl, h1, hb1⟩
  go_wp2_with fail
  refine (spread_some b _ (by omega)).mono ?_
  rintro e w2 ⟨g2, c2, rfl, h2, hb2⟩
  have hl1 := has_lies h1 hb2
  have hl2 := has_lies h2 (Below.refl _ _)
  have hB2 : Below w.heap.size w w2 := hb1.trans (hb2.mono hb1.size)
  go_wp2_with fail
  refine (plus_any g1 c1 g2 c2 _ _ _ (words_small _) (words_small _) (by omega) (by omega) hl1 hl2).mono ?_
  rintro e w3 ⟨v, l, rfl, h3, hs3, hn3, hv3, hb3⟩
  have hB3 : Below w.heap.size w w3 := hB2.trans (hb3.mono hB2.size)
  have HV := hide hv3
  clear hv3
  go_wp2_with fail
  refine (gather_own _ _ _ _ hs3 (by omega) h3).mono ?_
  rintro e w4 ⟨rfl, hb4⟩
  go_wp2
  go_ret
  exact ⟨by rw [HV.out, nw_words, nw_words]; rfl, hB3.trans (hb4.mono hB3.size)⟩
end Go.Proofs.YtojidhnkpeiimaaGreatDoor

/- allDigits and appendDigit of package nat. -/
namespace Go.Proofs.YtojidhnkpeiimaaGreatDoor
open Go.RowKit
theorem toList_data (s : ByteArray) : s.toList = s.data.toList := by
  obtain ⟨⟨l⟩⟩ := s
  simp
theorem allDig_false (s : ByteArray) (k : Nat) (h : k < s.size) (hd : isDig s[k] = false) : allDig s.data.toList = false := by
  have hm : s[k] ∈ s.data.toList := by
    have : s.data.toList[k]'(by simpa using h) = s[k] := rfl
    rw [← this]; exact List.getElem_mem _
  have : s.data.toList.all isDig = false := by
    rw [List.all_eq_false]; exact ⟨_, hm, by simp [hd]⟩
  simp [allDig, this]
theorem ret_bool {a b : Bool} (h : a = b) : Ending.returned (.bool a) = .returned (.bool b) := by rw [h]
set_option maxHeartbeats 1000000 in
theorem allDigits_any (s : ByteArray) (w : World) (hs : s.size ≤ 140737488355328) :
    Calls Tryz.prog 206 #[.string s] w fun e w' => e = .returned (.bool (allDig s.data.toList)) ∧ w' = w := by
  go_enter Tryz.func206, Tryz.ntmps206
  go_wp2
  go_loop [6] (fun i => ∃ k : Nat, k ≤ s.size ∧ i = .int .i64 k ∧ (s.data.toList.take k).all isDig = true) (fun i => s.size - (intOf i).toNat)
  case atStart => exact ⟨0, Nat.zero_le _, rfl, rfl⟩
  case round =>
    obtain ⟨k, hk, rfl, hall⟩ := hrel
    have HA : Hid ((s.data.toList.take k).all isDig = true) := hall
    clear hall
    by_cases hlt : k < s.size
    · by_cases hc : 48 ≤ s[k].toNat ∧ s[k].toNat ≤ 57
      · have HS : Hid ((s.data.toList.take (k + 1)).all isDig = true) := by
          show _ = _
          rw [take_snoc s k hlt, List.all_append, HA.out]
          simp [isDig, hc]
        obtain ⟨hc1, hc2⟩ := hc
        go_wp2
        go_round
        case rel => exact ⟨k + 1, by omega, by go_num, HS.out⟩
        case measure => simp [intOf]; omega
      · have HF : Hid (allDig s.data.toList = false) := allDig_false s k hlt (by simp only [isDig, decide_eq_false_iff_not]; exact hc)
        rcases (show s[k].toNat < 48 ∨ (48 ≤ s[k].toNat ∧ 57 < s[k].toNat) by omega) with h1 | ⟨h1, h2⟩
        · clear hc
          go_wp2
          go_ret
          exact ⟨ret_bool HF.out.symm, rfl⟩
        · clear hc
          go_wp2
          go_ret
          exact ⟨ret_bool HF.out.symm, rfl⟩
    · have HE : Hid (s.data.toList.all isDig = true) := by
        show _ = _
        have := HA.out
        rwa [List.take_of_length_le (by simp; omega)] at this
      go_wp2
      go_ret
      refine ⟨ret_bool ?_, rfl⟩
      rw [allDig, HE.out, Bool.and_true, toList_data]
set_option maxRecDepth 100000 in
set_option maxHeartbeats 2000000 in
theorem appendDigit_some (g cap : Nat) (l : List Nat) (d : Nat) (w : World) (hs : Small l) (hd : d ≤ 9) (hlen : l.length ≤ 8796093022208) (base : Nat) (hb : base ≤ w.heap.size)
    (h : Has w base (.slice (some ⟨g, 0, none⟩) l.length cap) l) :
    Calls Tryz.prog 207 #[.slice (some ⟨g, 0, none⟩) l.length cap, .int .u8 (d : Nat)] w fun e w' => ∃ v' l', e = .returned v' ∧ Has w' base v' l' ∧ Small l' ∧ nw l' = nw l * 10 + d ∧ l'.length ≤ l.length + 1 ∧ Below base w w' := by
  obtain ⟨i0, hi, hz0, hz1, hz2⟩ := info_parts Tryz.infoU32
  have hlg : Lies w g 0 l := (own_lies h).2.2.2
  have hbg : base ≤ g := (own_lies h).2.2.1
  have HH := hide h
  clear h
  go_enter Tryz.func207, Tryz.ntmps207
  go_wp2
  go_loopw [5, 11] (fun c i wr => ∃ k : Nat, k ≤ l.length ∧ i = .int .i64 k ∧ c = .int .u64 ((mad d (l.take k)).2 : Nat) ∧ Lies wr g 0 ((mad d (l.take k)).1 ++ l.drop k) ∧ Upd g 0 l.length w wr)
    (fun _ i _ => l.length - (intOf i).toNat)
  case atStart => exact ⟨0, Nat.zero_le _, rfl, rfl, by simpa [mad] using hlg, Upd.refl _ _ _ _⟩
  case round =>
    obtain ⟨k, hk, rfl, rfl, hlr, hur⟩ := hrel
    by_cases hlt : k < l.length
    · have hcy := mad_carry d (l.take k) hd (small_take hs k)
      have hql : (mad d (l.take k)).1.length = k := by rw [mad_length, List.length_take]; omega
      have hx := hs _ (List.getElem_mem hlt)
      have hlen2 : k < ((mad d (l.take k)).1 ++ l.drop k).length := by rw [List.length_append, hql, List.length_drop]; omega
      have hcell := hlr.cell k hlen2
      have hfz := hlr.frozen (0 + k)
      have hset := fun y => hlr.set k hlen2 y
      simp only [drop_set_append _ l k _ hql hlt] at hset
      have hgm : ((mad d (l.take k)).1 ++ l.drop k)[k]?.getD 0 = l[k] := by
        rw [List.getElem?_append_right (by omega), hql, Nat.sub_self, List.getElem?_drop, Nat.add_zero, List.getElem?_eq_getElem hlt]; rfl
      rw [hgm] at hcell
      rw [Nat.zero_add] at hcell hfz
      have HG : Hid (mad d (l.take (k + 1)) = ((mad d (l.take k)).1 ++ [((mad d (l.take k)).2 + l[k] * 10) % W], ((mad d (l.take k)).2 + l[k] * 10) / W)) := by show _ = _; rw [List.take_succ_eq_append_getElem hlt, mad_snoc]
      rw [W_eq] at hx
      generalize (mad d (l.take k)).2 = c at *
      generalize (mad d (l.take k)).1 = q at *
      generalize l[k] = x at *
      have HSET := hide hset
      clear hset hgm hlen2 hlr
      go_wp2
      have hv : Value.int .u32 (((c : Int) + (x : Int) * 10) % 4294967296) = .int .u32 (((c + x * 10) % W : Nat) : Int) := int_eq (by rw [W_eq]; omega)
      have hv2 : Value.int .u64 (((c : Int) + (x : Int) * 10) / 4294967296) = .int .u64 (((c + x * 10) / W : Nat) : Int) := int_eq (by rw [W_eq]; omega)
      rw [hv, hv2]
      have hq := HSET.out ((c + x * 10) % W)
      rw [Nat.zero_add] at hq
      go_roundw
      case rel => exact ⟨k + 1, by omega, by go_num, by rw [HG.out], by rw [HG.out]; exact hq, hur.trans (Upd.setCell (Nat.zero_le _) (by omega) _)⟩
      case measure => simp [intOf]; omega
    · obtain rfl : k = l.length := by omega
      rw [List.take_length] at hlr ⊢
      rw [List.drop_length, List.append_nil] at hlr
      have hcy := mad_carry d l hd hs
      have HQ := hide (mad_eq d l)
      have hqs := mad_small d l
      have hql := mad_length d l
      have hown := HH.out.upd hur hlr hql
      have hbel : Below base w wr := Upd.below (Below.refl _ _) hur hbg hb
      have hsz := hbel.size
      generalize (mad d l).2 = c at *
      generalize (mad d l).1 = q at *
      have HL := hide hql
      clear hlr hur hql
      by_cases h0 : c = 0
      · subst h0
        go_wp2
        go_ret
        exact ⟨_, q, rfl, hown, hqs, by have := HQ.out; rwa [Nat.mul_zero, Nat.add_zero] at this, by have := HL.out; omega, hbel⟩
      · have hcp : 0 < c := by omega
        have hown2 : wr.ownsRow base 135 1 (.slice (some ⟨g, 0, none⟩) l.length cap) l.length (q.map u32) := by have := hown; rw [Has, HL.out] at this; exact this
        go_wp2_with (at_builtin; refine wpList_append_own _ rfl _ _ 147 rfl base 135 i0 (.int .u32 0) 1 4 Tryz.underlying147 hi hz0 hz1 hz2 rfl (by decide) _ _ _ rfl (hown2.alloc _) ⟨wr.heap.size, 0, none⟩ 1 1 [.int .u32 (c : Nat)] rfl rfl (cell_one_new _ _ _) (by simp [Value.oneCell']) (by unfold maxLen; omega) (by omega) (by simp; omega) ?_; intro v' w2 hown3 hgrow2 _)
        go_wp2
        go_ret
        have hb2 : Below base w w2 := (hbel.alloc (by omega) _).grown hgrow2 (by simp; omega) (fun k hk => by cases hk; exact hbg)
        refine ⟨_, q ++ [c], rfl, ?_, ?_, ?_, ?_, hb2⟩
        · have e : (q ++ [c]).length = l.length + 1 := by rw [List.length_append, HL.out]; rfl
          rw [Has, e]; simpa [u32] using hown3
        · intro y hy
          rcases List.mem_append.1 hy with hy | hy
          · exact hqs y hy
          · simp at hy; subst hy; rw [W_eq]; omega
        · rw [nw_snoc, HL.out]; exact HQ.out
        · rw [List.length_append, HL.out]; exact Nat.le_refl _
end Go.Proofs.YtojidhnkpeiimaaGreatDoor

/- cmp.Compare at api.Nat, and nat.Cmp. -/
namespace Go.Proofs.YtojidhnkpeiimaaGreatDoor
open Go.RowKit
def cmpI (m n : Nat) : Int := if m < n then -1 else if m = n then 0 else 1
theorem less_nb : ∀ (l m : List UInt8), l.length = m.length → Op.bytesLess l m = decide (nb l < nb m)
  | [], [], _ => rfl
  | x :: l, y :: m, h => by
    have hl : l.length = m.length := by simpa using h
    have ih := less_nb l m hl
    have h1 := nb_lt l
    have h2 := nb_lt m
    rw [nb_cons, nb_cons, ← hl]
    rw [← hl] at h2
    rw [Op.bytesLess]
    rcases Nat.lt_trichotomy x.toNat y.toNat with e | e | e
    · have hxy : (decide (x < y)) = true := by simpa [UInt8.lt_iff_toNat_lt] using e
      have : (x.toNat + 1) * 256 ^ l.length ≤ y.toNat * 256 ^ l.length := Nat.mul_le_mul_right _ e
      rw [Nat.add_mul] at this
      rw [hxy, Bool.true_or]
      symm; rw [decide_eq_true_eq]; omega
    · have hxy : x = y := UInt8.toNat_inj.1 e
      subst hxy
      have h3 : (decide (x < x)) = false := by simp
      rw [h3, Bool.false_or, beq_self_eq_true, Bool.true_and, ih]
      congr 1
      apply propext
      omega
    · have h3 : (decide (x < y)) = false := by simp [UInt8.lt_iff_toNat_lt]; omega
      have h4 : (x == y) = false := by rw [beq_eq_false_iff_ne]; rintro rfl; omega
      have : (y.toNat + 1) * 256 ^ l.length ≤ x.toNat * 256 ^ l.length := Nat.mul_le_mul_right _ e
      rw [Nat.add_mul] at this
      rw [h3, h4, Bool.false_or, Bool.false_and]
      symm; rw [decide_eq_false_iff_not]; omega
theorem nb_inj : ∀ (l m : List UInt8), l.length = m.length → nb l = nb m → l = m
  | [], [], _, _ => rfl
  | x :: l, y :: m, h, e => by
    have hl : l.length = m.length := by simpa using h
    have h1 := nb_lt l
    have h2 := nb_lt m
    rw [nb_cons, nb_cons, ← hl] at e
    rw [← hl] at h2
    have hp : 0 < 256 ^ l.length := Nat.pow_pos (by decide)
    have hx : x.toNat = y.toNat := by
      rcases Nat.lt_trichotomy x.toNat y.toNat with c | c | c
      · have : (x.toNat + 1) * 256 ^ l.length ≤ y.toNat * 256 ^ l.length := Nat.mul_le_mul_right _ c
        rw [Nat.add_mul] at this
        omega
      · exact c
      · have : (y.toNat + 1) * 256 ^ l.length ≤ x.toNat * 256 ^ l.length := Nat.mul_le_mul_right _ c
        rw [Nat.add_mul] at this
        omega
    rw [hx] at e
    rw [UInt8.toNat_inj.1 hx, nb_inj l m hl (by omega)]
set_option maxHeartbeats 1000000 in
theorem CompareNat_any (a b : ByteArray) (w : World) (h : a.size = b.size) :
    Calls Tryz.prog 118 #[.string a, .string b] w fun e w' => e = .returned (.int .i64 (cmpI (N a) (N b))) ∧ w' = w := by
  have hlt := less_nb a.data.toList b.data.toList (by rw [Array.length_toList, Array.length_toList]; exact h)
  rcases Nat.lt_trichotomy (N a) (N b) with h1 | h1 | h1
  · have hL : Op.bytesLess a.toList b.toList = true := by rw [toList_data, toList_data, hlt]; simpa [N] using h1
    have HR : Hid (cmpI (N a) (N b) = -1) := by show _ = _; rw [cmpI, if_pos h1]
    clear hlt h1
    go_enter Tryz.func118, Tryz.ntmps118
    go_wp2
    go_ret
    exact ⟨ret_int HR.out.symm, rfl⟩
  · have hL : Op.bytesLess a.toList b.toList = false := by rw [toList_data, toList_data, hlt]; simp only [N] at h1; rw [decide_eq_false_iff_not]; omega
    have hE : (a.toList == b.toList) = true := by
      rw [toList_data, toList_data, nb_inj a.data.toList b.data.toList (by rw [Array.length_toList, Array.length_toList]; exact h) h1]
      simp
    have HR : Hid (cmpI (N a) (N b) = 0) := by show _ = _; rw [cmpI, if_neg (by omega), if_pos h1]
    clear hlt h1
    go_enter Tryz.func118, Tryz.ntmps118
    go_wp2
    go_ret
    exact ⟨ret_int HR.out.symm, rfl⟩
  · have hL : Op.bytesLess a.toList b.toList = false := by rw [toList_data, toList_data, hlt]; simp only [N] at h1; rw [decide_eq_false_iff_not]; omega
    have hE : (a.toList == b.toList) = false := by
      rw [toList_data, toList_data, beq_eq_false_iff_ne]
      intro e
      rw [N, N, e] at h1
      omega
    have HR : Hid (cmpI (N a) (N b) = 1) := by show _ = _; rw [cmpI, if_neg (by omega), if_neg (by omega)]
    clear hlt h1
    go_enter Tryz.func118, Tryz.ntmps118
    go_wp2
    go_ret
    exact ⟨ret_int HR.out.symm, rfl⟩
set_option maxHeartbeats 1000000 in
theorem Cmp_any (a b : ByteArray) (w : World) :
    Calls Tryz.prog 82 #[.string a, .string b] w fun e w' => e = .returned (.int .i64 (cmpI (N a) (N b))) ∧ w' = w := by
  by_cases h : (B (N a)).size = (B (N b)).size
  · have hc := fun V => CompareNat_any (B (N a)) (B (N b)) V h
    simp only [N_B] at hc
    have HC := hide hc
    have hne : (((B (N a)).size : Int) != ((B (N b)).size : Int)) = false := by rw [h]; simp
    clear hc h
    go_enter Tryz.func82, Tryz.ntmps82
    go_wp2_with fail
    refine (bare_any _ _).mono ?_
    rintro e w1 ⟨rfl, hw⟩
    subst hw
    go_wp2_with fail
    refine (bare_any _ _).mono ?_
    rintro e w2 ⟨rfl, hw⟩
    subst hw
    go_wp2_with fail
    refine (HC.out _).mono ?_
    rintro e w3 ⟨rfl, hw⟩
    subst hw
    go_wp2
    go_ret
    exact ⟨rfl, rfl⟩
  · have hne : (((B (N a)).size : Int) != ((B (N b)).size : Int)) = true := by rw [bne_iff_ne]; omega
    have HR : Hid (Lib.compareInt (((B (N a)).size : Nat) : Int) (((B (N b)).size : Nat) : Int) = cmpI (N a) (N b)) := by
      show _ = _
      rw [B_size, B_size] at h ⊢
      unfold Lib.compareInt cmpI
      rcases Nat.lt_or_ge (N a) (N b) with c | c
      · have := bn_length_mono (Nat.le_of_lt c)
        rw [if_pos (by omega), if_pos c]
      · have := bn_length_mono c
        rw [if_neg (by omega), if_pos (by omega), if_neg (by omega), if_neg (by intro e; rw [e] at h; exact h rfl)]
    clear h
    go_enter Tryz.func82, Tryz.ntmps82
    go_wp2_with fail
    refine (bare_any _ _).mono ?_
    rintro e w1 ⟨rfl, hw⟩
    subst hw
    go_wp2_with fail
    refine (bare_any _ _).mono ?_
    rintro e w2 ⟨rfl, hw⟩
    subst hw
    go_wp2_with fail
    refine (Tryz.cmp_Compare_int _ _ _).mono ?_
    rintro e w3 ⟨rfl, hw⟩
    subst hw
    go_wp2
    go_ret
    exact ⟨ret_int HR.out, rfl⟩
end Go.Proofs.YtojidhnkpeiimaaGreatDoor

/- Plain facts on taking a multiple away part by part. -/
namespace Go.Proofs.YtojidhnkpeiimaaGreatDoor
def sbm (xs ys : List Nat) (f : Nat) : Nat → List Nat × Nat × Nat
  | 0 => ([], 0, 0)
  | k + 1 => ((sbm xs ys f k).1 ++ [(xs[k]?.getD 0 + 2 * W - ((sbm xs ys f k).2.1 + ys[k]?.getD 0 * f) % W - (sbm xs ys f k).2.2) % W],
      ((sbm xs ys f k).2.1 + ys[k]?.getD 0 * f) / W, if xs[k]?.getD 0 < ((sbm xs ys f k).2.1 + ys[k]?.getD 0 * f) % W + (sbm xs ys f k).2.2 then 1 else 0)
theorem sbm_length (xs ys : List Nat) (f k : Nat) : (sbm xs ys f k).1.length = k := by
  induction k with
  | zero => rfl
  | succ k ih => simp [sbm, ih]
theorem sbm_small (xs ys : List Nat) (f k : Nat) : Small (sbm xs ys f k).1 := by
  induction k with
  | zero => intro x hx; simp [sbm] at hx
  | succ k ih =>
    intro x hx
    rw [sbm] at hx
    rcases List.mem_append.1 hx with hx | hx
    · exact ih x hx
    · simp only [List.mem_singleton] at hx; subst hx; exact Nat.mod_lt _ W_pos
theorem sbm_borrow (xs ys : List Nat) (f k : Nat) : (sbm xs ys f k).2.2 ≤ 1 := by
  cases k with
  | zero => exact Nat.zero_le _
  | succ k =>
    rw [sbm]
    show (if _ then 1 else 0) ≤ 1
    split <;> omega
theorem sbm_carry (xs ys : List Nat) (f : Nat) (hy : Small ys) (hf : f < W) (k : Nat) : (sbm xs ys f k).2.1 < W := by
  induction k with
  | zero => exact W_pos
  | succ k ih =>
    rw [sbm]
    refine Nat.div_lt_of_lt_mul ?_
    have h1 := getD_lt hy k
    have h2 : ys[k]?.getD 0 * f ≤ (W - 1) * (W - 1) := Nat.mul_le_mul (by omega) (by omega)
    have h3 : (W - 1) * (W - 1) + W ≤ W * W := by decide
    omega
theorem sbm_step (x c t b : Nat) (hx : x < W) (hb : b ≤ 1) :
    (x + 2 * W - (c + t) % W - b) % W + t + b + c = x + W * ((c + t) / W + if x < (c + t) % W + b then 1 else 0) := by
  have e := Nat.mod_add_div (c + t) W
  have hlo := Nat.mod_lt (c + t) W_pos
  generalize (c + t) % W = lo at *
  generalize (c + t) / W = q at *
  rw [Nat.mul_add]
  by_cases h : x < lo + b
  · rw [if_pos h]
    have : (x + 2 * W - lo - b) % W = x + W - lo - b := by
      rw [show x + 2 * W - lo - b = (x + W - lo - b) + W by omega, Nat.add_mod_right]
      exact Nat.mod_eq_of_lt (by omega)
    omega
  · rw [if_neg h]
    have : (x + 2 * W - lo - b) % W = x - lo - b := by
      rw [show x + 2 * W - lo - b = (x - lo - b) + W + W by omega, Nat.add_mod_right, Nat.add_mod_right]
      exact Nat.mod_eq_of_lt (by omega)
    omega
theorem sbm_eq (xs ys : List Nat) (f : Nat) (hx : Small xs) (k : Nat) :
    nw (sbm xs ys f k).1 + f * nw (ys.take k) = nw (xs.take k) + W ^ k * ((sbm xs ys f k).2.1 + (sbm xs ys f k).2.2) := by
  rw [← nwF_take xs k, ← nwF_take ys k]
  induction k with
  | zero => simp [sbm, nwF, nw_nil]
  | succ k ih =>
    have hb := sbm_borrow xs ys f k
    have st := sbm_step (xs[k]?.getD 0) (sbm xs ys f k).2.1 (ys[k]?.getD 0 * f) (sbm xs ys f k).2.2 (getD_lt hx k) hb
    have e3 : f * (nwF (fun j => ys[j]?.getD 0) k + W ^ k * ys[k]?.getD 0) = f * nwF (fun j => ys[j]?.getD 0) k + W ^ k * (ys[k]?.getD 0 * f) := by
      rw [Nat.mul_add, Nat.mul_left_comm, Nat.mul_comm f (ys[k]?.getD 0)]
    rw [sbm, nwF, nwF, nw_snoc, sbm_length, e3]
    show _ = _ + W ^ (k + 1) * (_ + if _ then 1 else 0)
    rw [Nat.pow_succ, Nat.mul_assoc]
    generalize (xs[k]?.getD 0 + 2 * W - ((sbm xs ys f k).2.1 + ys[k]?.getD 0 * f) % W - (sbm xs ys f k).2.2) % W = d at *
    generalize (((sbm xs ys f k).2.1 + ys[k]?.getD 0 * f) / W + if xs[k]?.getD 0 < ((sbm xs ys f k).2.1 + ys[k]?.getD 0 * f) % W + (sbm xs ys f k).2.2 then 1 else 0) = z at *
    generalize (sbm xs ys f k).2.1 = c at *
    generalize (sbm xs ys f k).2.2 = b at *
    generalize ys[k]?.getD 0 * f = t at *
    have := congrArg (W ^ k * ·) st
    simp only [Nat.mul_add] at this ih ⊢
    omega
end Go.Proofs.YtojidhnkpeiimaaGreatDoor

/- takeTimes of package nat: a multiple taken away, in the place of its first argument; does it fall below 0? -/
namespace Go.Proofs.YtojidhnkpeiimaaGreatDoor
open Go.RowKit
theorem and_mask (t : Nat) (ht : t < 18446744073709551616) : bits .and .u64 (t : Int) 4294967295 = ((t % 4294967296 : Nat) : Int) := by
  have e : (4294967295 : Int) = ((4294967295 : Nat) : Int) := rfl
  rw [e, u64_and_nat t 4294967295 ht (by omega)]
  congr 1
  exact Nat.and_two_pow_sub_one_eq_mod t 32
theorem sub_word (x lo b : Nat) (hx : x < 4294967296) (hlo : lo < 4294967296) (hb : b ≤ 1) :
    IntKind.u64.wrap (IntKind.u64.wrap ((x : Int) - (lo : Int)) - (b : Int)) / 9223372036854775808 = ((if x < lo + b then 1 else 0 : Nat) : Int) ∧
    IntKind.u64.wrap (IntKind.u64.wrap ((x : Int) - (lo : Int)) - (b : Int)) % 4294967296 = (((x + 2 * W - lo - b) % W : Nat) : Int) := by
  rw [IntKind.wrap_u64, IntKind.wrap_u64, W_eq]
  by_cases h : x < lo + b
  · rw [if_pos h]
    have e : (((x : Int) - (lo : Int)) % 18446744073709551616 - (b : Int)) % 18446744073709551616 = (x : Int) - (lo : Int) - (b : Int) + 18446744073709551616 := by omega
    rw [e]
    omega
  · rw [if_neg h]
    have e : (((x : Int) - (lo : Int)) % 18446744073709551616 - (b : Int)) % 18446744073709551616 = (x : Int) - (lo : Int) - (b : Int) := by omega
    rw [e]
    omega
set_option maxRecDepth 100000 in
set_option maxHeartbeats 4000000 in
theorem takeTimes_any (g off cap b offy capy : Nat) (xs ys : List Nat) (f : Nat) (w : World) (hsx : Small xs) (hsy : Small ys) (hf : f < W) (hlen : xs.length ≤ 35184372088832) (hyx : ys.length ≤ xs.length) (hx : Lies w g off xs) (hy : Lies w b offy ys) (hgb : b ≠ g) :
    Calls Tryz.prog 175 #[.slice (some ⟨g, off, none⟩) xs.length cap, .slice (some ⟨b, offy, none⟩) ys.length capy, .int .u32 (f : Nat)] w fun e w' => ∃ (s : Nat) (l' : List Nat), e = .returned (.bool (decide (s ≠ 0))) ∧ l'.length = xs.length ∧ Small l' ∧ nw l' + f * nw ys = nw xs + W ^ xs.length * s ∧ Lies w' g off l' ∧ Upd g off xs.length w w' := by
  have hf2 : f < 4294967296 := hf
  go_enter Tryz.func175, Tryz.ntmps175
  go_wp2
  go_loopw [7, 8, 13] (fun c bo i wr => ∃ k : Nat, k ≤ xs.length ∧ i = .int .i64 k ∧ c = .int .u64 ((sbm xs ys f k).2.1 : Nat) ∧ bo = .int .u64 ((sbm xs ys f k).2.2 : Nat) ∧ Lies wr g off ((sbm xs ys f k).1 ++ xs.drop k) ∧ Upd g off xs.length w wr)
    (fun _ _ i _ => xs.length - (intOf i).toNat)
  case atStart => exact ⟨0, Nat.zero_le _, rfl, rfl, rfl, by simpa [sbm] using hx, Upd.refl _ _ _ _⟩
  case round =>
    obtain ⟨k, hk, rfl, rfl, rfl, hlr, hur⟩ := hrel
    have hcy := sbm_carry xs ys f hsy hf k
    have hbo := sbm_borrow xs ys f k
    have hql := sbm_length xs ys f k
    have hqs := sbm_small xs ys f k
    have HQ := hide (sbm_eq xs ys f hsx k)
    rw [W_eq] at hcy
    by_cases hlt : k < xs.length
    · have hlen2 : k < ((sbm xs ys f k).1 ++ xs.drop k).length := by rw [List.length_append, hql, List.length_drop]; omega
      have hcell := hlr.cell k hlen2
      have hfz := hlr.frozen (off + k)
      have hset := fun y => hlr.set k hlen2 y
      simp only [drop_set_append _ xs k _ hql hlt] at hset
      have hgm : ((sbm xs ys f k).1 ++ xs.drop k)[k]?.getD 0 = xs[k]?.getD 0 := by
        rw [List.getElem?_append_right (by omega), hql, Nat.sub_self, List.getElem?_drop, Nat.add_zero]
      rw [hgm] at hcell
      have HG : Hid (sbm xs ys f (k + 1) = ((sbm xs ys f k).1 ++ [(xs[k]?.getD 0 + 2 * W - ((sbm xs ys f k).2.1 + ys[k]?.getD 0 * f) % W - (sbm xs ys f k).2.2) % W],
        ((sbm xs ys f k).2.1 + ys[k]?.getD 0 * f) / W, if xs[k]?.getD 0 < ((sbm xs ys f k).2.1 + ys[k]?.getD 0 * f) % W + (sbm xs ys f k).2.2 then 1 else 0)) := rfl
      have hxk := getD_lt hsx k
      have hyk := getD_lt hsy k
      have hprod : ys[k]?.getD 0 * f ≤ 4294967295 * 4294967295 := Nat.mul_le_mul (by rw [W_eq] at hyk; omega) (by rw [W_eq] at hf; omega)
      rw [W_eq] at hxk hyk
      by_cases hky : k < ys.length
      · have hcy2 := (hy.apart hur hgb).cell k hky
        generalize (sbm xs ys f k).2.1 = c at *
        generalize (sbm xs ys f k).2.2 = bo at *
        generalize (sbm xs ys f k).1 = q at *
        generalize xs[k]?.getD 0 = x at *
        generalize ys[k]?.getD 0 = y at *
        have hp1 : (y : Int) * (f : Int) ≤ 18446744065119617025 := by rw [← Int.natCast_mul]; omega
        have hp0 : 0 ≤ (y : Int) * (f : Int) := by rw [← Int.natCast_mul]; omega
        obtain ⟨lo, hlo⟩ : ∃ lo, lo = (c + y * f) % 4294967296 := ⟨_, rfl⟩
        have hand : bits .and .u64 ((c : Int) + (y : Int) * (f : Int)) 4294967295 = (lo : Int) := by
          have := and_mask (c + y * f) (by omega)
          rw [← hlo] at this
          rw [← this, Int.natCast_add, Int.natCast_mul]
        have hlob : lo < 4294967296 := by omega
        have HLO := hide hlo
        have HSET := hide hset
        clear hset hgm hlen2 hlr HQ hlo hprod
        go_wp2
        obtain ⟨v1, v2⟩ := sub_word x lo bo hxk hlob hbo
        rw [v1, v2]
        have hv2 : Value.int .u64 (((c : Int) + (y : Int) * (f : Int)) / 4294967296) = .int .u64 (((c + y * f) / W : Nat) : Int) := int_eq (by rw [W_eq, Int.natCast_ediv, Int.natCast_add, Int.natCast_mul]; rfl)
        rw [hv2]
        have hq := HSET.out ((x + 2 * W - lo - bo) % W)
        have HL2 : Hid ((c + y * f) % W = lo) := HLO.out.symm
        have HG2 := HG.out
        rw [HL2.out] at HG2
        go_roundw
        case rel => exact ⟨k + 1, by omega, by go_num, by rw [HG2], by rw [HG2], by rw [HG2]; exact hq, hur.trans (Upd.setCell (Nat.le_add_right _ _) (by omega) _)⟩
        case measure => simp [intOf]; omega
      · have hyk0 : ys[k]?.getD 0 = 0 := by rw [List.getElem?_eq_none (by omega)]; rfl
        by_cases hc0 : (sbm xs ys f k).2.1 = 0 ∧ (sbm xs ys f k).2.2 = 0
        · obtain ⟨hc1, hc2⟩ := hc0
          have HE : Hid (nw ((sbm xs ys f k).1 ++ xs.drop k) + f * nw ys = nw xs) := by
            show _ = _
            have e := HQ.out
            rw [hc1, hc2, Nat.mul_zero, Nat.add_zero, List.take_of_length_le (show ys.length ≤ k by omega)] at e
            have e2 := nw_cut_le xs k hk
            rw [nw_append, hql]; omega
          have hsm := small_append hqs (small_drop hsx k)
          have hll : ((sbm xs ys f k).1 ++ xs.drop k).length = xs.length := by rw [List.length_append, hql, List.length_drop]; omega
          rw [hc1, hc2]
          generalize (sbm xs ys f k).1 ++ xs.drop k = q at *
          clear hset hcell hfz HG hgm hlen2 HQ hprod
          go_wp2
          go_ret
          exact ⟨0, q, rfl, hll, hsm, by rw [HE.out, Nat.mul_zero, Nat.add_zero], hlr, hur⟩
        · have HG2 := HG.out
          simp only [hyk0, Nat.zero_mul, Nat.add_zero] at HG2
          generalize (sbm xs ys f k).2.1 = c at *
          generalize (sbm xs ys f k).2.2 = bo at *
          generalize (sbm xs ys f k).1 = q at *
          generalize xs[k]?.getD 0 = x at *
          have hcm : c % W = c := Nat.mod_eq_of_lt hcy
          simp only [hcm] at HG2
          have hand : bits .and .u64 (c : Int) 4294967295 = (c : Int) := by
            have := and_mask c (by omega)
            rwa [Nat.mod_eq_of_lt hcy] at this
          have HG3 := hide HG2
          have HSET := hide hset
          clear hset hgm hlen2 hlr HQ hyk0 hprod HG HG2 hcm
          by_cases hcz : c = 0
          · subst hcz
            have hb1 : bo = 1 := by omega
            subst hb1
            clear hc0
            go_wp2
            obtain ⟨v1, v2⟩ := sub_word x 0 1 hxk (by omega) (by omega)
            have hz : bits .and .u64 0 4294967295 = ((0 : Nat) : Int) := and_mask 0 (by omega)
            rw [hz, show IntKind.u64.wrap (IntKind.u64.wrap ((x : Int) - ((0 : Nat) : Int)) - 1) = IntKind.u64.wrap (IntKind.u64.wrap ((x : Int) - ((0 : Nat) : Int)) - ((1 : Nat) : Int)) from rfl, v1, v2]
            have hq := HSET.out ((x + 2 * W - 0 - 1) % W)
            go_roundw
            case rel => exact ⟨k + 1, by omega, by go_num, by rw [HG3.out]; rfl, by rw [HG3.out], by rw [HG3.out]; exact hq, hur.trans (Upd.setCell (Nat.le_add_right _ _) (by omega) _)⟩
            case measure => simp [intOf]; omega
          · have hcb : ((c : Int) == 0) = false := by rw [beq_eq_false_iff_ne]; omega
            clear hc0
            go_wp2
            obtain ⟨v1, v2⟩ := sub_word x c bo hxk hcy hbo
            rw [v1, v2]
            have hv2 : Value.int .u64 ((c : Int) / 4294967296) = .int .u64 ((c / W : Nat) : Int) := int_eq (by rw [W_eq]; omega)
            have hq := HSET.out ((x + 2 * W - c - bo) % W)
            rw [hv2]
            go_roundw
            case rel => exact ⟨k + 1, by omega, by go_num, by rw [HG3.out], by rw [HG3.out], by rw [HG3.out]; exact hq, hur.trans (Upd.setCell (Nat.le_add_right _ _) (by omega) _)⟩
            case measure => simp [intOf]; omega
    · obtain rfl : k = xs.length := by omega
      rw [List.drop_length, List.append_nil] at hlr
      have HE : Hid (nw (sbm xs ys f xs.length).1 + f * nw ys = nw xs + W ^ xs.length * ((sbm xs ys f xs.length).2.1 + (sbm xs ys f xs.length).2.2)) := by
        show _ = _
        have e := HQ.out
        rwa [List.take_length, List.take_of_length_le hyx] at e
      generalize (sbm xs ys f xs.length).1 = q at *
      generalize (sbm xs ys f xs.length).2.1 = c at *
      generalize (sbm xs ys f xs.length).2.2 = bo at *
      clear HQ
      by_cases hcz : c = 0
      · subst hcz
        rcases (show bo = 0 ∨ bo = 1 by omega) with rfl | rfl
        · go_wp2
          go_ret
          exact ⟨0, q, rfl, hql, hqs, HE.out, hlr, hur⟩
        · go_wp2
          go_ret
          exact ⟨1, q, rfl, hql, hqs, HE.out, hlr, hur⟩
      · have hcb : ((c : Int) != 0) = true := by rw [bne_iff_ne]; omega
        go_wp2
        go_ret
        exact ⟨c + bo, q, ret_bool (by symm; rw [decide_eq_true_eq]; omega), hql, hqs, HE.out, hlr, hur⟩
end Go.Proofs.YtojidhnkpeiimaaGreatDoor
