/- shorten and gather of package nat, of a slice that the caller owns, nil or not. -/
import Derived.Test.YtbejijgelljeaaaGreatDoorCore1CyMem
import Derived.Test.YtbejijgelljeaaaGreatDoorNumCy
import Derived.Deep.LoopGhost
import Derived.Lib.ItoaMem
namespace Go.Proofs.YtbejijgelljeaaaGreatDoor
open Go.RowKit
/-- The slice value v, in a block from base on, holds the parts l, and nobody else's; or it is nil and there are none. -/
def Has (w : World) (base : Nat) (v : Value) (l : List Nat) : Prop := w.ownsRow base 127 1 v l.length (l.map u32)
theorem Has.cases {w : World} {base : Nat} {v : Value} {l : List Nat} (h : Has w base v l) : (v = .slice none 0 0 ∧ l = []) ∨ ∃ g cap, v = .slice (some ⟨g, 0, none⟩) l.length cap ∧ l.length ≤ cap ∧ base ≤ g ∧ Lies w g 0 l := by
  rcases h.2 with ⟨hv, hn⟩ | ⟨g, cap, cur, hv, r⟩
  · exact .inl ⟨hv, List.eq_nil_of_length_eq_zero hn⟩
  · subst hv
    obtain ⟨_, h1, h2, h3⟩ := own_lies h
    exact .inr ⟨g, cap, rfl, h1, h2, h3⟩
theorem Has.below {w w' : World} {base B : Nat} {v : Value} {l : List Nat} (h : Has w base v l) (hb : Below B w w') (hB : w.heap.size ≤ B) : Has w' base v l := own_below h hb hB
theorem cut_own {w : World} {base g n cap : Nat} {l : List Nat} (k : Nat) (hk : k ≤ l.length) (h : w.ownsRow base 127 1 (.slice (some ⟨g, 0, none⟩) n cap) n (l.map u32)) : w.ownsRow base 127 1 (.slice (some ⟨g, 0, none⟩) k cap) k ((l.take k).map u32) := by
  have hn := own_len h
  refine ⟨by simp; omega, ?_⟩
  rcases h.2 with ⟨h', _⟩ | ⟨g', cap', cur, h', hb, hg, hnc, hm, hsz, htk⟩
  · cases h'
  · cases h'
    refine .inr ⟨g, cap, cur, rfl, hb, hg, by omega, hm, hsz, ?_⟩
    rw [List.map_take, ← htk, List.take_take, Nat.min_eq_left (by omega), Nat.mul_one]
set_option maxRecDepth 100000 in
set_option maxHeartbeats 1000000 in
theorem gather_nil (w : World) : Calls Tryz.prog 91 #[.slice none 0 0] w fun e w' => e = .returned (.string (B 0)) ∧ Below w.heap.size w w' := by
  obtain ⟨i0, hi, hz0, hz1, hz2⟩ := info_parts Tryz.infoByte
  have hconv := fun (w2 : World) => run_convert_bytes_arg (P := Tryz.prog) w2 86 5 Tryz.underlying86 Tryz.underlying5 w.heap.size 0 0 0 [] rfl (fun i hi => absurd hi (Nat.not_lt_zero _)) 31 Tryz.underlying31
  have HB : Hid (N (strOfNums []) = 0) := rfl
  go_enter Tryz.func91, Tryz.ntmps91
  go_wp2_with (first
    | (go_at_call 107; refine (shorten_nil _).mono ?_; rintro e w1 ⟨rfl, hw1⟩; subst hw1)
    | (at_make; refine wpList_make_full _ rfl _ _ 86 rfl w1.heap.size 5 i0 (.int .u8 0) 1 Tryz.underlying86 hi hz0 hz1 .i64 .i64 _ _ 0 rfl rfl rfl rfl (by omega) (by unfold maxLen; omega) (Nat.le_refl _) ?_; intro w2 hown2 hgrow2))
  refine wp_loop_rounds 1 ?_
  rw [rounds_succ]
  go_wp2_with (go_at_call 106; refine (bare_any _ _).mono ?_; rintro e w3 ⟨rfl, hw1⟩; subst hw1)
  go_ret
  exact ⟨by rw [HB.out]; rfl, (Below.refl _ w1).grown hgrow2 (Nat.le_refl _) (fun k e => by cases e)⟩
theorem gather_own (base : Nat) (v : Value) (l : List Nat) (w : World) (hs : Small l) (hlen : l.length ≤ 35184372088832) (h : Has w base v l) :
    Calls Tryz.prog 91 #[v] w fun e w' => e = .returned (.string (B (nw l))) ∧ Below w.heap.size w w' := by
  rcases h.cases with ⟨rfl, rfl⟩ | ⟨g, cap, rfl, hcap, hb, hl⟩
  · rw [nw_nil]; exact gather_nil w
  · exact gather_some g cap l w hs hcap hlen hl.lt (fun j hj => hl.cell j hj)
end Go.Proofs.YtbejijgelljeaaaGreatDoor

/- divideByGroup and groupsOf of package nat. -/
namespace Go.Proofs.YtbejijgelljeaaaGreatDoor
open Go.RowKit
theorem or_u64 (r x : Nat) (hr : r < 4294967296) (hx : x < 4294967296) : bits .or .u64 ((r : Int) * 4294967296) (x : Int) = ((r * 4294967296 + x : Nat) : Int) := by
  have e1 : (r : Int) * 4294967296 = ((r * 4294967296 : Nat) : Int) := by omega
  rw [e1, u64_or_nat _ _ (by omega) (by omega), nat_join 32 _ _ (by omega) (by omega)]
end Go.Proofs.YtbejijgelljeaaaGreatDoor

/- Plain facts on groups of nine digits. -/
namespace Go.Proofs.YtbejijgelljeaaaGreatDoor
/-- 10^9. -/
def G : Nat := 1000000000
end Go.Proofs.YtbejijgelljeaaaGreatDoor

/- groupsOf of package nat: the groups of nine digits of the number that the slice holds; the slice is used up. -/
namespace Go.Proofs.YtbejijgelljeaaaGreatDoor
open Go.RowKit
theorem hide {p : Prop} (h : p) : Hid p := h
theorem Has.upd {w w' : World} {base g n cap m : Nat} {l l' : List Nat} (h : Has w base (.slice (some ⟨g, 0, none⟩) n cap) l) (hu : Upd g 0 m w w') (hl : Lies w' g 0 l') (hlen : l'.length = l.length) : Has w' base (.slice (some ⟨g, 0, none⟩) n cap) l' := by
  have hn : n = l.length := by
    rcases h.2 with ⟨h', _⟩ | ⟨g', cap', cur, h', _⟩
    · cases h'
    · cases h'; rfl
  subst hn
  have := own_upd h hu hl hlen
  rw [Has, hlen]; exact this
end Go.Proofs.YtbejijgelljeaaaGreatDoor

/- Plain facts on reading digits. -/
namespace Go.Proofs.YtbejijgelljeaaaGreatDoor
theorem drop_set_append (q l : List Nat) (k y : Nat) (hq : q.length = k) (hk : k < l.length) : (q ++ l.drop k).set k y = q ++ [y] ++ l.drop (k + 1) := by
  rw [List.set_append_right _ _ (by omega), hq, Nat.sub_self, List.drop_eq_getElem_cons hk, List.set_cons_zero, List.append_assoc]
  rfl
end Go.Proofs.YtbejijgelljeaaaGreatDoor

/- Plain facts on reckoning part by part with a carry. -/
namespace Go.Proofs.YtbejijgelljeaaaGreatDoor
/-- The number of the first k parts of a row of any numbers. -/
def nwF (f : Nat → Nat) : Nat → Nat
  | 0 => 0
  | k + 1 => nwF f k + W ^ k * f k
theorem nwF_add (f g : Nat → Nat) (k : Nat) : nwF (fun j => f j + g j) k = nwF f k + nwF g k := by
  induction k with
  | zero => rfl
  | succ k ih => simp only [nwF, ih, Nat.mul_add]; omega
theorem nwF_mul (c : Nat) (f : Nat → Nat) (k : Nat) : nwF (fun j => c * f j) k = c * nwF f k := by
  induction k with
  | zero => rfl
  | succ k ih => simp only [nwF, ih, Nat.mul_add]; congr 1; rw [← Nat.mul_assoc, Nat.mul_comm (W ^ k) c, Nat.mul_assoc]
theorem nwF_take (l : List Nat) (k : Nat) : nwF (fun j => l[j]?.getD 0) k = nw (l.take k) := by
  induction k with
  | zero => simp [nwF, nw_nil]
  | succ k ih =>
    rw [nwF, ih]
    by_cases h : k < l.length
    · rw [nw_take_succ l k h, List.getElem?_eq_getElem h]; rfl
    · rw [List.getElem?_eq_none (by omega), List.take_of_length_le (by omega : l.length ≤ k), List.take_of_length_le (by omega : l.length ≤ k + 1)]; simp
theorem nwF_list (l : List Nat) (k : Nat) (h : l.length ≤ k) : nwF (fun j => l[j]?.getD 0) k = nw l := by rw [nwF_take, List.take_of_length_le h]
theorem nwF_congr {f g : Nat → Nat} {k : Nat} (h : ∀ j, j < k → f j = g j) : nwF f k = nwF g k := by
  induction k with
  | zero => rfl
  | succ k ih => rw [nwF, nwF, ih (fun j hj => h j (by omega)), h k (by omega)]
/-- A row of numbers brought to parts: the parts, and what is carried on. -/
def acc (f : Nat → Nat) : Nat → List Nat × Nat
  | 0 => ([], 0)
  | k + 1 => ((acc f k).1 ++ [((acc f k).2 + f k) % W], ((acc f k).2 + f k) / W)
theorem acc_length (f : Nat → Nat) (k : Nat) : (acc f k).1.length = k := by
  induction k with
  | zero => rfl
  | succ k ih => simp [acc, ih]
theorem acc_small (f : Nat → Nat) (k : Nat) : Small (acc f k).1 := by
  induction k with
  | zero => intro x hx; simp [acc] at hx
  | succ k ih =>
    intro x hx
    rw [acc] at hx
    rcases List.mem_append.1 hx with hx | hx
    · exact ih x hx
    · simp at hx; subst hx; exact Nat.mod_lt _ W_pos
theorem acc_eq (f : Nat → Nat) (k : Nat) : nw (acc f k).1 + W ^ k * (acc f k).2 = nwF f k := by
  induction k with
  | zero => simp [acc, nwF, nw_nil]
  | succ k ih =>
    rw [acc, nwF, nw_snoc, acc_length, ← ih, Nat.pow_succ, Nat.mul_assoc]
    have e := Nat.mod_add_div ((acc f k).2 + f k) W
    have : W ^ k * (((acc f k).2 + f k) % W) + W ^ k * (W * (((acc f k).2 + f k) / W)) = W ^ k * (acc f k).2 + W ^ k * f k := by
      rw [← Nat.mul_add, e, Nat.mul_add]
    show nw (acc f k).1 + W ^ k * (((acc f k).2 + f k) % W) + W ^ k * (W * (((acc f k).2 + f k) / W)) = _
    omega
theorem acc_carry (f : Nat → Nat) (b : Nat) (k : Nat) (h : ∀ j, j < k → f j + b < (b + 1) * W) : (acc f k).2 ≤ b := by
  induction k with
  | zero => exact Nat.zero_le _
  | succ k ih =>
    have h1 := ih (fun j hj => h j (by omega))
    have h2 := h k (by omega)
    rw [acc]
    have : ((acc f k).2 + f k) / W < b + 1 := Nat.div_lt_of_lt_mul (by rw [Nat.mul_comm]; omega)
    omega
theorem seg_set (a q l : List Nat) (i k y : Nat) (ha : a.length = i) (hq : q.length = k) (hk : i + k < l.length) : (a ++ q ++ l.drop (i + k)).set (i + k) y = a ++ (q ++ [y]) ++ l.drop (i + (k + 1)) := by
  rw [List.set_append_right _ _ (by rw [List.length_append]; omega), List.length_append, ha, hq, Nat.sub_self, List.drop_eq_getElem_cons hk, List.set_cons_zero]
  simp [List.append_assoc, Nat.add_assoc]
theorem seg_get (a q l : List Nat) (i k : Nat) (ha : a.length = i) (hq : q.length = k) : (a ++ q ++ l.drop (i + k))[i + k]?.getD 0 = l[i + k]?.getD 0 := by
  rw [List.getElem?_append_right (by rw [List.length_append]; omega), List.length_append, ha, hq, Nat.sub_self, List.getElem?_drop, Nat.add_zero]
theorem getD_lt {l : List Nat} (h : Small l) (j : Nat) : l[j]?.getD 0 < W := by
  by_cases hj : j < l.length
  · rw [List.getElem?_eq_getElem hj]; exact h _ (List.getElem_mem hj)
  · rw [List.getElem?_eq_none (by omega)]; exact W_pos
theorem small_append {a b : List Nat} (ha : Small a) (hb : Small b) : Small (a ++ b) := fun x hx => (List.mem_append.1 hx).elim (ha x) (hb x)
theorem small_drop {l : List Nat} (h : Small l) (k : Nat) : Small (l.drop k) := fun x hx => h x (List.mem_of_mem_drop hx)
/-- A number's parts cut in two. -/
theorem nw_cut (l : List Nat) (k : Nat) : nw l = nw (l.take k) + W ^ (min k l.length) * nw (l.drop k) := by
  have := nw_append (l.take k) (l.drop k)
  rwa [List.take_append_drop, List.length_take] at this
theorem nw_cut_le (l : List Nat) (k : Nat) (h : k ≤ l.length) : nw l = nw (l.take k) + W ^ k * nw (l.drop k) := by
  have := nw_cut l k
  rwa [Nat.min_eq_left h] at this
theorem nw_zeros (n : Nat) : nw (List.replicate n 0) = 0 := by
  induction n with
  | zero => rfl
  | succ n ih => rw [List.replicate_succ, nw_cons, ih]; simp
theorem small_zeros (n : Nat) : Small (List.replicate n 0) := fun x hx => by rw [(List.mem_replicate.1 hx).2]; exact W_pos
end Go.Proofs.YtbejijgelljeaaaGreatDoor

/- putBack of package nat: the sum, in the place of its first argument; does it run over its end? -/
namespace Go.Proofs.YtbejijgelljeaaaGreatDoor
open Go.RowKit
/-- What stands at place j of a sum that is not yet brought to parts. -/
def sumF (xs ys : List Nat) (j : Nat) : Nat := xs[j]?.getD 0 + ys[j]?.getD 0
theorem sumF_nw (xs ys : List Nat) (k : Nat) : nwF (sumF xs ys) k = nw (xs.take k) + nw (ys.take k) := by
  rw [show sumF xs ys = fun j => (fun j => xs[j]?.getD 0) j + (fun j => ys[j]?.getD 0) j from rfl, nwF_add, nwF_take, nwF_take]
theorem sumF_carry (xs ys : List Nat) (hx : Small xs) (hy : Small ys) (k : Nat) : (acc (sumF xs ys) k).2 ≤ 1 := by
  refine acc_carry _ 1 k fun j _ => ?_
  have h1 := getD_lt hx j
  have h2 := getD_lt hy j
  unfold sumF
  omega
set_option maxRecDepth 100000 in
set_option maxHeartbeats 4000000 in
theorem putBack_any (g off cap b offy capy : Nat) (xs ys : List Nat) (w : World) (hsx : Small xs) (hsy : Small ys) (hlen : xs.length ≤ 35184372088832) (hyx : ys.length ≤ xs.length) (hx : Lies w g off xs) (hy : Lies w b offy ys) (hgb : b ≠ g) :
    Calls Tryz.prog 108 #[.slice (some ⟨g, off, none⟩) xs.length cap, .slice (some ⟨b, offy, none⟩) ys.length capy] w fun e w' => ∃ (c : Bool) (l' : List Nat), e = .returned (.bool c) ∧ l'.length = xs.length ∧ Small l' ∧ nw l' + (if c then W ^ xs.length else 0) = nw xs + nw ys ∧ Lies w' g off l' ∧ Upd g off xs.length w w' := by
  go_enter Tryz.func108, Tryz.ntmps108
  go_wp2
  go_loopw [5, 9] (fun c i wr => ∃ k : Nat, k ≤ xs.length ∧ i = .int .i64 k ∧ c = .int .u64 ((acc (sumF xs ys) k).2 : Nat) ∧ Lies wr g off ((acc (sumF xs ys) k).1 ++ xs.drop k) ∧ Upd g off xs.length w wr)
    (fun _ i _ => xs.length - (intOf i).toNat)
  case atStart => exact ⟨0, Nat.zero_le _, rfl, rfl, by simpa [acc] using hx, Upd.refl _ _ _ _⟩
  case round =>
    obtain ⟨k, hk, rfl, rfl, hlr, hur⟩ := hrel
    have hcy := sumF_carry xs ys hsx hsy k
    have hql := acc_length (sumF xs ys) k
    have hqs := acc_small (sumF xs ys) k
    have HQ := hide (acc_eq (sumF xs ys) k)
    by_cases hlt : k < xs.length
    · have hlen2 : k < ((acc (sumF xs ys) k).1 ++ xs.drop k).length := by rw [List.length_append, hql, List.length_drop]; omega
      have hcell := hlr.cell k hlen2
      have hfz := hlr.frozen (off + k)
      have hset := fun y => hlr.set k hlen2 y
      simp only [drop_set_append _ xs k _ hql hlt] at hset
      have hgm : ((acc (sumF xs ys) k).1 ++ xs.drop k)[k]?.getD 0 = xs[k]?.getD 0 := by
        rw [List.getElem?_append_right (by omega), hql, Nat.sub_self, List.getElem?_drop, Nat.add_zero]
      rw [hgm] at hcell
      have HG : Hid (acc (sumF xs ys) (k + 1) = ((acc (sumF xs ys) k).1 ++ [((acc (sumF xs ys) k).2 + sumF xs ys k) % W], ((acc (sumF xs ys) k).2 + sumF xs ys k) / W)) := rfl
      have hxk := getD_lt hsx k
      have hyk := getD_lt hsy k
      rw [W_eq] at hxk hyk
      by_cases hky : k < ys.length
      · have hcy2 := (hy.apart hur hgb).cell k hky
        have HF : Hid (sumF xs ys k = xs[k]?.getD 0 + ys[k]?.getD 0) := rfl
        generalize (acc (sumF xs ys) k).2 = c at *
        generalize (acc (sumF xs ys) k).1 = q at *
        generalize sumF xs ys k = s at *
        generalize xs[k]?.getD 0 = x at *
        generalize ys[k]?.getD 0 = y at *
        have HSET := hide hset
        clear hset hgm hlen2 hlr HQ
        go_wp2
        have hv : Value.int .u32 (((c : Int) + (x : Int) + (y : Int)) % 4294967296) = .int .u32 (((c + s) % W : Nat) : Int) := int_eq (by rw [W_eq, HF.out]; omega)
        have hv2 : Value.int .u64 (((c : Int) + (x : Int) + (y : Int)) / 4294967296) = .int .u64 (((c + s) / W : Nat) : Int) := int_eq (by rw [W_eq, HF.out]; omega)
        rw [hv, hv2]
        have hq := HSET.out ((c + s) % W)
        go_roundw
        case rel => exact ⟨k + 1, by omega, by go_num, by rw [HG.out], by rw [HG.out]; exact hq, hur.trans (Upd.setCell (Nat.le_add_right _ _) (by omega) _)⟩
        case measure => simp [intOf]; omega
      · have hyk0 : ys[k]?.getD 0 = 0 := by rw [List.getElem?_eq_none (by omega)]; rfl
        by_cases hc0 : (acc (sumF xs ys) k).2 = 0
        · have HE : Hid (nw ((acc (sumF xs ys) k).1 ++ xs.drop k) = nw xs + nw ys) := by
            show _ = _
            have e := HQ.out
            rw [hc0, Nat.mul_zero, Nat.add_zero, sumF_nw, List.take_of_length_le (show ys.length ≤ k by omega)] at e
            rw [nw_append, hql, e, nw_cut_le xs k hk]; omega
          have hsm := small_append hqs (small_drop hsx k)
          have hll : ((acc (sumF xs ys) k).1 ++ xs.drop k).length = xs.length := by rw [List.length_append, hql, List.length_drop]; omega
          rw [hc0]
          generalize (acc (sumF xs ys) k).1 ++ xs.drop k = q at *
          clear hset hcell hfz HG hgm hlen2 HQ
          go_wp2
          go_ret
          exact ⟨false, q, rfl, hll, hsm, by rw [HE.out]; rfl, hlr, hur⟩
        · have HF : Hid (sumF xs ys k = xs[k]?.getD 0) := by show _ = _; rw [sumF, hyk0, Nat.add_zero]
          have hcb : (((acc (sumF xs ys) k).2 : Int) == 0) = false := by rw [beq_eq_false_iff_ne]; omega
          generalize (acc (sumF xs ys) k).2 = c at *
          generalize (acc (sumF xs ys) k).1 = q at *
          generalize sumF xs ys k = s at *
          generalize xs[k]?.getD 0 = x at *
          have HSET := hide hset
          clear hset hgm hlen2 hlr HQ hyk0 hc0
          go_wp2
          have hv : Value.int .u32 (((c : Int) + (x : Int)) % 4294967296) = .int .u32 (((c + s) % W : Nat) : Int) := int_eq (by rw [W_eq, HF.out]; omega)
          have hv2 : Value.int .u64 (((c : Int) + (x : Int)) / 4294967296) = .int .u64 (((c + s) / W : Nat) : Int) := int_eq (by rw [W_eq, HF.out]; omega)
          rw [hv, hv2]
          have hq := HSET.out ((c + s) % W)
          go_roundw
          case rel => exact ⟨k + 1, by omega, by go_num, by rw [HG.out], by rw [HG.out]; exact hq, hur.trans (Upd.setCell (Nat.le_add_right _ _) (by omega) _)⟩
          case measure => simp [intOf]; omega
    · obtain rfl : k = xs.length := by omega
      rw [List.drop_length, List.append_nil] at hlr
      have HE : Hid (nw (acc (sumF xs ys) xs.length).1 + W ^ xs.length * (acc (sumF xs ys) xs.length).2 = nw xs + nw ys) := by
        show _ = _
        rw [HQ.out, sumF_nw, List.take_length, List.take_of_length_le hyx]
      generalize (acc (sumF xs ys) xs.length).1 = q at *
      generalize (acc (sumF xs ys) xs.length).2 = c at *
      clear HQ
      rcases (show c = 0 ∨ c = 1 by omega) with rfl | rfl
      · go_wp2
        go_ret
        exact ⟨false, q, rfl, hql, hqs, by have := HE.out; simpa using this, hlr, hur⟩
      · go_wp2
        go_ret
        exact ⟨true, q, rfl, hql, hqs, by have := HE.out; simpa using this, hlr, hur⟩
end Go.Proofs.YtbejijgelljeaaaGreatDoor

/- spread of package nat once more: besides, the slice is not nil. -/
namespace Go.Proofs.YtbejijgelljeaaaGreatDoor
open Go.RowKit Go.Shelf
attribute [local go_sem] Oper.semAt_some
set_option maxRecDepth 100000 in
set_option maxHeartbeats 2000000 in
theorem spread_some (s : ByteArray) (w : World) (hs : s.size ≤ 140737488355328) :
    Calls Tryz.prog 93 #[.string s] w fun e w' => ∃ g cap, e = .returned (.slice (some ⟨g, 0, none⟩) (words (N s)).length cap) ∧ Has w' w.heap.size (.slice (some ⟨g, 0, none⟩) (words (N s)).length cap) (words (N s)) ∧ Below w.heap.size w w' := by
  refine (callsIn_wide (n := 6)).1 ?_
  have hbs : (B (N s)).size ≤ 140737488355328 := Nat.le_trans (B_size_le s) hs
  have hup := upto_words (N s)
  have hN := N_B (N s)
  generalize hm : N s = m at *
  obtain ⟨i0, hi, hz0, hz1, hz2⟩ := info_parts Tryz.infoU32
  refine callsIn_of_wp_marks Tryz.func93 rfl trivial ?_ rfl
  simp only [Tryz.ntmps93, List.size_toArray, List.length_cons, List.length_nil, Nat.reduceAdd, Nat.reduceSub, Array.replicate_succ, Array.replicate_zero, List.push_toArray, List.append_toArray, List.nil_append, List.cons_append]
  have HM : Hid (N s = m) := hm
  have HN : Hid (N (B m) = m) := hN
  have HU : Hid (upto m (((B m).size + 3) / 4) = words m) := hup
  clear hm hN hup
  gi_wp2_with (first
    | (refine ⟨trivial, ?_⟩; gi_at_call 106; refine (callsIn_wide.2 (bare_any _ _)).mono ?_; rintro e w' ⟨rfl, rfl⟩; rw [HM.out])
    | (refine ⟨trivial, ?_⟩; gi_at_call 109; refine (callsIn_wide.2 (countParts_any _ _ hbs)).mono ?_; rintro e w' ⟨rfl, rfl⟩)
    | (gi_at_make; refine wpListIn_make_own _ rfl _ _ 113 rfl w'.heap.size 127 i0 (.int .u32 0) 1 Tryz.underlying113 hi hz0 hz1 .i64 .i64 _ (((B m).size + 3) / 4) rfl rfl (by omega) (by rw [hz2]; omega) (by unfold maxLen; omega) (Nat.le_refl _) ?_; intro w1 hown1 hgrow1)
    | (refine ⟨trivial, ?_⟩; gi_at_call 110; refine (fromEnd_in _ _ _).mono ?_; rintro e w2 ⟨rfl, rfl⟩))
  have hsz1 := hgrow1.size
  have hB1 : Below w'.heap.size w' w1 := (Below.refl _ w').grown hgrow1 (Nat.le_refl _) (fun k e => by cases e)
  have bO := Boxed.new w1 113 (.slice (some ⟨w'.heap.size, 0, none⟩) 0 (((B m).size + 3) / 4))
  have bN := Boxed.new (w1.alloc (.cells #[.slice (some ⟨w'.heap.size, 0, none⟩) 0 (((B m).size + 3) / 4)] 113)) 31 (.string (B m))
  rw [World.size_alloc] at bN
  have hB0 : Below w'.heap.size w' ((w1.alloc (.cells #[.slice (some ⟨w'.heap.size, 0, none⟩) 0 (((B m).size + 3) / 4)] 113)).alloc (.cells #[.string (B m)] 31)) := (hB1.alloc hsz1 _).alloc (by simp; omega) _
  refine wpIn_rangeFunc_ownG (α := Nat) rfl (by omega) (gf := 122) (lb := #[.pointer (some ⟨w1.heap.size + 1, 0, none⟩)]) rfl trivial (enters_of Tryz.func122 (by kernel_rfl) rfl)
    (fromEnd_stops 5 (by omega) (w1.heap.size + 1) (B m) hbs _ (by simp) bN.cell) KeepsBox.t (KeepsBox.b (by simp)) (Below.refl _ _) (fun _ => rfl)
    (fun (pre : List Nat) V => ((∃ v, Boxed V w1.heap.size 113 v ∧ V.ownsRow w'.heap.size 127 1 v pre.length (pre.map u32) ∧ v ≠ .slice none 0 0) ∧ Below w'.heap.size w' V) ∧ Boxed V (w1.heap.size + 1) 31 (.string (B m)))
    (fun _ _ _ => False)
    (OwnFrom.and (OwnFrom.and (Own.from (holdsRow_own w'.heap.size w1.heap.size 113 127 1 (fun pre : List Nat => pre.length) (fun pre => pre.map u32) (fun _ v => v ≠ .slice none 0 0)) _) (ownFrom_below (Nat.le_refl _) (by simp; omega))) (Own.from (boxed_own _ _ (fun _ => .string (B m))) _))
    (fun _ _ _ _ _ hs _ _ => hs)
    ⟨⟨⟨_, bO.alloc _, (hown1.alloc _).alloc _, by simp⟩, hB0⟩, bN⟩
    (fun x => { tmps := #[.string (B m), undef, .slice none 0 0, .pointer (some ⟨w1.heap.size, 0, none⟩), .int .u32 (x : Nat), .string s, .string (B m), .string (B m), .int .i64 (((B m).size + 3) / 4), .slice (some ⟨w'.heap.size, 0, none⟩) 0 (((B m).size + 3) / 4), .string (B m), .func (.func 122) #[] #[.pointer (some ⟨w1.heap.size + 1, 0, none⟩)], .int .u32 (x : Nat), undef, undef, undef, undef, undef], defers := [] }) ?assign ?body ?done ?stop
  case assign =>
    intro l x V K hK
    gi_wp2
    exact hK
  case body =>
    rintro l pre x V ⟨⟨⟨v, hv, hrow, _⟩, hB⟩, hb⟩ hlt
    have hc := hv.cell
    gi_wp2_with (gi_at_builtin; refine wpListIn_append_own _ rfl _ _ 113 rfl w'.heap.size 127 i0 (.int .u32 0) 1 4 Tryz.underlying113 hi hz0 hz1 hz2 rfl (by decide) _ _ _ rfl (hrow.alloc _) ⟨V.heap.size, 0, none⟩ 1 1 [.int .u32 (x : Nat)] rfl rfl (cell_one_new _ _ _) (by simp [Value.oneCell']) (by unfold maxLen; omega) (by omega) (by have := hB.size; simp; omega) ?_; intro v' w3 hown' hgrow _; obtain ⟨g', cap', rfl⟩ := ownsRow_succ hown'; obtain ⟨hv1, hv2, hr2, hk2, hb2⟩ := hv.appended (by decide) hrow hB.size hsz1 hown' hgrow; have hb3 := (hb.alloc _).kept hgrow (hb.not_row (by decide) hrow); have hc1 := hv1.cell; have hf1 := hv1.frozen)
    have hb4 := hb3.other (B' := w1.heap.size) (by omega) (.slice (some ⟨g', 0, none⟩) (pre.length + 1) cap')
    exact ⟨hk2.from _, hb4.cell.trans hb.cell.symm, ⟨⟨_, hv2, by simpa [u32] using hr2, by simp⟩, hB.trans hb2⟩, hb4⟩
  case done =>
    rintro D ys V hD rfl ⟨⟨⟨v, hv, hrow, hnn⟩, hB⟩, hb⟩ hK
    have hc := hv.cell
    rw [HN.out, HU.out] at hrow
    gi_wp2
    refine ⟨by simp, .inl ⟨_, _, rfl, run_takeDeferred hK, ?_⟩⟩
    obtain ⟨g, cap, rfl⟩ : ∃ g cap, v = .slice (some ⟨g, 0, none⟩) (words m).length cap := by
      rcases hrow.2 with ⟨e, _⟩ | ⟨g, cap, _, e, _⟩
      · exact absurd e hnn
      · exact ⟨g, cap, e⟩
    refine ⟨_, results_tmp rfl _ _ _, g, cap, rfl, ?_, hB.trans (belowK_b (w := w') (Nat.le_refl _) V D _ _ (by simp at hD; omega) hK rfl rfl)⟩
    exact ownsRow_putObj hrow _ hK rfl
  case stop =>
    rintro D c pre V _ _ h _
    exact h.elim
end Go.Proofs.YtbejijgelljeaaaGreatDoor

/- plus of package nat, and nat.Add. -/
namespace Go.Proofs.YtbejijgelljeaaaGreatDoor
open Go.RowKit
theorem made_u32 (n : Nat) : (madeCells (Value.int .u32 0).cells (n * 1)).toList = (List.replicate n 0).map u32 := by
  rw [show (Value.int .u32 0).cells = #[Value.int .u32 0] from rfl, toList_madeCells_one, Nat.mul_one, List.map_replicate]; rfl
theorem lies_of_block {w : World} {g : Nat} {l : List Nat} (h : w.heap[g]? = some (.cells (l.map u32).toArray 127 (0, 0))) : Lies w g 0 l :=
  ⟨_, h, by simp, fun j hj => by simp [List.getElem?_eq_getElem hj]⟩
theorem splice_front (l : List Nat) : splice ((List.replicate (l.length + 1) 0).map u32) 0 (l.map u32) = (l ++ [0]).map u32 := by
  rw [splice_map, splice, List.take_zero, List.nil_append, Nat.zero_add, List.drop_replicate]; simp
theorem cells_of_lies {w : World} {g : Nat} {l : List Nat} (h : Lies w g 0 l) : ∀ j v, (l.map u32)[j]? = some v → w.cell? ((⟨g, 0, none⟩ : Addr).add j) = some v := by
  intro j v hj
  have hjl : j < l.length := by
    rcases Nat.lt_or_ge j l.length with h | h
    · exact h
    · rw [List.getElem?_eq_none (by simpa using h)] at hj; cases hj
  rw [Lib.add_plain, h.cell j hjl]
  rw [List.getElem?_map, List.getElem?_eq_getElem hjl] at hj
  rw [List.getElem?_eq_getElem hjl]
  exact hj
theorem ones_u32 (l : List Nat) : ∀ v ∈ l.map u32, v.oneCell' = true := by
  intro v hv
  obtain ⟨x, _, rfl⟩ := List.mem_map.1 hv
  rfl
theorem sum_fits {xs ys : List Nat} (hx : Small xs) (hy : Small ys) (h : ys.length ≤ xs.length) : nw xs + nw ys < W ^ (xs.length + 1) := by
  have h1 := nw_lt xs hx
  have h2 := nw_lt ys hy
  have h3 : W ^ ys.length ≤ W ^ xs.length := Nat.pow_le_pow_right W_pos h
  have h4 : W ^ (xs.length + 1) = W ^ xs.length * W := Nat.pow_succ ..
  have h5 : W ^ xs.length * 2 ≤ W ^ xs.length * W := Nat.mul_le_mul_left _ (by decide)
  omega
set_option maxRecDepth 100000 in
set_option maxHeartbeats 2000000 in
theorem plus_ge (gx capx gy capy : Nat) (xs ys : List Nat) (w : World) (hsx : Small xs) (hsy : Small ys) (hlen : xs.length ≤ 17592186044416) (hyx : ys.length ≤ xs.length) (hx : Lies w gx 0 xs) (hy : Lies w gy 0 ys) :
    Calls Tryz.prog 92 #[.slice (some ⟨gx, 0, none⟩) xs.length capx, .slice (some ⟨gy, 0, none⟩) ys.length capy] w fun e w' => ∃ v l, e = .returned v ∧ Has w' w.heap.size v l ∧ Small l ∧ l.length = xs.length + 1 ∧ nw l = nw xs + nw ys ∧ Below w.heap.size w w' := by
  obtain ⟨i0, hi, hz0, hz1, hz2⟩ := info_parts Tryz.infoU32
  have hnl : ¬ xs.length < ys.length := by omega
  have hgx := hx.lt
  have hgy := hy.lt
  go_enter Tryz.func92, Tryz.ntmps92
  go_wp2_with (first
    | (at_make; refine wpList_make_full _ rfl _ _ 113 rfl w.heap.size 127 i0 (.int .u32 0) 1 Tryz.underlying113 hi hz0 hz1 .i64 .i64 _ _ (xs.length + 1) rfl rfl (by omega) (by omega) (by rw [hz2]; omega) (by unfold maxLen; omega) (Nat.le_refl _) ?_; intro w2 hown2 hgrow2; have hb2 := block_of_own hown2; rw [made_u32] at hb2; have HB2 := hide hb2; have hB2 : Below w.heap.size w w2 := (Below.refl _ w).grown hgrow2 (Nat.le_refl _) (fun k e => by cases e); have hx2 := hx.below hB2 hgx; clear hown2 hgrow2 hb2)
    | (refine wpList_copy_splice rfl (.tmp 17) (.tmp 18) 113 113 rfl 127 Tryz.underlying113 (by kernel_rfl) _ _ _ _ _ _ rfl rfl w.heap.size 0 ((List.replicate (xs.length + 1) 0).map u32) 127 (by exact HB2.out) (xs.map u32) (by rw [List.length_map]; exact (Nat.min_eq_left (Nat.le_succ _)).symm) (fun _ => ⟨rfl, _, rfl, cells_of_lies hx2⟩) (by simp) (ones_u32 xs) w.heap.size w hB2 (Nat.le_refl _) ?_; intro w3 hg3 hB3))
  rw [splice_front] at hg3
  have hl3 := lies_of_block hg3.out
  have hy3 := hy.below hB3 hgy
  have e1 : (xs ++ [0]).length = xs.length + 1 := by simp
  have hs1 : Small (xs ++ [0]) := small_append hsx (fun x hx => by simp at hx; subst hx; exact W_pos)
  have hpb := putBack_any w.heap.size 0 (xs.length + 1) gy 0 capy (xs ++ [0]) ys w3 hs1 hsy (by omega) (by omega) hl3 hy3 (by omega)
  rw [e1, nw_snoc, Nat.mul_zero, Nat.add_zero] at hpb
  refine hpb.mono ?_
  rintro e w4 ⟨c, l4, rfl, hl4, hs4, hn4, hlies4, hu4⟩
  have hB4 : Below w.heap.size w w4 := Upd.below hB3 hu4 (Nat.le_refl _) hB3.size
  obtain ⟨cur, hc4, hcs, _⟩ := hu4.inside _ hg3.out
  have hown4 := own_of_lies (base := w.heap.size) (cap := xs.length + 1) cur hc4 (by rw [hcs]; simp) (Nat.le_refl _) (by unfold maxLen; omega) (by omega) hlies4
  have HN : Hid (nw l4 = nw xs + nw ys) := by
    show _ = _
    cases c with
    | false => simpa using hn4
    | true =>
      have hf := sum_fits hsx hsy hyx
      simp only [if_true] at hn4
      omega
  have HL := hide hl4
  rw [hl4] at hown4
  clear hn4 hl4 hc4 hcs hpb hg3 hlies4 hu4
  go_wp2
  go_ret
  exact ⟨_, l4, rfl, by rw [Has, HL.out]; exact hown4, hs4, HL.out, HN.out, hB4⟩
set_option maxRecDepth 100000 in
set_option maxHeartbeats 2000000 in
theorem plus_lt (gx capx gy capy : Nat) (xs ys : List Nat) (w : World) (hsx : Small xs) (hsy : Small ys) (hlen : xs.length ≤ 17592186044416) (hlt : ys.length < xs.length) (hx : Lies w gx 0 xs) (hy : Lies w gy 0 ys) :
    Calls Tryz.prog 92 #[.slice (some ⟨gy, 0, none⟩) ys.length capy, .slice (some ⟨gx, 0, none⟩) xs.length capx] w fun e w' => ∃ v l, e = .returned v ∧ Has w' w.heap.size v l ∧ Small l ∧ l.length = xs.length + 1 ∧ nw l = nw xs + nw ys ∧ Below w.heap.size w w' := by
  obtain ⟨i0, hi, hz0, hz1, hz2⟩ := info_parts Tryz.infoU32
  have hyx : ys.length ≤ xs.length := by omega
  have hgx := hx.lt
  have hgy := hy.lt
  go_enter Tryz.func92, Tryz.ntmps92
  go_wp2_with (first
    | (at_make; refine wpList_make_full _ rfl _ _ 113 rfl w.heap.size 127 i0 (.int .u32 0) 1 Tryz.underlying113 hi hz0 hz1 .i64 .i64 _ _ (xs.length + 1) rfl rfl (by omega) (by omega) (by rw [hz2]; omega) (by unfold maxLen; omega) (Nat.le_refl _) ?_; intro w2 hown2 hgrow2; have hb2 := block_of_own hown2; rw [made_u32] at hb2; have HB2 := hide hb2; have hB2 : Below w.heap.size w w2 := (Below.refl _ w).grown hgrow2 (Nat.le_refl _) (fun k e => by cases e); have hx2 := hx.below hB2 hgx; clear hown2 hgrow2 hb2)
    | (refine wpList_copy_splice rfl (.tmp 17) (.tmp 18) 113 113 rfl 127 Tryz.underlying113 (by kernel_rfl) _ _ _ _ _ _ rfl rfl w.heap.size 0 ((List.replicate (xs.length + 1) 0).map u32) 127 (by exact HB2.out) (xs.map u32) (by rw [List.length_map]; exact (Nat.min_eq_left (Nat.le_succ _)).symm) (fun _ => ⟨rfl, _, rfl, cells_of_lies hx2⟩) (by simp) (ones_u32 xs) w.heap.size w hB2 (Nat.le_refl _) ?_; intro w3 hg3 hB3))
  rw [splice_front] at hg3
  have hl3 := lies_of_block hg3.out
  have hy3 := hy.below hB3 hgy
  have e1 : (xs ++ [0]).length = xs.length + 1 := by simp
  have hs1 : Small (xs ++ [0]) := small_append hsx (fun x hx => by simp at hx; subst hx; exact W_pos)
  have hpb := putBack_any w.heap.size 0 (xs.length + 1) gy 0 capy (xs ++ [0]) ys w3 hs1 hsy (by omega) (by omega) hl3 hy3 (by omega)
  rw [e1, nw_snoc, Nat.mul_zero, Nat.add_zero] at hpb
  refine hpb.mono ?_
  rintro e w4 ⟨c, l4, rfl, hl4, hs4, hn4, hlies4, hu4⟩
  have hB4 : Below w.heap.size w w4 := Upd.below hB3 hu4 (Nat.le_refl _) hB3.size
  obtain ⟨cur, hc4, hcs, _⟩ := hu4.inside _ hg3.out
  have hown4 := own_of_lies (base := w.heap.size) (cap := xs.length + 1) cur hc4 (by rw [hcs]; simp) (Nat.le_refl _) (by unfold maxLen; omega) (by omega) hlies4
  have HN : Hid (nw l4 = nw xs + nw ys) := by
    show _ = _
    cases c with
    | false => simpa using hn4
    | true =>
      have hf := sum_fits hsx hsy hyx
      simp only [if_true] at hn4
      omega
  have HL := hide hl4
  rw [hl4] at hown4
  clear hn4 hl4 hc4 hcs hpb hg3 hlies4 hu4
  go_wp2
  go_ret
  exact ⟨_, l4, rfl, by rw [Has, HL.out]; exact hown4, hs4, HL.out, HN.out, hB4⟩
theorem plus_any (gx capx gy capy : Nat) (xs ys : List Nat) (w : World) (hsx : Small xs) (hsy : Small ys) (hlx : xs.length ≤ 17592186044416) (hly : ys.length ≤ 17592186044416) (hx : Lies w gx 0 xs) (hy : Lies w gy 0 ys) :
    Calls Tryz.prog 92 #[.slice (some ⟨gx, 0, none⟩) xs.length capx, .slice (some ⟨gy, 0, none⟩) ys.length capy] w fun e w' => ∃ v l, e = .returned v ∧ Has w' w.heap.size v l ∧ Small l ∧ l.length ≤ 17592186044417 ∧ nw l = nw xs + nw ys ∧ Below w.heap.size w w' := by
  by_cases h : ys.length ≤ xs.length
  · refine (plus_ge gx capx gy capy xs ys w hsx hsy hlx h hx hy).mono ?_
    rintro e w' ⟨v, l, rfl, h1, h2, h3, h4, h5⟩
    exact ⟨v, l, rfl, h1, h2, by omega, h4, h5⟩
  · refine (plus_lt gy capy gx capx ys xs w hsy hsx hly (by omega) hy hx).mono ?_
    rintro e w' ⟨v, l, rfl, h1, h2, h3, h4, h5⟩
    exact ⟨v, l, rfl, h1, h2, by omega, by omega, h5⟩
/-- The slice that spread hands back lies on while nothing below its world's end turns. -/
theorem has_lies {w w' : World} {base g cap n : Nat} {l : List Nat} (h : Has w base (.slice (some ⟨g, 0, none⟩) n cap) l) (hb : Below w.heap.size w w') : Lies w' g 0 l := by
  rcases h.cases with ⟨e, _⟩ | ⟨g', cap', e, _, _, hl⟩
  · cases e
  · cases e; exact hl.below hb hl.lt
theorem words_len_le (s : ByteArray) (k : Nat) (h : s.size ≤ 4 * k) : (words (N s)).length ≤ k := by
  rw [words_length, ← B_size]
  have := B_size_le s
  omega
set_option maxRecDepth 100000 in
set_option maxHeartbeats 1000000 in
theorem Add_any (a b : ByteArray) (w : World) (ha : a.size ≤ 1099511627776) (hb : b.size ≤ 1099511627776) :
    Calls Tryz.prog 64 #[.string a, .string b] w fun e w' => e = .returned (.string (B (N a + N b))) ∧ Below w.heap.size w w' := by
  have hla := words_len_le a 274877906944 (by omega)
  have hlb := words_len_le b 274877906944 (by omega)
  go_enter Tryz.func64, Tryz.ntmps64
  go_wp2_with fail
  refine (spread_some a _ (by omega)).mono ?_
  rintro e w1 ⟨g1, c1, rfl, h1, hb1⟩
  go_wp2_with fail
  refine (spread_some b _ (by omega)).mono ?_
  rintro e w2 ⟨g2, c2, rfl, h2, hb2⟩
  have hl1 := has_lies h1 hb2
  have hl2 := has_lies h2 (Below.refl _ _)
  have hB2 : Below w.heap.size w w2 := hb1.trans (hb2.mono hb1.size)
  go_wp2_with fail
  refine (plus_any g1 c1 g2 c2 _ _ _ (words_small _) (words_small _) (by omega) (by omega) hl1 hl2).mono ?_
  rintro e w3 ⟨v, l, rfl, h3, hs3, hn3, hv3, hb3⟩
  have hB3 : Below w.heap.size w w3 := hB2.trans (hb3.mono hB2.size)
  have HV := hide hv3
  clear hv3
  go_wp2_with fail
  refine (gather_own _ _ _ _ hs3 (by omega) h3).mono ?_
  rintro e w4 ⟨rfl, hb4⟩
  go_wp2
  go_ret
  exact ⟨by rw [HV.out, nw_words, nw_words]; rfl, hB3.trans (hb4.mono hB3.size)⟩
end Go.Proofs.YtbejijgelljeaaaGreatDoor

/- allDigits and appendDigit of package nat. -/
namespace Go.Proofs.YtbejijgelljeaaaGreatDoor
open Go.RowKit
theorem toList_data (s : ByteArray) : s.toList = s.data.toList := by
  obtain ⟨⟨l⟩⟩ := s
  simp
theorem ret_bool {a b : Bool} (h : a = b) : Ending.returned (.bool a) = .returned (.bool b) := by rw [h]
end Go.Proofs.YtbejijgelljeaaaGreatDoor
