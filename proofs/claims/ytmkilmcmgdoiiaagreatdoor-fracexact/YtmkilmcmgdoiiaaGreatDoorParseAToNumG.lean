/- allDigits and appendDigit of package nat. -/
import Derived.Test.YtmkilmcmgdoiiaaGreatDoorCore6ToNumF
import Derived.Test.YtmkilmcmgdoiiaaGreatDoorReckAToReckB
namespace Go.Proofs.YtmkilmcmgdoiiaaGreatDoor
open Go.RowKit

theorem toList_data (s : ByteArray) : s.toList = s.data.toList := by
  obtain ⟨⟨l⟩⟩ := s
  simp
theorem allDig_false (s : ByteArray) (k : Nat) (h : k < s.size) (hd : isDig s[k] = false) : allDig s.data.toList = false := by
  have hm : s[k] ∈ s.data.toList := by
    have : s.data.toList[k]'(by simpa using h) = s[k] := rfl
    rw [← this]; exact List.getElem_mem _
  have : s.data.toList.all isDig = false := by
    rw [List.all_eq_false]; exact ⟨_, hm, by simp [hd]⟩
  simp [allDig, this]

theorem ret_bool {a b : Bool} (h : a = b) : Ending.returned (.bool a) = .returned (.bool b) := by rw [h]

set_option maxHeartbeats 1000000 in
theorem allDigits_any (s : ByteArray) (w : World) (hs : s.size ≤ 140737488355328) :
    Calls Tryz.prog 72 #[.string s] w fun e w' => e = .returned (.bool (allDig s.data.toList)) ∧ w' = w := by
  go_enter Tryz.func72, Tryz.ntmps72
  go_wp2
  go_loop [6] (fun i => ∃ k : Nat, k ≤ s.size ∧ i = .int .i64 k ∧ (s.data.toList.take k).all isDig = true) (fun i => s.size - (intOf i).toNat)
  case atStart => exact ⟨0, Nat.zero_le _, rfl, rfl⟩
  case round =>
    obtain ⟨k, hk, rfl, hall⟩ := hrel
    have HA : Hid ((s.data.toList.take k).all isDig = true) := hall
    clear hall
    by_cases hlt : k < s.size
    · by_cases hc : 48 ≤ s[k].toNat ∧ s[k].toNat ≤ 57
      · have HS : Hid ((s.data.toList.take (k + 1)).all isDig = true) := by
          show _ = _
          rw [take_snoc s k hlt, List.all_append, HA.out]
          simp [isDig, hc]
        obtain ⟨hc1, hc2⟩ := hc
        go_wp2
        go_round
        case rel => exact ⟨k + 1, by omega, by go_num, HS.out⟩
        case measure => simp [intOf]; omega
      · have HF : Hid (allDig s.data.toList = false) := allDig_false s k hlt (by simp only [isDig, decide_eq_false_iff_not]; exact hc)
        rcases (show s[k].toNat < 48 ∨ (48 ≤ s[k].toNat ∧ 57 < s[k].toNat) by omega) with h1 | ⟨h1, h2⟩
        · clear hc
          go_wp2
          go_ret
          exact ⟨ret_bool HF.out.symm, rfl⟩
        · clear hc
          go_wp2
          go_ret
          exact ⟨ret_bool HF.out.symm, rfl⟩
    · have HE : Hid (s.data.toList.all isDig = true) := by
        show _ = _
        have := HA.out
        rwa [List.take_of_length_le (by simp; omega)] at this
      go_wp2
      go_ret
      refine ⟨ret_bool ?_, rfl⟩
      rw [allDig, HE.out, Bool.and_true, toList_data]

set_option maxRecDepth 100000 in
set_option maxHeartbeats 2000000 in
theorem appendDigit_some (g cap : Nat) (l : List Nat) (d : Nat) (w : World) (hs : Small l) (hd : d ≤ 9) (hlen : l.length ≤ 8796093022208) (base : Nat) (hb : base ≤ w.heap.size)
    (h : Has w base (.slice (some ⟨g, 0, none⟩) l.length cap) l) :
    Calls Tryz.prog 73 #[.slice (some ⟨g, 0, none⟩) l.length cap, .int .u8 (d : Nat)] w fun e w' => ∃ v' l', e = .returned v' ∧ Has w' base v' l' ∧ Small l' ∧ nw l' = nw l * 10 + d ∧ l'.length ≤ l.length + 1 ∧ Below base w w' := by
  obtain ⟨i0, hi, hz0, hz1, hz2⟩ := info_parts Tryz.infoU32
  have hlg : Lies w g 0 l := (own_lies h).2.2.2
  have hbg : base ≤ g := (own_lies h).2.2.1
  have HH := hide h
  clear h
  go_enter Tryz.func73, Tryz.ntmps73
  go_wp2
  go_loopw [5, 11] (fun c i wr => ∃ k : Nat, k ≤ l.length ∧ i = .int .i64 k ∧ c = .int .u64 ((mad d (l.take k)).2 : Nat) ∧ Lies wr g 0 ((mad d (l.take k)).1 ++ l.drop k) ∧ Upd g 0 l.length w wr)
    (fun _ i _ => l.length - (intOf i).toNat)
  case atStart => exact ⟨0, Nat.zero_le _, rfl, rfl, by simpa [mad] using hlg, Upd.refl _ _ _ _⟩
  case round =>
    obtain ⟨k, hk, rfl, rfl, hlr, hur⟩ := hrel
    by_cases hlt : k < l.length
    · have hcy := mad_carry d (l.take k) hd (small_take hs k)
      have hql : (mad d (l.take k)).1.length = k := by rw [mad_length, List.length_take]; omega
      have hx := hs _ (List.getElem_mem hlt)
      have hlen2 : k < ((mad d (l.take k)).1 ++ l.drop k).length := by rw [List.length_append, hql, List.length_drop]; omega
      have hcell := hlr.cell k hlen2
      have hfz := hlr.frozen (0 + k)
      have hset := fun y => hlr.set k hlen2 y
      simp only [drop_set_append _ l k _ hql hlt] at hset
      have hgm : ((mad d (l.take k)).1 ++ l.drop k)[k]?.getD 0 = l[k] := by
        rw [List.getElem?_append_right (by omega), hql, Nat.sub_self, List.getElem?_drop, Nat.add_zero, List.getElem?_eq_getElem hlt]; rfl
      rw [hgm] at hcell
      rw [Nat.zero_add] at hcell hfz
      have HG : Hid (mad d (l.take (k + 1)) = ((mad d (l.take k)).1 ++ [((mad d (l.take k)).2 + l[k] * 10) % W], ((mad d (l.take k)).2 + l[k] * 10) / W)) := by show _ = _; rw [List.take_succ_eq_append_getElem hlt, mad_snoc]
      rw [W_eq] at hx
      generalize (mad d (l.take k)).2 = c at *
      generalize (mad d (l.take k)).1 = q at *
      generalize l[k] = x at *
      have HSET := hide hset
      clear hset hgm hlen2 hlr
      go_wp2
      have hv : Value.int .u32 (((c : Int) + (x : Int) * 10) % 4294967296) = .int .u32 (((c + x * 10) % W : Nat) : Int) := int_eq (by rw [W_eq]; omega)
      have hv2 : Value.int .u64 (((c : Int) + (x : Int) * 10) / 4294967296) = .int .u64 (((c + x * 10) / W : Nat) : Int) := int_eq (by rw [W_eq]; omega)
      rw [hv, hv2]
      have hq := HSET.out ((c + x * 10) % W)
      rw [Nat.zero_add] at hq
      go_roundw
      case rel => exact ⟨k + 1, by omega, by go_num, by rw [HG.out], by rw [HG.out]; exact hq, hur.trans (Upd.setCell (Nat.zero_le _) (by omega) _)⟩
      case measure => simp [intOf]; omega
    · obtain rfl : k = l.length := by omega
      rw [List.take_length] at hlr ⊢
      rw [List.drop_length, List.append_nil] at hlr
      have hcy := mad_carry d l hd hs
      have HQ := hide (mad_eq d l)
      have hqs := mad_small d l
      have hql := mad_length d l
      have hown := HH.out.upd hur hlr hql
      have hbel : Below base w wr := Upd.below (Below.refl _ _) hur hbg hb
      have hsz := hbel.size
      generalize (mad d l).2 = c at *
      generalize (mad d l).1 = q at *
      have HL := hide hql
      clear hlr hur hql
      by_cases h0 : c = 0
      · subst h0
        go_wp2
        go_ret
        exact ⟨_, q, rfl, hown, hqs, by have := HQ.out; rwa [Nat.mul_zero, Nat.add_zero] at this, by have := HL.out; omega, hbel⟩
      · have hcp : 0 < c := by omega
        have hown2 : wr.ownsRow base 76 1 (.slice (some ⟨g, 0, none⟩) l.length cap) l.length (q.map u32) := by have := hown; rw [Has, HL.out] at this; exact this
        go_wp2_with (at_builtin; refine wpList_append_own _ rfl _ _ 57 rfl base 76 i0 (.int .u32 0) 1 4 Tryz.underlying57 hi hz0 hz1 hz2 rfl (by decide) _ _ _ rfl (hown2.alloc _) ⟨wr.heap.size, 0, none⟩ 1 1 [.int .u32 (c : Nat)] rfl rfl (cell_one_new _ _ _) (by simp [Value.oneCell']) (by unfold maxLen; omega) (by omega) (by simp; omega) ?_; intro v' w2 hown3 hgrow2 _)
        go_wp2
        go_ret
        have hb2 : Below base w w2 := (hbel.alloc (by omega) _).grown hgrow2 (by simp; omega) (fun k hk => by cases hk; exact hbg)
        refine ⟨_, q ++ [c], rfl, ?_, ?_, ?_, ?_, hb2⟩
        · have e : (q ++ [c]).length = l.length + 1 := by rw [List.length_append, HL.out]; rfl
          rw [Has, e]; simpa [u32] using hown3
        · intro y hy
          rcases List.mem_append.1 hy with hy | hy
          · exact hqs y hy
          · simp at hy; subst hy; rw [W_eq]; omega
        · rw [nw_snoc, HL.out]; exact HQ.out
        · rw [List.length_append, HL.out]; exact Nat.le_refl _
end Go.Proofs.YtmkilmcmgdoiiaaGreatDoor

/- cmp.Compare at api.Nat, and nat.Cmp. -/
namespace Go.Proofs.YtmkilmcmgdoiiaaGreatDoor
open Go.RowKit

/-- How two numbers compare. -/
def cmpI (m n : Nat) : Int := if m < n then -1 else if m = n then 0 else 1

theorem less_nb : ∀ (l m : List UInt8), l.length = m.length → Op.bytesLess l m = decide (nb l < nb m)
  | [], [], _ => rfl
  | x :: l, y :: m, h => by
    have hl : l.length = m.length := by simpa using h
    have ih := less_nb l m hl
    have h1 := nb_lt l
    have h2 := nb_lt m
    rw [nb_cons, nb_cons, ← hl]
    rw [← hl] at h2
    rw [Op.bytesLess]
    rcases Nat.lt_trichotomy x.toNat y.toNat with e | e | e
    · have hxy : (decide (x < y)) = true := by simpa [UInt8.lt_iff_toNat_lt] using e
      have : (x.toNat + 1) * 256 ^ l.length ≤ y.toNat * 256 ^ l.length := Nat.mul_le_mul_right _ e
      rw [Nat.add_mul] at this
      rw [hxy, Bool.true_or]
      symm; rw [decide_eq_true_eq]; omega
    · have hxy : x = y := UInt8.toNat_inj.1 e
      subst hxy
      have h3 : (decide (x < x)) = false := by simp
      rw [h3, Bool.false_or, beq_self_eq_true, Bool.true_and, ih]
      congr 1
      apply propext
      omega
    · have h3 : (decide (x < y)) = false := by simp [UInt8.lt_iff_toNat_lt]; omega
      have h4 : (x == y) = false := by rw [beq_eq_false_iff_ne]; rintro rfl; omega
      have : (y.toNat + 1) * 256 ^ l.length ≤ x.toNat * 256 ^ l.length := Nat.mul_le_mul_right _ e
      rw [Nat.add_mul] at this
      rw [h3, h4, Bool.false_or, Bool.false_and]
      symm; rw [decide_eq_false_iff_not]; omega
theorem nb_inj : ∀ (l m : List UInt8), l.length = m.length → nb l = nb m → l = m
  | [], [], _, _ => rfl
  | x :: l, y :: m, h, e => by
    have hl : l.length = m.length := by simpa using h
    have h1 := nb_lt l
    have h2 := nb_lt m
    rw [nb_cons, nb_cons, ← hl] at e
    rw [← hl] at h2
    have hp : 0 < 256 ^ l.length := Nat.pow_pos (by decide)
    have hx : x.toNat = y.toNat := by
      rcases Nat.lt_trichotomy x.toNat y.toNat with c | c | c
      · have : (x.toNat + 1) * 256 ^ l.length ≤ y.toNat * 256 ^ l.length := Nat.mul_le_mul_right _ c
        rw [Nat.add_mul] at this
        omega
      · exact c
      · have : (y.toNat + 1) * 256 ^ l.length ≤ x.toNat * 256 ^ l.length := Nat.mul_le_mul_right _ c
        rw [Nat.add_mul] at this
        omega
    rw [hx] at e
    rw [UInt8.toNat_inj.1 hx, nb_inj l m hl (by omega)]

set_option maxHeartbeats 1000000 in
theorem CompareNat_any (a b : ByteArray) (w : World) (h : a.size = b.size) :
    Calls Tryz.prog 57 #[.string a, .string b] w fun e w' => e = .returned (.int .i64 (cmpI (N a) (N b))) ∧ w' = w := by
  have hlt := less_nb a.data.toList b.data.toList (by rw [Array.length_toList, Array.length_toList]; exact h)
  rcases Nat.lt_trichotomy (N a) (N b) with h1 | h1 | h1
  · have hL : Op.bytesLess a.toList b.toList = true := by rw [toList_data, toList_data, hlt]; simpa [N] using h1
    have HR : Hid (cmpI (N a) (N b) = -1) := by show _ = _; rw [cmpI, if_pos h1]
    clear hlt h1
    go_enter Tryz.func57, Tryz.ntmps57
    go_wp2
    go_ret
    exact ⟨ret_int HR.out.symm, rfl⟩
  · have hL : Op.bytesLess a.toList b.toList = false := by rw [toList_data, toList_data, hlt]; simp only [N] at h1; rw [decide_eq_false_iff_not]; omega
    have hE : (a.toList == b.toList) = true := by
      rw [toList_data, toList_data, nb_inj a.data.toList b.data.toList (by rw [Array.length_toList, Array.length_toList]; exact h) h1]
      simp
    have HR : Hid (cmpI (N a) (N b) = 0) := by show _ = _; rw [cmpI, if_neg (by omega), if_pos h1]
    clear hlt h1
    go_enter Tryz.func57, Tryz.ntmps57
    go_wp2
    go_ret
    exact ⟨ret_int HR.out.symm, rfl⟩
  · have hL : Op.bytesLess a.toList b.toList = false := by rw [toList_data, toList_data, hlt]; simp only [N] at h1; rw [decide_eq_false_iff_not]; omega
    have hE : (a.toList == b.toList) = false := by
      rw [toList_data, toList_data, beq_eq_false_iff_ne]
      intro e
      rw [N, N, e] at h1
      omega
    have HR : Hid (cmpI (N a) (N b) = 1) := by show _ = _; rw [cmpI, if_neg (by omega), if_neg (by omega)]
    clear hlt h1
    go_enter Tryz.func57, Tryz.ntmps57
    go_wp2
    go_ret
    exact ⟨ret_int HR.out.symm, rfl⟩

set_option maxHeartbeats 1000000 in
theorem Cmp_any (a b : ByteArray) (w : World) :
    Calls Tryz.prog 12 #[.string a, .string b] w fun e w' => e = .returned (.int .i64 (cmpI (N a) (N b))) ∧ w' = w := by
  by_cases h : (B (N a)).size = (B (N b)).size
  · have hc := fun V => CompareNat_any (B (N a)) (B (N b)) V h
    simp only [N_B] at hc
    have HC := hide hc
    have hne : (((B (N a)).size : Int) != ((B (N b)).size : Int)) = false := by rw [h]; simp
    clear hc h
    go_enter Tryz.func12, Tryz.ntmps12
    go_wp2_with fail
    refine (bare_any _ _).mono ?_
    rintro e w1 ⟨rfl, hw⟩
    subst hw
    go_wp2_with fail
    refine (bare_any _ _).mono ?_
    rintro e w2 ⟨rfl, hw⟩
    subst hw
    go_wp2_with fail
    refine (HC.out _).mono ?_
    rintro e w3 ⟨rfl, hw⟩
    subst hw
    go_wp2
    go_ret
    exact ⟨rfl, rfl⟩
  · have hne : (((B (N a)).size : Int) != ((B (N b)).size : Int)) = true := by rw [bne_iff_ne]; omega
    have HR : Hid (Lib.compareInt (((B (N a)).size : Nat) : Int) (((B (N b)).size : Nat) : Int) = cmpI (N a) (N b)) := by
      show _ = _
      rw [B_size, B_size] at h ⊢
      unfold Lib.compareInt cmpI
      rcases Nat.lt_or_ge (N a) (N b) with c | c
      · have := bn_length_mono (Nat.le_of_lt c)
        rw [if_pos (by omega), if_pos c]
      · have := bn_length_mono c
        rw [if_neg (by omega), if_pos (by omega), if_neg (by omega), if_neg (by intro e; rw [e] at h; exact h rfl)]
    clear h
    go_enter Tryz.func12, Tryz.ntmps12
    go_wp2_with fail
    refine (bare_any _ _).mono ?_
    rintro e w1 ⟨rfl, hw⟩
    subst hw
    go_wp2_with fail
    refine (bare_any _ _).mono ?_
    rintro e w2 ⟨rfl, hw⟩
    subst hw
    go_wp2_with fail
    refine (Tryz.cmp_Compare_int _ _ _).mono ?_
    rintro e w3 ⟨rfl, hw⟩
    subst hw
    go_wp2
    go_ret
    exact ⟨ret_int HR.out, rfl⟩
end Go.Proofs.YtmkilmcmgdoiiaaGreatDoor

/- Plain facts on taking a multiple away part by part. -/
namespace Go.Proofs.YtmkilmcmgdoiiaaGreatDoor

/-- Parts of xs less f times ys: the parts, what is carried on of the product, what is borrowed. -/
def sbm (xs ys : List Nat) (f : Nat) : Nat → List Nat × Nat × Nat
  | 0 => ([], 0, 0)
  | k + 1 => ((sbm xs ys f k).1 ++ [(xs[k]?.getD 0 + 2 * W - ((sbm xs ys f k).2.1 + ys[k]?.getD 0 * f) % W - (sbm xs ys f k).2.2) % W],
      ((sbm xs ys f k).2.1 + ys[k]?.getD 0 * f) / W, if xs[k]?.getD 0 < ((sbm xs ys f k).2.1 + ys[k]?.getD 0 * f) % W + (sbm xs ys f k).2.2 then 1 else 0)
theorem sbm_length (xs ys : List Nat) (f k : Nat) : (sbm xs ys f k).1.length = k := by
  induction k with
  | zero => rfl
  | succ k ih => simp [sbm, ih]
theorem sbm_small (xs ys : List Nat) (f k : Nat) : Small (sbm xs ys f k).1 := by
  induction k with
  | zero => intro x hx; simp [sbm] at hx
  | succ k ih =>
    intro x hx
    rw [sbm] at hx
    rcases List.mem_append.1 hx with hx | hx
    · exact ih x hx
    · simp only [List.mem_singleton] at hx; subst hx; exact Nat.mod_lt _ W_pos
theorem sbm_borrow (xs ys : List Nat) (f k : Nat) : (sbm xs ys f k).2.2 ≤ 1 := by
  cases k with
  | zero => exact Nat.zero_le _
  | succ k =>
    rw [sbm]
    show (if _ then 1 else 0) ≤ 1
    split <;> omega
theorem sbm_carry (xs ys : List Nat) (f : Nat) (hy : Small ys) (hf : f < W) (k : Nat) : (sbm xs ys f k).2.1 < W := by
  induction k with
  | zero => exact W_pos
  | succ k ih =>
    rw [sbm]
    refine Nat.div_lt_of_lt_mul ?_
    have h1 := getD_lt hy k
    have h2 : ys[k]?.getD 0 * f ≤ (W - 1) * (W - 1) := Nat.mul_le_mul (by omega) (by omega)
    have h3 : (W - 1) * (W - 1) + W ≤ W * W := by decide
    omega
/-- One step: what is written, carried and borrowed makes up what was there. -/
theorem sbm_step (x c t b : Nat) (hx : x < W) (hb : b ≤ 1) :
    (x + 2 * W - (c + t) % W - b) % W + t + b + c = x + W * ((c + t) / W + if x < (c + t) % W + b then 1 else 0) := by
  have e := Nat.mod_add_div (c + t) W
  have hlo := Nat.mod_lt (c + t) W_pos
  generalize (c + t) % W = lo at *
  generalize (c + t) / W = q at *
  rw [Nat.mul_add]
  by_cases h : x < lo + b
  · rw [if_pos h]
    have : (x + 2 * W - lo - b) % W = x + W - lo - b := by
      rw [show x + 2 * W - lo - b = (x + W - lo - b) + W by omega, Nat.add_mod_right]
      exact Nat.mod_eq_of_lt (by omega)
    omega
  · rw [if_neg h]
    have : (x + 2 * W - lo - b) % W = x - lo - b := by
      rw [show x + 2 * W - lo - b = (x - lo - b) + W + W by omega, Nat.add_mod_right, Nat.add_mod_right]
      exact Nat.mod_eq_of_lt (by omega)
    omega
theorem sbm_eq (xs ys : List Nat) (f : Nat) (hx : Small xs) (k : Nat) :
    nw (sbm xs ys f k).1 + f * nw (ys.take k) = nw (xs.take k) + W ^ k * ((sbm xs ys f k).2.1 + (sbm xs ys f k).2.2) := by
  rw [← nwF_take xs k, ← nwF_take ys k]
  induction k with
  | zero => simp [sbm, nwF, nw_nil]
  | succ k ih =>
    have hb := sbm_borrow xs ys f k
    have st := sbm_step (xs[k]?.getD 0) (sbm xs ys f k).2.1 (ys[k]?.getD 0 * f) (sbm xs ys f k).2.2 (getD_lt hx k) hb
    have e3 : f * (nwF (fun j => ys[j]?.getD 0) k + W ^ k * ys[k]?.getD 0) = f * nwF (fun j => ys[j]?.getD 0) k + W ^ k * (ys[k]?.getD 0 * f) := by
      rw [Nat.mul_add, Nat.mul_left_comm, Nat.mul_comm f (ys[k]?.getD 0)]
    rw [sbm, nwF, nwF, nw_snoc, sbm_length, e3]
    show _ = _ + W ^ (k + 1) * (_ + if _ then 1 else 0)
    rw [Nat.pow_succ, Nat.mul_assoc]
    generalize (xs[k]?.getD 0 + 2 * W - ((sbm xs ys f k).2.1 + ys[k]?.getD 0 * f) % W - (sbm xs ys f k).2.2) % W = d at *
    generalize (((sbm xs ys f k).2.1 + ys[k]?.getD 0 * f) / W + if xs[k]?.getD 0 < ((sbm xs ys f k).2.1 + ys[k]?.getD 0 * f) % W + (sbm xs ys f k).2.2 then 1 else 0) = z at *
    generalize (sbm xs ys f k).2.1 = c at *
    generalize (sbm xs ys f k).2.2 = b at *
    generalize ys[k]?.getD 0 * f = t at *
    have := congrArg (W ^ k * ·) st
    simp only [Nat.mul_add] at this ih ⊢
    omega

end Go.Proofs.YtmkilmcmgdoiiaaGreatDoor
