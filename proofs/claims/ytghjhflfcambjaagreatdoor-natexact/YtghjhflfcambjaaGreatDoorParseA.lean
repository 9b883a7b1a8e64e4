/- allDigits and appendDigit of package nat. -/
import Derived.Test.YtghjhflfcambjaaGreatDoorTextB
import Derived.Test.YtghjhflfcambjaaGreatDoorNumD
namespace Go.Proofs.YtghjhflfcambjaaGreatDoor
open Go.RowKit

theorem toList_data (s : ByteArray) : s.toList = s.data.toList := by
  obtain ⟨⟨l⟩⟩ := s
  simp
theorem allDig_false (s : ByteArray) (k : Nat) (h : k < s.size) (hd : isDig s[k] = false) : allDig s.data.toList = false := by
  have hm : s[k] ∈ s.data.toList := by
    have : s.data.toList[k]'(by simpa using h) = s[k] := rfl
    rw [← this]; exact List.getElem_mem _
  have : s.data.toList.all isDig = false := by
    rw [List.all_eq_false]; exact ⟨_, hm, by simp [hd]⟩
  simp [allDig, this]

theorem ret_bool {a b : Bool} (h : a = b) : Ending.returned (.bool a) = .returned (.bool b) := by rw [h]

set_option maxHeartbeats 1000000 in
theorem allDigits_any (s : ByteArray) (w : World) (hs : s.size ≤ 140737488355328) :
    Calls Tryz.prog 51 #[.string s] w fun e w' => e = .returned (.bool (allDig s.data.toList)) ∧ w' = w := by
  go_enter Tryz.func51, Tryz.ntmps51
  go_wp2
  go_loop [6] (fun i => ∃ k : Nat, k ≤ s.size ∧ i = .int .i64 k ∧ (s.data.toList.take k).all isDig = true) (fun i => s.size - (intOf i).toNat)
  case atStart => exact ⟨0, Nat.zero_le _, rfl, rfl⟩
  case round =>
    obtain ⟨k, hk, rfl, hall⟩ := hrel
    have HA : Hid ((s.data.toList.take k).all isDig = true) := hall
    clear hall
    by_cases hlt : k < s.size
    · by_cases hc : 48 ≤ s[k].toNat ∧ s[k].toNat ≤ 57
      · have HS : Hid ((s.data.toList.take (k + 1)).all isDig = true) := by
          show _ = _
          rw [take_snoc s k hlt, List.all_append, HA.out]
          simp [isDig, hc]
        obtain ⟨hc1, hc2⟩ := hc
        go_wp2
        go_round
        case rel => exact ⟨k + 1, by omega, by go_num, HS.out⟩
        case measure => simp [intOf]; omega
      · have HF : Hid (allDig s.data.toList = false) := allDig_false s k hlt (by simp only [isDig, decide_eq_false_iff_not]; exact hc)
        rcases (show s[k].toNat < 48 ∨ (48 ≤ s[k].toNat ∧ 57 < s[k].toNat) by omega) with h1 | ⟨h1, h2⟩
        · clear hc
          go_wp2
          go_ret
          exact ⟨ret_bool HF.out.symm, rfl⟩
        · clear hc
          go_wp2
          go_ret
          exact ⟨ret_bool HF.out.symm, rfl⟩
    · have HE : Hid (s.data.toList.all isDig = true) := by
        show _ = _
        have := HA.out
        rwa [List.take_of_length_le (by simp; omega)] at this
      go_wp2
      go_ret
      refine ⟨ret_bool ?_, rfl⟩
      rw [allDig, HE.out, Bool.and_true, toList_data]

set_option maxRecDepth 100000 in
set_option maxHeartbeats 2000000 in
theorem appendDigit_some (g cap : Nat) (l : List Nat) (d : Nat) (w : World) (hs : Small l) (hd : d ≤ 9) (hlen : l.length ≤ 8796093022208) (base : Nat) (hb : base ≤ w.heap.size)
    (h : Has w base (.slice (some ⟨g, 0, none⟩) l.length cap) l) :
    Calls Tryz.prog 52 #[.slice (some ⟨g, 0, none⟩) l.length cap, .int .u8 (d : Nat)] w fun e w' => ∃ v' l', e = .returned v' ∧ Has w' base v' l' ∧ Small l' ∧ nw l' = nw l * 10 + d ∧ l'.length ≤ l.length + 1 ∧ Below base w w' := by
  obtain ⟨i0, hi, hz0, hz1, hz2⟩ := info_parts Tryz.infoU32
  have hlg : Lies w g 0 l := (own_lies h).2.2.2
  have hbg : base ≤ g := (own_lies h).2.2.1
  have HH := hide h
  clear h
  go_enter Tryz.func52, Tryz.ntmps52
  go_wp2
  go_loopw [5, 11] (fun c i wr => ∃ k : Nat, k ≤ l.length ∧ i = .int .i64 k ∧ c = .int .u64 ((mad d (l.take k)).2 : Nat) ∧ Lies wr g 0 ((mad d (l.take k)).1 ++ l.drop k) ∧ Upd g 0 l.length w wr)
    (fun _ i _ => l.length - (intOf i).toNat)
  case atStart => exact ⟨0, Nat.zero_le _, rfl, rfl, by simpa [mad] using hlg, Upd.refl _ _ _ _⟩
  case round =>
    obtain ⟨k, hk, rfl, rfl, hlr, hur⟩ := hrel
    by_cases hlt : k < l.length
    · have hcy := mad_carry d (l.take k) hd (small_take hs k)
      have hql : (mad d (l.take k)).1.length = k := by rw [mad_length, List.length_take]; omega
      have hx := hs _ (List.getElem_mem hlt)
      have hlen2 : k < ((mad d (l.take k)).1 ++ l.drop k).length := by rw [List.length_append, hql, List.length_drop]; omega
      have hcell := hlr.cell k hlen2
      have hfz := hlr.frozen (0 + k)
      have hset := fun y => hlr.set k hlen2 y
      simp only [drop_set_append _ l k _ hql hlt] at hset
      have hgm : ((mad d (l.take k)).1 ++ l.drop k)[k]?.getD 0 = l[k] := by
        rw [List.getElem?_append_right (by omega), hql, Nat.sub_self, List.getElem?_drop, Nat.add_zero, List.getElem?_eq_getElem hlt]; rfl
      rw [hgm] at hcell
      rw [Nat.zero_add] at hcell hfz
      have HG : Hid (mad d (l.take (k + 1)) = ((mad d (l.take k)).1 ++ [((mad d (l.take k)).2 + l[k] * 10) % W], ((mad d (l.take k)).2 + l[k] * 10) / W)) := by show _ = _; rw [List.take_succ_eq_append_getElem hlt, mad_snoc]
      rw [W_eq] at hx
      generalize (mad d (l.take k)).2 = c at *
      generalize (mad d (l.take k)).1 = q at *
      generalize l[k] = x at *
      have HSET := hide hset
      clear hset hgm hlen2 hlr
      go_wp2
      have hv : Value.int .u32 (((c : Int) + (x : Int) * 10) % 4294967296) = .int .u32 (((c + x * 10) % W : Nat) : Int) := int_eq (by rw [W_eq]; omega)
      have hv2 : Value.int .u64 (((c : Int) + (x : Int) * 10) / 4294967296) = .int .u64 (((c + x * 10) / W : Nat) : Int) := int_eq (by rw [W_eq]; omega)
      rw [hv, hv2]
      have hq := HSET.out ((c + x * 10) % W)
      rw [Nat.zero_add] at hq
      go_roundw
      case rel => exact ⟨k + 1, by omega, by go_num, by rw [HG.out], by rw [HG.out]; exact hq, hur.trans (Upd.setCell (Nat.zero_le _) (by omega) _)⟩
      case measure => simp [intOf]; omega
    · obtain rfl : k = l.length := by omega
      rw [List.take_length] at hlr ⊢
      rw [List.drop_length, List.append_nil] at hlr
      have hcy := mad_carry d l hd hs
      have HQ := hide (mad_eq d l)
      have hqs := mad_small d l
      have hql := mad_length d l
      have hown := HH.out.upd hur hlr hql
      have hbel : Below base w wr := Upd.below (Below.refl _ _) hur hbg hb
      have hsz := hbel.size
      generalize (mad d l).2 = c at *
      generalize (mad d l).1 = q at *
      have HL := hide hql
      clear hlr hur hql
      by_cases h0 : c = 0
      · subst h0
        go_wp2
        go_ret
        exact ⟨_, q, rfl, hown, hqs, by have := HQ.out; rwa [Nat.mul_zero, Nat.add_zero] at this, by have := HL.out; omega, hbel⟩
      · have hcp : 0 < c := by omega
        have hown2 : wr.ownsRow base 66 1 (.slice (some ⟨g, 0, none⟩) l.length cap) l.length (q.map u32) := by have := hown; rw [Has, HL.out] at this; exact this
        go_wp2_with (at_builtin; refine wpList_append_own _ rfl _ _ 47 rfl base 66 i0 (.int .u32 0) 1 4 Tryz.underlying47 hi hz0 hz1 hz2 rfl (by decide) _ _ _ rfl (hown2.alloc _) ⟨wr.heap.size, 0, none⟩ 1 1 [.int .u32 (c : Nat)] rfl rfl (cell_one_new _ _ _) (by simp [Value.oneCell']) (by unfold maxLen; omega) (by omega) (by simp; omega) ?_; intro v' w2 hown3 hgrow2 _)
        go_wp2
        go_ret
        have hb2 : Below base w w2 := (hbel.alloc (by omega) _).grown hgrow2 (by simp; omega) (fun k hk => by cases hk; exact hbg)
        refine ⟨_, q ++ [c], rfl, ?_, ?_, ?_, ?_, hb2⟩
        · have e : (q ++ [c]).length = l.length + 1 := by rw [List.length_append, HL.out]; rfl
          rw [Has, e]; simpa [u32] using hown3
        · intro y hy
          rcases List.mem_append.1 hy with hy | hy
          · exact hqs y hy
          · simp at hy; subst hy; rw [W_eq]; omega
        · rw [nw_snoc, HL.out]; exact HQ.out
        · rw [List.length_append, HL.out]; exact Nat.le_refl _
end Go.Proofs.YtghjhflfcambjaaGreatDoor
