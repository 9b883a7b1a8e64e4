/- The law WalkDice. -/
import Derived.Test.YtnnfmfdjgdgdhaaDoorDicAToOutB
import Derived.Test.YtnnfmfdjgdgdhaaDoorMadBOwn
import Derived.Test.YtnnfmfdjgdgdhaaDoorFracEToRefR
import Derived.Deep.Strs
import Derived.HandedShaped
import Derived.ProofKit
import Derived.OpenShut
import Derived.ShutString
import Derived.SizedLaws
import Derived.Test.YtnnfmfdjgdgdhaaDoorRefSToTabN
import Derived.Carry
namespace Go.Proofs.YtnnfmfdjgdgdhaaDoor
open Go.RowKit Go.Shelf Go.Lib

set_option maxRecDepth 100000 in
set_option maxHeartbeats 400000 in
theorem walkDice_big (a : Option Addr) (ca : Nat) (l : List Int) (n t : Int) (w : World) (hs : l.length ≤ 140737488355328) (h : 64 < l.length) :
    Calls Tryd.prog 3 #[.slice a l.length ca, .int .i64 n, .int .i64 t] w fun e w' => e = .returned (.bool true) ∧ Below w.heap.size w w' := by
  go_enter Tryd.func3, Tryd.ntmps3
  go_wp2
  go_ret
  exact ⟨rfl, Below.refl _ _⟩
/-- Rows of raw weights: their numbers. -/
theorem raw_at {Ls : List Nat} (h6 : ∀ a ∈ Ls, a ≤ 6) (hl : Ls.length ≤ 4) (hs : 1 ≤ Ls.sum) {i : Nat} (hi : i < (rawF Ls).length) : N ((rawF Ls)[i].2.2) = (frv (rawF Ls)[i]).den ∧ 1 ≤ N ((rawF Ls)[i].2.2) ∧ N ((rawF Ls)[i].2.2) ≤ 24 ∧ (rawF Ls)[i].2.1.size + (rawF Ls)[i].2.2.size ≤ 2 := by
  have hi' : i < Ls.length := by rw [rawF_length] at hi; exact hi
  have e : (rawF Ls)[i] = qF ((Ls[i] : Rat) / (Ls.sum : Rat)) := by simp [rawF]
  have hsz : (rawF Ls)[i].2.1.size + (rawF Ls)[i].2.2.size ≤ 2 := by
    have h1 := h6 _ (List.getElem_mem hi')
    have h2 := sum_le6 h6
    rw [e]
    show (nu ((Ls[i] : Rat) / (Ls.sum : Rat))).size + (de ((Ls[i] : Rat) / (Ls.sum : Rat))).size ≤ 2
    rw [own_size]
    have hfit : Fits 1 ((Ls[i] : Rat) / (Ls.sum : Rat)) := ⟨(Ls[i] : Int), Ls.sum, by omega, by rw [Rat.mkRat_eq_div]; rfl, by omega, by simp; omega⟩
    exact fits_qw hfit
  have hd := den_le (a := Ls[i]) (S := Ls.sum) (by omega)
  have h2 := sum_le6 h6
  have e1 : N ((rawF Ls)[i].2.2) = ((Ls[i] : Rat) / (Ls.sum : Rat)).den := by rw [e]; exact N_B _
  have e2 : frv (rawF Ls)[i] = (Ls[i] : Rat) / (Ls.sum : Rat) := by rw [e]; exact frQ_qF _
  refine ⟨by rw [e1, e2], ?_, ?_, hsz⟩
  · rw [e1]; exact Rat.den_pos _
  · rw [e1]; omega
theorem fw_small : ∀ {l : List Fr}, (∀ i (h : i < l.length), l[i].2.1.size + l[i].2.2.size ≤ 2) → fw l ≤ 1000 * l.length
  | [], _ => Nat.zero_le _
  | f :: l, h => by
    have h1 := h 0 (Nat.succ_pos _)
    have h2 := fw_small (l := l) fun i hi => h (i + 1) (by simpa using hi)
    simp only [List.getElem_cons_zero] at h1
    simp only [fw, List.length_cons]
    omega
/-- How many so far, of things that each have at most so many. -/
structure OfM (l : List Fr) (i m : Nat) : Prop where
  pos : 1 ≤ m
  high : m ≤ 3 * 24 ^ i
  div : ∀ j (h : j < l.length), j < i → N l[j].2.2 ∣ m
theorem OfM.next {l : List Fr} {i m : Nat} (h : OfM l i m) (hi : i < l.length) (h1 : 1 ≤ N l[i].2.2) (h2 : N l[i].2.2 ≤ 24) : OfM l (i + 1) (m * N l[i].2.2) := by
  refine ⟨Nat.mul_pos h.pos h1, ?_, fun j hj hlt => ?_⟩
  · rw [Nat.pow_succ, ← Nat.mul_assoc]
    exact Nat.mul_le_mul h.high h2
  · rcases Nat.lt_or_ge j i with h3 | h3
    · exact Nat.dvd_trans (h.div j hj h3) (Nat.dvd_mul_right _ _)
    · obtain rfl : j = i := by omega
      exact Nat.dvd_mul_left _ _
theorem OfM.low {l : List Fr} {i m : Nat} (h : OfM l i m) (hi : i ≤ 4) : m ≤ 1000000 := by
  have h1 : 24 ^ i ≤ 24 ^ 4 := Nat.pow_le_pow_right (by decide) hi
  have h2 := h.high
  have e : (24 : Nat) ^ 4 = 331776 := by decide
  omega

set_option maxRecDepth 100000 in
set_option maxHeartbeats 2000000 in
theorem walkDice_walk (a : Option Addr) (ca : Nat) (W : List Int) (n t : Int) (w : World) (hI : IntS w a W) (hr : ∀ x ∈ W, -9223372036854775808 ≤ x ∧ x ≤ 9223372036854775807) (hn : -9223372036854775808 ≤ n ∧ n ≤ 9223372036854775807) (ht : -9223372036854775808 ≤ t ∧ t ≤ 9223372036854775807) (hl : W.length ≤ 64) :
    Calls Tryd.prog 3 #[.slice a W.length ca, .int .i64 n, .int .i64 t] w fun e w' => e = .returned (.bool true) ∧ Below w.heap.size w w' := by
  obtain ⟨i0, hi0, hz0, hz1, hz2⟩ := info_parts Tryd.infoInt
  have HPN := hid (fun U : World => rPick_any n 4 U hn.1 hn.2 (by omega) (by omega))
  have HPT := hid (fun U : World => rPick_any t 3 U ht.1 ht.2 (by omega) (by omega))
  have hp4 := pickN_lt n (n := 4) (by omega)
  have hp3 := pickN_lt t (n := 3) (by omega)
  clear hn ht
  generalize pickN n 4 = p4 at *
  generalize pickN t 3 = p3 at *
  obtain ⟨nn, hnn⟩ : ∃ nn, nn = 1 + p4 := ⟨_, rfl⟩
  obtain ⟨m0, hm0⟩ : ∃ m0, m0 = 1 + p3 := ⟨_, rfl⟩
  have HW4 : Hid ((1 : Int) + (p4 : Int) = (nn : Int)) := by show _ = _; omega
  have HW3 : Hid ((1 : Int) + (p3 : Int) = (m0 : Int)) := by show _ = _; omega
  have HRO := hid (fun (U : World) (hU : IntS U a W) => rowOf_any a ca 0 nn W U hU hr (by omega) (by omega) (by omega) (by omega))
  have HI := hid hI
  clear hI hr
  go_enter Tryd.func3, Tryd.ntmps3
  go_wp2_with fail
  refine (HPN.out _).mono ?_
  rintro e w1 ⟨rfl, hb1⟩
  have HB1 := hid hb1
  clear hb1
  go_wp2_with fail
  rw [HW4.out]
  refine (HRO.out _ (HI.out.below HB1.out)).mono ?_
  rintro e w2 ⟨x, Ls, rfl, hx, hWt, hs1, hb2⟩
  have HB2 := hid (HB1.out.trans (hb2.mono HB1.out.size))
  obtain ⟨d, cd, rfl, hF⟩ := hx.fr
  have hll := hWt.len
  have hL : (rawF Ls).length = nn := by rw [rawF_length]; exact hll
  have HAT := hid (fun i (hi : i < (rawF Ls).length) => raw_at hWt.six (by omega) hs1 hi)
  have HRB := hid (rawF_row hs1)
  have HF := hid hF
  clear hx hWt hs1 hb2 hF hll HRO
  generalize rawF Ls = l at *
  have hl4 : l.length ≤ 4 := by omega
  have HFW : Hid (fw l ≤ 10000) := by have := fw_small (l := l) fun i hi => (HAT.out i hi).2.2.2; show _ ≤ _; omega
  clear hnn hL HW4
  go_wp2_with fail
  refine (HPT.out _).mono ?_
  rintro e w3 ⟨rfl, hb3⟩
  have HB3 := hid (HB2.out.trans (hb3.mono HB2.out.size))
  replace HF := hid (HF.out.below hb3)
  have HM0 : Hid (OfM l 0 m0) := ⟨by omega, by omega, fun j _ h => absurd h (by omega)⟩
  clear hb3
  go_wp2_with fail
  rw [HW3.out]
  clear HW3 hm0
  go_loopw [8, 9] (fun ov iv wr => ∃ i m : Nat, i ≤ l.length ∧ iv = .int .i64 i ∧ ov = .int .i64 (m : Nat) ∧ Hid (OfM l i m) ∧ w3 = wr) (fun _ iv _ => l.length - (intOf iv).toNat)
  case atStart => exact ⟨0, m0, Nat.zero_le _, rfl, rfl, HM0, rfl⟩
  case round =>
    obtain ⟨i, m, hi, rfl, rfl, HM, rfl⟩ := hrel
    by_cases hlt : i < l.length
    · obtain ⟨g, o, rfl, hg, c0, c1, c2⟩ := HF.out i hlt
      obtain ⟨q1, q2, q3, q4⟩ := HAT.out i hlt
      have HN := hid (HM.out.next hlt q2 q3)
      have hmm := HN.out.low (by omega)
      have HNI := hid (fun U : World => rInt_yes l[i].2.2 U (by omega) (by omega))
      clear q1 q4 c0 c1
      generalize l[i].2.2 = dy at *
      generalize N dy = dn at *
      obtain ⟨P, hP⟩ : ∃ P, P = m * dn := ⟨_, rfl⟩
      have hPc : (m : Int) * (dn : Int) = (P : Int) := by rw [hP]; push_cast; rfl
      have hwr : IntKind.i64.wrap ((m : Int) * (dn : Int)) = (P : Int) := by rw [hPc, IntKind.wrap_i64]; omega
      rw [← hP] at HN hmm
      clear hP hPc
      go_wp2_with fail
      refine (HNI.out _).mono ?_
      rintro e w4 ⟨rfl, rfl⟩
      go_wp2
      go_roundw
      case rel => exact ⟨i + 1, P, by omega, by go_num, rfl, HN, trivial⟩
      case measure => simp [intOf]; omega
    · obtain rfl : i = l.length := by omega
      have hmM := HM.out.low (by omega)
      have hm1 := HM.out.pos
      have HSH : Hid (Sha l m) := by
        have hrb := HRB.out
        rw [rowB, Bool.and_eq_true] at hrb
        refine ⟨fun f hf => Rat.not_lt.1 (of_decide_eq_true (List.all_eq_true.1 hrb.1 f hf)), fun f hf => ?_, of_decide_eq_true hrb.2⟩
        obtain ⟨j, hj, rfl⟩ := List.getElem_of_mem hf
        rw [← (HAT.out j hj).1]
        exact HM.out.div j hj hj
      by_cases hbig : 2000 < m
      · go_wp2
        go_ret
        exact ⟨rfl, HB3.out⟩
      · go_wp2_with (first
          | (at_make; refine wpList_make_full _ rfl _ _ 22 rfl w3.heap.size 3 i0 (.int .i64 0) 1 Tryd.underlying22 hi0 hz0 hz1 .i64 .i64 _ _ l.length rfl rfl (by go_num) (by go_num) (by rw [hz2]; omega) (by unfold maxLen; omega) (Nat.le_refl _) ?_; intro w5 hown2 hgrow2; have hB5 : Below w3.heap.size w3 w5 := (Below.refl _ w3).grown hgrow2 (Nat.le_refl _) (fun k e => by cases e)))
        have hb2 := block_of_own hown2
        rw [made_ints] at hb2
        have HR0 : Hid (RowI w5 w3.heap.size (cntA (wA l m) 0)) := by
          show RowI _ _ _
          rw [cntA_zero, wA_length]
          exact hb2
        have HB5 := hid hB5
        clear hown2 hgrow2 hb2 hB5
        have HDR := hid (fun (k : Nat) (hk : k < m) (U : World) (hU : FrS U d l) => draw_yes d cd k m l U hU HFW.out (by omega) HRB.out hm1 (by omega) hk)
        have HDN := hid (fun (k j : Nat) (hk : k < m) (h : DrwN l m k j) => (show j < l.length ∧ j = dN (wA l m) k from ⟨h.1, HSH.out.drawn hk h⟩))
        have HST := hid (fun (k : Nat) (h : k < (wA l m).sum) => cntA_step (wA l m) k h)
        have HSM := hid HSH.out.sum
        have HLE := hid (fun k => cntA_le (wA l m) k)
        have HLN : Hid (∀ k, (cntA (wA l m) k).length = l.length) := fun k => by rw [cntA_length, wA_length]
        have HFI : Hid (cntA (wA l m) m = wA l m) := by
          have := cntA_sum (wA l m)
          rwa [HSH.out.sum] at this
        have HEA : Hid (∀ i (h : i < l.length) (h2 : i < (wA l m).length), frv l[i] * (m : Rat) = ((wA l m)[i] : Rat)) := fun i h h2 => HSH.out.each i h h2
        have hwl := wA_length l m
        generalize wA l m = A at *
        go_loopw [13] (fun kv wr => ∃ k : Nat, k ≤ m ∧ kv = .int .i64 k ∧ Hid (RowI wr w3.heap.size (cntA A k)) ∧ Hid (Below w3.heap.size w3 wr)) (fun kv _ => m - (intOf kv).toNat)
        case atStart => exact ⟨0, Nat.zero_le _, rfl, HR0, HB5⟩
        case round =>
          obtain ⟨k, hk, rfl, HR, HB⟩ := hrel
          clear HR0 HB5
          by_cases hlt : k < m
          · go_wp2_with fail
            refine (HDR.out k hlt _ (HF.out.below HB.out)).mono ?_
            rintro e w6 ⟨j, rfl, hj, hb6⟩
            obtain ⟨hj1, hj2⟩ := HDN.out k j hlt hj
            replace HR := hid (HR.out.below hb6 HR.out.lt)
            replace HB := hid (HB.out.trans (hb6.mono HB.out.size))
            have hjl : j < (cntA A k).length := by rw [HLN.out]; exact hj1
            have k0 := HR.out.cell j hjl
            have f0 := HR.out.fz j
            have HS := hid (HR.out.set j ((cntA A k)[j] + 1))
            have hst := HST.out k (by rw [HSM.out]; exact hlt)
            subst hj2
            rw [← hst] at HS
            have hle := HLE.out k _ (List.getElem_mem hjl)
            have HBS := hid (HB.out.setCell (p := ⟨w3.heap.size, dN A k, none⟩) (Nat.le_refl _) (.int .i64 (((cntA A k)[dN A k] + 1 : Nat) : Int)))
            clear hst hj hb6
            generalize (cntA A k)[dN A k] = c at *
            generalize dN A k = j at *
            obtain ⟨c1, hc1⟩ : ∃ c1, c1 = c + 1 := ⟨_, rfl⟩
            have hwc : IntKind.i64.wrap ((c : Int) + 1) = (c1 : Int) := by rw [IntKind.wrap_i64]; omega
            rw [← hc1] at HS HBS
            clear hc1
            go_wp2
            go_roundw
            case rel => exact ⟨k + 1, by omega, by go_num, HS, HBS⟩
            case measure => simp [intOf]; omega
          · obtain rfl : k = m := by omega
            rw [HFI.out] at HR
            go_wp2_with fail
            have HFr := hid (HF.out.below HB.out)
            generalize wr = w7 at *
            go_loopw [16] (fun iv wr => ∃ i : Nat, i ≤ l.length ∧ iv = .int .i64 i ∧ Hid (Below w7.heap.size w7 wr)) (fun iv _ => l.length - (intOf iv).toNat)
            case atStart => exact ⟨0, Nat.zero_le _, rfl, Below.refl _ _⟩
            case round =>
              obtain ⟨i, hi, rfl, HB7⟩ := hrel
              by_cases hlt : i < l.length
              · obtain ⟨g, o, rfl, hg, c0, c1, c2⟩ := HFr.out i hlt
                have hia : i < A.length := by rw [hwl]; exact hlt
                have r0 := HR.out.cell i hia
                have hGl := HR.out.lt
                have hq := HEA.out i hlt hia
                obtain ⟨q1, q2, q3, q4⟩ := HAT.out i hlt
                have hAi : A[i] ≤ 1000000 := by
                  have := HLE.out k A[i] (by rw [HFI.out]; exact List.getElem_mem hia)
                  omega
                have hkf : Fits 3 (k : Rat) := ⟨(k : Int), 1, by decide, by rw [Rat.mkRat_one]; rfl, by decide, by show _ < 16777216; simp; omega⟩
                have HOF : Hid (∀ U : World, Calls Tryd.prog 9 #[.int .i64 (k : Nat)] U fun e w' => e = .returned (.agg #[.bool (sgn (k : Rat)), .string (nu (k : Rat)), .string (de (k : Rat))]) ∧ Below U.heap.size U w') := fun U => by
                  have h := rOfF_any (k : Int) U (by omega) (by omega)
                  rw [mkRat_int] at h
                  exact h
                have HOC : Hid (∀ U : World, Calls Tryd.prog 9 #[.int .i64 (A[i] : Nat)] U fun e w' => e = .returned (.agg #[.bool (sgn (A[i] : Rat)), .string (nu (A[i] : Rat)), .string (de (A[i] : Rat))]) ∧ Below U.heap.size U w') := fun U => by
                  have h := rOfF_any (A[i] : Int) U (by omega) (by omega)
                  rw [mkRat_int] at h
                  exact h
                have HMU : Hid (∀ U : World, Calls Tryd.prog 8 #[.agg #[.bool l[i].1, .string l[i].2.1, .string l[i].2.2], .agg #[.bool (sgn (k : Rat)), .string (nu (k : Rat)), .string (de (k : Rat))]] U fun e w' => e = .returned (.agg #[.bool (sgn (A[i] : Rat)), .string (nu (A[i] : Rat)), .string (de (A[i] : Rat))]) ∧ Below U.heap.size U w') := fun U => by
                  have hz := own_size (k : Rat)
                  have hz2 := fits_qw hkf
                  have h := rMulF_any l[i].1 (sgn (k : Rat)) l[i].2.1 l[i].2.2 (nu (k : Rat)) (de (k : Rat)) U (by omega) (by omega)
                  rw [val_own, show val l[i].1 l[i].2.1 l[i].2.2 = frv l[i] from rfl, hq] at h
                  exact h
                clear hq q1 q2 q3 q4 hkf
                generalize sgn (k : Rat) = kn at *
                generalize nu (k : Rat) = kx at *
                generalize de (k : Rat) = ky at *
                generalize sgn (A[i] : Rat) = an at *
                generalize nu (A[i] : Rat) = ax at *
                generalize de (A[i] : Rat) = ay at *
                generalize A[i] = c at *
                generalize l[i].1 = fn at *
                generalize l[i].2.1 = fx at *
                generalize l[i].2.2 = fy at *
                go_upto_region 23 with fail
                have HELD : Hid (∀ u, Below w7.heap.size w7 u → u.cell? ⟨g, o + i * 3, none⟩ = some (.bool fn) ∧ u.cell? ⟨g, o + i * 3 + 1, none⟩ = some (.string fx) ∧ u.cell? ⟨g, o + i * 3 + 2, none⟩ = some (.string fy) ∧ u.cell? ⟨w3.heap.size, i, none⟩ = some (.int .i64 (c : Nat))) := fun u h => ⟨(h.cell (p := ⟨g, _, none⟩) hg).trans c0, (h.cell (p := ⟨g, _, none⟩) hg).trans c1, (h.cell (p := ⟨g, _, none⟩) hg).trans c2, (h.cell (p := ⟨w3.heap.size, _, none⟩) hGl).trans r0⟩
                clear c0 c1 c2 r0
                refine wp_region_held_drew (S := fun u => u.cell? ⟨g, o + i * 3, none⟩ = some (.bool fn) ∧ u.cell? ⟨g, o + i * 3 + 1, none⟩ = some (.string fx) ∧ u.cell? ⟨g, o + i * 3 + 2, none⟩ = some (.string fy) ∧ u.cell? ⟨w3.heap.size, i, none⟩ = some (.int .i64 (c : Nat))) (by kernel_rfl) (HELD.out _ HB7.out.drew) (fun hSd => ?_)
                replace HB7 := hid HB7.out.drew
                generalize wr.drew = u0 at *
                refine wpAnyH_take (i := 0) (oi := _) (v := .slice (some ⟨g, o, none⟩) l.length cd) rfl (by kernel_rfl) (by kernel_rfl) (by kernel_rfl) (fun _ _ _ h => h) (Or.inl ⟨by rfl, ?_⟩) (by assumption) ?_
                · intro u' hSu
                  (try simp only [List.getElem_toArray, List.getElem_cons_zero])
                  go_simp
                (try simp only [List.getElem_toArray, List.getElem_cons_zero])
                (try simp only [Act.put, List.setIfInBounds_toArray, List.set_cons_zero, List.set_cons_succ])
                refine wpAnyH_take (i := 1) (oi := _) (v := .int .i64 (i : Nat)) rfl (by kernel_rfl) (by kernel_rfl) (by kernel_rfl) (fun _ _ _ h => h) (Or.inl ⟨by rfl, ?_⟩) (by assumption) ?_
                · intro u' hSu
                  (try simp only [List.getElem_toArray, List.getElem_cons_zero, List.getElem_cons_succ])
                  go_simp
                (try simp only [List.getElem_toArray, List.getElem_cons_zero, List.getElem_cons_succ])
                (try simp only [Act.put, List.setIfInBounds_toArray, List.set_cons_zero, List.set_cons_succ])
                refine wpAnyH_take (i := 2) (oi := _) (v := .pointer (some ⟨g, o + i * 3, none⟩)) rfl (by kernel_rfl) (by kernel_rfl) (by kernel_rfl) (fun _ _ _ h => h) (Or.inl ⟨by rfl, ?_⟩) (by assumption) ?_
                · intro u' hSu
                  (try simp only [List.getElem_toArray, List.getElem_cons_zero, List.getElem_cons_succ])
                  go_simp
                (try simp only [List.getElem_toArray, List.getElem_cons_zero, List.getElem_cons_succ])
                (try simp only [Act.put, List.setIfInBounds_toArray, List.set_cons_zero, List.set_cons_succ])
                refine wpAnyH_take (i := 3) (oi := _) (v := .agg #[.bool fn, .string fx, .string fy]) rfl (by kernel_rfl) (by kernel_rfl) (by kernel_rfl) (fun _ _ _ h => h) (Or.inl ⟨by rfl, ?_⟩) (by assumption) ?_
                · intro u' hSu
                  (try simp only [List.getElem_toArray, List.getElem_cons_zero, List.getElem_cons_succ])
                  obtain ⟨s0, s1, s2, s3⟩ := hSu
                  go_simp
                (try simp only [List.getElem_toArray, List.getElem_cons_zero, List.getElem_cons_succ])
                (try simp only [Act.put, List.setIfInBounds_toArray, List.set_cons_zero, List.set_cons_succ])
                refine wpAnyH_take (i := 4) (oi := _) (v := .int .i64 (k : Nat)) rfl (by kernel_rfl) (by kernel_rfl) (by kernel_rfl) (fun _ _ _ h => h) (Or.inl ⟨by rfl, ?_⟩) (by assumption) ?_
                · intro u' hSu
                  (try simp only [List.getElem_toArray, List.getElem_cons_zero, List.getElem_cons_succ])
                  go_simp
                (try simp only [List.getElem_toArray, List.getElem_cons_zero, List.getElem_cons_succ])
                (try simp only [Act.put, List.setIfInBounds_toArray, List.set_cons_zero, List.set_cons_succ])
                refine wpAnyH_take (i := 7) (oi := _) (v := .slice (some ⟨w3.heap.size, 0, none⟩) l.length l.length) rfl (by kernel_rfl) (by kernel_rfl) (by kernel_rfl) (fun _ _ _ h => h) (Or.inl ⟨by rfl, ?_⟩) (by assumption) ?_
                · intro u' hSu
                  (try simp only [List.getElem_toArray, List.getElem_cons_zero, List.getElem_cons_succ])
                  go_simp
                (try simp only [List.getElem_toArray, List.getElem_cons_zero, List.getElem_cons_succ])
                (try simp only [Act.put, List.setIfInBounds_toArray, List.set_cons_zero, List.set_cons_succ])
                refine wpAnyH_take (i := 8) (oi := _) (v := .int .i64 (i : Nat)) rfl (by kernel_rfl) (by kernel_rfl) (by kernel_rfl) (fun _ _ _ h => h) (Or.inl ⟨by rfl, ?_⟩) (by assumption) ?_
                · intro u' hSu
                  (try simp only [List.getElem_toArray, List.getElem_cons_zero, List.getElem_cons_succ])
                  go_simp
                (try simp only [List.getElem_toArray, List.getElem_cons_zero, List.getElem_cons_succ])
                (try simp only [Act.put, List.setIfInBounds_toArray, List.set_cons_zero, List.set_cons_succ])
                refine wpAnyH_take (i := 9) (oi := _) (v := .pointer (some ⟨w3.heap.size, i, none⟩)) rfl (by kernel_rfl) (by kernel_rfl) (by kernel_rfl) (fun _ _ _ h => h) (Or.inl ⟨by rfl, ?_⟩) (by assumption) ?_
                · intro u' hSu
                  (try simp only [List.getElem_toArray, List.getElem_cons_zero, List.getElem_cons_succ])
                  go_simp
                (try simp only [List.getElem_toArray, List.getElem_cons_zero, List.getElem_cons_succ])
                (try simp only [Act.put, List.setIfInBounds_toArray, List.set_cons_zero, List.set_cons_succ])
                refine wpAnyH_take (i := 10) (oi := _) (v := .int .i64 (c : Nat)) rfl (by kernel_rfl) (by kernel_rfl) (by kernel_rfl) (fun _ _ _ h => h) (Or.inl ⟨by rfl, ?_⟩) (by assumption) ?_
                · intro u' hSu
                  (try simp only [List.getElem_toArray, List.getElem_cons_zero, List.getElem_cons_succ])
                  obtain ⟨s0, s1, s2, s3⟩ := hSu
                  go_simp
                (try simp only [List.getElem_toArray, List.getElem_cons_zero, List.getElem_cons_succ])
                (try simp only [Act.put, List.setIfInBounds_toArray, List.set_cons_zero, List.set_cons_succ])
                refine wpAnyH_ready (rs := [5]) (by kernel_rfl) (by simp) (AllReadyH.cons rfl ?_ (AllReadyH.nil))
                · intro K' hK'
                  (try simp only [List.getElem_toArray, List.getElem_cons_zero, List.getElem_cons_succ])
                  go_simp
                  refine (HOF.out _).mono ?_
                  rintro e u1 ⟨rfl, hb⟩
                  replace HB7 := hid (HB7.out.trans (hb.mono HB7.out.size))
                  refine hK'.out _ _ (HELD.out _ HB7.out) (fun hSe => ?_)
                  clear hK' K' hSd
                  have hSd := hSe
                  clear hSe hb
                  (try simp only [List.getElem_toArray, List.getElem_cons_zero, List.getElem_cons_succ])
                  (try simp only [Act.put, List.setIfInBounds_toArray, List.set_cons_zero, List.set_cons_succ])
                  refine wpAnyH_ready (rs := [6]) (by kernel_rfl) (by simp) (AllReadyH.cons rfl ?_ (AllReadyH.nil))
                  · intro K' hK'
                    (try simp only [List.getElem_toArray, List.getElem_cons_zero, List.getElem_cons_succ])
                    go_simp
                    refine (HMU.out _).mono ?_
                    rintro e u2 ⟨rfl, hb⟩
                    replace HB7 := hid (HB7.out.trans (hb.mono HB7.out.size))
                    refine hK'.out _ _ (HELD.out _ HB7.out) (fun hSe => ?_)
                    clear hK' K' hSd
                    have hSd := hSe
                    clear hSe hb
                    (try simp only [List.getElem_toArray, List.getElem_cons_zero, List.getElem_cons_succ])
                    (try simp only [Act.put, List.setIfInBounds_toArray, List.set_cons_zero, List.set_cons_succ])
                    refine wpAnyH_ready (rs := [11]) (by kernel_rfl) (by simp) (AllReadyH.cons rfl ?_ (AllReadyH.nil))
                    · intro K' hK'
                      (try simp only [List.getElem_toArray, List.getElem_cons_zero, List.getElem_cons_succ])
                      go_simp
                      refine (HOC.out _).mono ?_
                      rintro e u3 ⟨rfl, hb⟩
                      replace HB7 := hid (HB7.out.trans (hb.mono HB7.out.size))
                      refine hK'.out _ _ (HELD.out _ HB7.out) (fun hSe => ?_)
                      clear hK' K' hSd
                      have hSd := hSe
                      clear hSe hb
                      (try simp only [List.getElem_toArray, List.getElem_cons_zero, List.getElem_cons_succ])
                      (try simp only [Act.put, List.setIfInBounds_toArray, List.set_cons_zero, List.set_cons_succ])
                      refine wpAnyH_take (i := 12) (oi := _) (v := .bool false) rfl (by kernel_rfl) (by kernel_rfl) (by kernel_rfl) (fun _ _ _ h => h) (Or.inl ⟨by rfl, ?_⟩) (by assumption) ?_
                      · intro u' hSu
                        (try simp only [List.getElem_toArray, List.getElem_cons_zero, List.getElem_cons_succ])
                        go_simp
                      (try simp only [List.getElem_toArray, List.getElem_cons_zero, List.getElem_cons_succ])
                      (try simp only [Act.put, List.setIfInBounds_toArray, List.set_cons_zero, List.set_cons_succ])
                      refine wpAnyH_done (by kernel_rfl) ?_ _
                      go_wp2
                      go_roundw
                      case rel => exact ⟨i + 1, by omega, by go_num, HB7⟩
                      case measure => simp [intOf]; omega
              · obtain rfl : i = l.length := by omega
                go_wp2
                go_ret
                exact ⟨rfl, HB3.out.trans ((HB.out.trans (HB7.out.mono HB.out.size)).mono HB3.out.size)⟩
end Go.Proofs.YtnnfmfdjgdgdhaaDoor


/- A lifting that hands on the world's shape beside what the row lists; fractions opened and shut. -/
namespace Go.Proofs.YtnnfmfdjgdgdhaaDoor
open Go.ChangeShapes Go.WideShapes Go.ChangeAt Go.RowKit

theorem lift_shaped {H : Type} {enc : TypeId × Value → H} {a : Assume} {C : Checked} {os : Os} {f : FuncId} {fn : Func} {s : ChangeSpec} {conds : List PathCond} {apart fresh handsOn again : Bool} {X : World → Array Value → Prop}
    (hX : ∀ (w w' : World) (args : Array Value), w.heap = w'.heap → X w args → X w' args)
    (own : ownKnob C.prog.godebug = none) (started : os.Started) (noInit : C.prog.inits.idxOf? f = none) (hfn : C.prog.funcs[f]? = some fn)
    (witness : ∃ (w : World) (tape : Tape) (i : Input), w.os = os ∧ (w.forCall tape i).Shaped C.prog ∧ i.vars = [] ∧ Input.okWide C.prog (w.forCall tape i) .any w.heap.size f i ∧
      ((s.pre enc C.prog fn conds apart (w.forCall tape i).memory i.args ∧ X (w.forCall tape i).memory i.args) ∧ sizedMet enc C.prog fn (OpenSpec.ofChange s) apart (w.forCall tape i).memory i.args) ∧ a.holds C.prog (lone (Frame.enter C.prog f i.args .normal) [] (w.forCall tape i)))
    (walk : ∀ (W : World) (base : Nat) (args : Array Value) (ds gs : List (DataW H)) (before : List MemPlace),
      (∀ (j : Nat) t v, fn.params[j]? = some t → args[j]? = some v → Value.okWide C.prog W .any base t v) →
      DataW.Whole enc C.prog fn.params.toList s.vars apart W args.toList ds gs before →
      (DataW.weightsEach C.prog (fn.params.toList ++ s.plain.varTypes C.prog) (ds ++ gs)).all (· ≤ reachBytes) = true → X W args → W.ShapedOpen C.prog →
      Calls C.prog f args W fun e W' => ∃ v, e = .returned v ∧ s.post enc C.prog fn apart fresh handsOn again W args v W') :
    ReturnsInHanded a C os f .any (fun w args => (s.pre enc C.prog fn conds apart w args ∧ X w args) ∧ sizedMet enc C.prog fn (OpenSpec.ofChange s) apart w args) (s.post enc C.prog fn apart fresh handsOn again) := by
  refine returnsInHanded_of_calls own started noInit witness ?_
  intro w tape i _ hsh _ hok hpre _
  obtain ⟨_, _, _, fn', hfn', _, _, _, _, hval⟩ := hok
  obtain rfl : fn' = fn := Option.some.inj (hfn'.symm.trans hfn)
  obtain ⟨⟨⟨ds, gs, before, hw, _⟩, hx⟩, hz⟩ := hpre
  refine (walk (w.forCall tape i) w.heap.size i.args ds gs before hval (DataW.Whole.of_heap (w' := w.forCall tape i) (by rfl) hw) (hz.weights hw) (hX _ _ _ (by rfl) hx) hsh).mono fun e W' ⟨v, he, hp⟩ => ?_
  subst he
  exact ChangeSpec.post_blind hp

theorem cellsF : Tryd.prog.cellsOf 30 = 3 := by kernel_rfl
theorem cellsB : Tryd.prog.cellsOf 4 = 1 := by kernel_rfl
theorem cellsN : Tryd.prog.cellsOf 28 = 1 := by kernel_rfl
set_option maxRecDepth 100000 in
theorem open_frac {H : Type} {enc : TypeId × Value → H} {W : World} {r : Reach} {b0 base : Nat} {sp : Nat → Bool} {held : Bool} {v : Value} {d : DataW H} {p : List MemPlace} (hval : Value.okWide Tryd.prog W r b0 30 v) (h : DataW.Trod enc Tryd.prog W base sp held 30 v d p) :
    ∃ (n : Bool) (x y : ByteArray), v = .agg #[.bool n, .string x, .string y] ∧ d = .agg [.lit (.bool n), .lit (.string x.data.toList), .lit (.string y.data.toList)] ∧ p = [] ∧ x.size ≤ maxLen ∧ y.size ≤ maxLen := by
  obtain ⟨cs, rfl, hsz⟩ := okWide_struct Tryd.underlying30 hval
  rw [cellsF] at hsz
  obtain ⟨l⟩ := cs
  match l, hsz with
  | [c0, c1, c2], _ =>
    obtain ⟨fuel, hf⟩ := h
    obtain ⟨y0, y1, y2, m, hx, _, hy0, hy1, hy2⟩ := Deep.trod_struct3 Tryd.underlying30 hf
    obtain ⟨n, e0, rfl⟩ := DataW.trod_bool Tryd.underlying4 hy0
    obtain ⟨x, e1, rfl, hx1⟩ := DataW.trod_string Tryd.underlying28 hy1
    obtain ⟨y, e2, rfl, hx2⟩ := DataW.trod_string Tryd.underlying28 hy2
    simp [Value.cells, cellsB, cellsN] at e0 e1 e2
    subst e0 e1 e2
    simp only [Prod.mk.injEq] at hx
    exact ⟨n, x, y, rfl, hx.1, by simpa using hx.2, hx1, hx2⟩
set_option maxRecDepth 100000 in
theorem shut_frac {H : Type} {enc : TypeId × Value → H} {W : World} {base : Nat} {sp : Nat → Bool} {held : Bool} {n : Bool} {x y : ByteArray} (hx : x.size ≤ maxLen) (hy : y.size ≤ maxLen) :
    DataW.Trod enc Tryd.prog W base sp held 30 (.agg #[.bool n, .string x, .string y]) (.agg [.lit (.bool n), .lit (.string x.data.toList), .lit (.string y.data.toList)]) [] := ⟨2, by
  have f0 : DataW.trod enc Tryd.prog W base sp held 1 4 [.bool n] = some (.lit (.bool n), []) := by simp [DataW.trod, Tryd.underlying4]
  have f1 : DataW.trod enc Tryd.prog W base sp held 1 28 [.string x] = some (.lit (.string x.data.toList), []) := by simp [DataW.trod, Tryd.underlying28, hx]
  have f2 : DataW.trod enc Tryd.prog W base sp held 1 28 [.string y] = some (.lit (.string y.data.toList), []) := by simp [DataW.trod, Tryd.underlying28, hy]
  have := Deep.trod_struct3_mk (enc := enc) (w := W) (base := base) (spare := sp) (held := held) (n := 1) (cs := [.bool n, .string x, .string y]) Tryd.underlying30 (by simp [cellsF]) (by simpa [cellsB] using f0) (by simpa [cellsN] using f1) (by simpa [cellsN] using f2)
  simpa [Value.cells] using this⟩
theorem sized_frac {H : Type} {ts : List TypeId} {ds : List (DataW H)} (h : (DataW.weightsEach Tryd.prog ts ds).all (· ≤ reachBytes) = true) {j : Nat} {n : Bool} {x y : ByteArray} (ht : ts[j]? = some 30) (hd : ds[j]? = some (.agg [.lit (.bool n), .lit (.string x.data.toList), .lit (.string y.data.toList)])) : x.size ≤ 140737488355328 ∧ y.size ≤ 140737488355328 := by
  have h1 := List.all_eq_true.1 h _ (DataW.weights_mem_each ht hd x.data.toList.length (by simp [DataW.weights, Tryd.underlying30, DataW.weightsEach]))
  have h2 := List.all_eq_true.1 h _ (DataW.weights_mem_each ht hd y.data.toList.length (by simp [DataW.weights, Tryd.underlying30, DataW.weightsEach]))
  have h1' : x.data.toList.length ≤ reachBytes := by simpa using h1
  have h2' : y.data.toList.length ≤ reachBytes := by simpa using h2
  rw [bytes_len] at h1' h2'
  simp only [reachBytes] at h1' h2'
  constructor <;> omega
end Go.Proofs.YtnnfmfdjgdgdhaaDoor


/- A slice of fractions that came in, opened. -/
namespace Go.Proofs.YtnnfmfdjgdgdhaaDoor
open Go.ChangeShapes Go.WideShapes Go.ChangeAt Go.RowKit

theorem cell_lt {w : World} {a : Addr} {v : Value} (h : w.cell? a = some v) : a.block < w.heap.size := by
  rcases Nat.lt_or_ge a.block w.heap.size with h1 | h1
  · exact h1
  · simp [World.cell?, Array.getElem?_eq_none h1] at h
/-- What a fraction reads as. -/
def fd {H : Type} (f : Fr) : DataW H := .agg [.lit (.bool f.1), .lit (.string f.2.1.data.toList), .lit (.string f.2.2.data.toList)]
set_option maxRecDepth 100000 in
theorem open_fracs {H : Type} {enc : TypeId × Value → H} {W : World} {r : Reach} {b0 : Nat} {v : Value} {d : DataW H} {p : List MemPlace} (hval : Value.okWide Tryd.prog W r b0 23 v) (h : DataW.Trod enc Tryd.prog W 0 (fun _ => true) true 23 v d p) :
    ∃ (a : Option Addr) (cap : Nat) (l : List Fr), v = .slice a l.length cap ∧ FrS W a l ∧ ((d = .nil ∧ l = []) ∨ ∃ rest, d = .slice (l.map fd) rest) := by
  obtain ⟨a, len, cap, rfl⟩ := okWide_slice Tryd.underlying23 hval
  obtain ⟨fuel, hf⟩ := h
  rcases Deep.open_slice Tryd.underlying23 hf with ⟨hcs, hx⟩ | ⟨a', len', cap', m, n, D, Pl, hcs, hb, hl, hm, hmm, hx, hel⟩
  · simp [Value.cells] at hcs
    obtain ⟨rfl, rfl, rfl⟩ := hcs
    simp only [Prod.mk.injEq] at hx
    exact ⟨none, 0, [], rfl, fun k hk => absurd hk (by simp), .inl ⟨hx.1, rfl⟩⟩
  · simp [Value.cells] at hcs
    obtain ⟨rfl, rfl, rfl⟩ := hcs
    simp only [Prod.mk.injEq] at hx
    have hlm : len ≤ m := by rw [hmm]; split <;> omega
    rw [cellsF] at hel
    have each : ∀ i, i < len → ∃ f : Fr, (W.cell? (a'.add (i * 3)) = some (.bool f.1) ∧ W.cell? (a'.add (i * 3 + 1)) = some (.string f.2.1) ∧ W.cell? (a'.add (i * 3 + 2)) = some (.string f.2.2)) ∧ D i = fd f := by
      intro i hi
      obtain ⟨cs', h1, h2⟩ := hel i (by omega)
      obtain ⟨_, hlen, hcell⟩ := World.cells?_some h1
      match cs', hlen with
      | [c0, c1, c2], _ =>
        obtain ⟨y0, y1, y2, k, hxx, _, hy0, hy1, hy2⟩ := Deep.trod_struct3 Tryd.underlying30 h2
        obtain ⟨nn, e0, rfl⟩ := DataW.trod_bool Tryd.underlying4 hy0
        obtain ⟨x, e1, rfl, hx1⟩ := DataW.trod_string Tryd.underlying28 hy1
        obtain ⟨y, e2, rfl, hx2⟩ := DataW.trod_string Tryd.underlying28 hy2
        simp [cellsB, cellsN] at e0 e1 e2
        subst e0 e1 e2
        simp only [Prod.mk.injEq] at hxx
        have g0 := hcell 0 (by omega)
        have g1 := hcell 1 (by omega)
        have g2 := hcell 2 (by omega)
        rw [Deep.add_add] at g0 g1 g2
        exact ⟨(nn, x, y), ⟨by simpa using g0, by simpa using g1, by simpa using g2⟩, hxx.1⟩
    obtain ⟨f, hf2⟩ := Deep.choose_lt (α := Fr) each
    refine ⟨some a', cap, (List.range len).map f, by simp, ?_, .inr ⟨(List.range (m - len)).map fun j => D (len + j), ?_⟩⟩
    · intro k hk
      have hk' : k < len := by simpa using hk
      obtain ⟨⟨g0, g1, g2⟩, _⟩ := hf2 k hk'
      obtain ⟨⟨z0, _, _⟩, _⟩ := hf2 0 (by omega)
      have hsp := World.cell?_spot z0
      obtain ⟨bb, oo, sp⟩ := a'
      rw [Nat.zero_mul] at hsp
      simp [Addr.add] at hsp
      subst hsp
      rw [WideShapes.add_plain] at g0 g1 g2
      refine ⟨bb, oo, rfl, cell_lt g0, ?_, ?_, ?_⟩
      · simpa using g0
      · simpa [Nat.add_assoc] using g1
      · simpa [Nat.add_assoc] using g2
    · rw [hx.1]
      congr 1
      rw [List.map_map]
      exact List.map_congr_left fun i hi => (hf2 i (List.mem_range.1 hi)).2

theorem weights_all {H : Type} {P : Program} {e : TypeId} {n : Nat} : ∀ {l : List (DataW H)} {d : DataW H}, d ∈ l → n ∈ d.weights P e → n ∈ DataW.weightsAll P e l
  | x :: l, d, hd, hn => by
    simp only [DataW.weightsAll, List.mem_append]
    rcases List.mem_cons.1 hd with rfl | hd
    · exact .inl hn
    · exact .inr (weights_all hd hn)
theorem bytesF : Tryd.prog.bytesOf 30 = 40 := by kernel_rfl
theorem sized_fracs {H : Type} {ts : List TypeId} {ds : List (DataW H)} (h : (DataW.weightsEach Tryd.prog ts ds).all (· ≤ reachBytes) = true) {j : Nat} {l : List Fr} {rest : List (DataW H)} (ht : ts[j]? = some 23) (hd : ds[j]? = some (.slice (l.map fd) rest)) :
    l.length ≤ 140737488355328 ∧ ∀ f ∈ l, f.2.1.size ≤ 140737488355328 ∧ f.2.2.size ≤ 140737488355328 := by
  constructor
  · have h1 := List.all_eq_true.1 h _ (DataW.weights_mem_each ht hd (((l.map (fd (H := H))).length + rest.length) * Tryd.prog.bytesOf 30) (by simp [DataW.weights, Tryd.underlying23]))
    have h1' : ((l.map (fd (H := H))).length + rest.length) * Tryd.prog.bytesOf 30 ≤ reachBytes := by simpa using h1
    rw [bytesF, List.length_map] at h1'
    simp only [reachBytes] at h1'
    omega
  · intro f hf
    have hin : ∀ n, n ∈ (fd (H := H) f).weights Tryd.prog 30 → n ≤ reachBytes := fun n hn => by
      have := List.all_eq_true.1 h _ (DataW.weights_mem_each ht hd n (by
        simp only [DataW.weights, Tryd.underlying23, List.mem_cons, List.mem_append]
        exact .inr (.inl (weights_all (List.mem_map_of_mem hf) hn))))
      simpa using this
    have a1 := hin f.2.1.data.toList.length (by simp [fd, DataW.weights, Tryd.underlying30, DataW.weightsEach])
    have a2 := hin f.2.2.data.toList.length (by simp [fd, DataW.weights, Tryd.underlying30, DataW.weightsEach])
    rw [bytes_len] at a1 a2
    simp only [reachBytes] at a1 a2
    constructor <;> omega
end Go.Proofs.YtnnfmfdjgdgdhaaDoor

