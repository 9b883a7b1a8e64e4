/- power and Power of package chain. -/
import Derived.Test.YtbejijgelljeaaaGreatDoorPowBPw
namespace Go.Proofs.YtbejijgelljeaaaGreatDoor
open Go.RowKit Go.Shelf
theorem sz_pow (D : Nat) : ∀ t, (B (D ^ t)).size ≤ t * (B D).size + 1
  | 0 => by have := B_one_size; rw [Nat.pow_zero]; omega
  | t + 1 => by
    have h1 := sz_pow D t
    have h2 := sz_mul (D ^ t) D
    rw [Nat.pow_succ, Nat.add_mul]
    omega
theorem pow_fits {n D k c : Nat} {P : Nat → Nat → Rat} {Cn : Nat → Nat → Nat} (hD : D ≠ 0) (hc : Chn n P) (h : ∀ i j, i < n → j < n → ((Cn i j : Nat) : Rat) = P i j * (D : Rat)) (hs : (B D).size ≤ c) {i j : Nat} (hi : i < n) (hj : j < n) : Fits (k * c + 1) (powQ n P k i j) := by
  have h1 := sz_pow D k
  have h2 : k * (B D).size ≤ k * c := Nat.mul_le_mul_left _ hs
  have h3 := B_lt (D ^ k)
  have h4 : 256 ^ (B (D ^ k)).size ≤ 256 ^ (k * c + 1) := pow_mono (by omega)
  refine ⟨((rowN n Cn k i j : Nat) : Int), D ^ k, Nat.ne_of_gt (Nat.pow_pos (Nat.pos_of_ne_zero hD)), (row_is hD h hi hj k).symm, by omega, ?_⟩
  have h5 := row_le hc h hi hj k
  rw [Int.natAbs_natCast]
  omega
theorem EqS.fs {B n G : Nat} {g c : Nat → Nat} {M : Nat → Nat → Rat} {U : World} (h : EqS B n n G g c M U) : FsS U (some ⟨G, 0, none⟩) (mR n M) := fun k hk => by
  have hk' : k < n := by rw [mR_length] at hk; exact hk
  have hl : (mR n M)[k].length = n := by rw [mR_get, lF_length]
  have hb := (h.row k hk').block
  refine ⟨G, 0, some ⟨g k, 0, none⟩, c k, rfl, h.top.lt, ?_, ?_, ?_⟩
  · rw [Nat.zero_add, hl]; exact h.slice hk'
  · rw [mR_get]; exact (h.row k hk').fr
  · rw [hl]; exact hb.2.1
theorem RwN.past {w U U' : World} {n m G k Mk j g : Nat} {gs c : Nat → Nat} {M : Nat → Nat → Rat} {v v' : Value} {l : List Nat} (h : RwN U g l) (hk : HgS w n m G k Mk gs c M v j U) (hg : U.grownBy U' v.ownBlock) (hM : g < Mk) (hG : G ≠ g) : RwN (U'.setCell ⟨G, k, none⟩ v') g l := by
  have h1 : U'.heap[g]? = U.heap[g]? := hg.block g h.lt fun e => by have := hk.cur.own g e.symm; omega
  exact ((Below.heap_setCell U' ⟨G, k, none⟩ v' g (Ne.symm hG)).trans h1).trans h
set_option maxRecDepth 100000 in
set_option maxHeartbeats 4000000 in
theorem chPower_in (a : Option Addr) (ca n F k : Nat) (P : Nat → Nat → Rat) (R : List (List Fr)) (w : World) (hR : FsS w a R) (hW : RaW n F P R) (h1 : 1 ≤ n) (hn : n ≤ 100) (hk : k ≤ 16) (hF : 1 + (2 * F + 2) * (n * n) ≤ 60000) (hc : Chn n P) :
    Calls Tryz.prog 51 #[.slice a n ca, .int .i64 (k : Nat)] w fun e w' => ∃ G, e = .returned (.slice (some ⟨G, 0, none⟩) n n) ∧ FsS w' (some ⟨G, 0, none⟩) (mR n (powQ n P k)) ∧ (∀ i j, i < n → j < n → Fits (k * (1 + (2 * F + 2) * (n * n)) + 1) (powQ n P k i j)) ∧ Below w.heap.size w w' := by
  obtain ⟨i0, hi0, hz0, hz1, hz2⟩ := info_parts Tryz.infoFracs
  obtain ⟨i1, hi1, hy0, hy1, hy2⟩ := info_parts Tryz.infoNat
  have hF4 : F ≤ 40000 := by
    have h8 : (2 * F + 2) * 1 ≤ (2 * F + 2) * (n * n) := Nat.mul_le_mul_left _ (Nat.mul_le_mul h1 h1)
    omega
  have HIP := hid (chInParts_any a ca n F P R w hR hW h1 hn hF4 hc.low)
  have HC := hid hc
  have HF2 : Hid (2 * F + 2 ≤ 60000) := by
    have h8 : (2 * F + 2) * 1 ≤ (2 * F + 2) * (n * n) := Nat.mul_le_mul_left _ (Nat.mul_le_mul h1 h1)
    show _ ≤ _
    omega
  have HO1 := hid (fun V : World => Of_any 1 V (by omega) (by omega))
  obtain ⟨S, hS⟩ : ∃ S, 1 + (2 * F + 2) * (n * n) = S := ⟨_, rfl⟩
  rw [hS] at HIP hF ⊢
  clear hR hW hc hF4 hS
  go_enter Tryz.func51, Tryz.ntmps51
  go_wp2_with fail
  refine HIP.out.mono ?_
  rintro e w1 ⟨Gc, D, Cn, rfl, hct, hDp, hDs, hcn, hb1⟩
  have HB1 := hid hb1
  have HCT := hid hct
  have HCN : Hid (∀ i j, i < n → j < n → ((Cn i j : Nat) : Rat) = P i j * (D : Rat)) := fun i j hi hj => (hcn i j hi hj).1
  have HCS : Hid (∀ i j, i < n → j < n → (B (Cn i j)).size ≤ 1000000) := fun i j hi hj => by
    have h8 := (hcn i j hi hj).2
    have h9 : 2 * F + 2 ≤ 60000 := HF2.out
    omega
  have hD0 : D ≠ 0 := Nat.ne_of_gt hDp
  have HPW : Hid (∀ t, t ≤ 16 → (B (D ^ t)).size ≤ 1000000) := fun t ht => by
    have h8 := sz_pow D t
    have h9 : t * (B D).size ≤ 16 * 60000 := Nat.mul_le_mul ht (by omega)
    omega
  have HFT : Hid (∀ i j, i < n → j < n → Fits (k * S + 1) (powQ n P k i j)) := fun i j hi hj => pow_fits hD0 HC.out HCN.out hDs hi hj
  have HRS : Hid (∀ t i j, t ≤ 16 → i < n → j < n → (B (rowN n Cn t i j)).size ≤ 1000000) := fun t i j ht hi hj => Nat.le_trans (sz_mono (row_le HC.out HCN.out hi hj t)) (HPW.out t ht)
  have HPS : Hid (∀ t i x j, t + 1 ≤ 16 → i < n → x ≤ n → j < n → (B (sumN (fun s => rowN n Cn t i s * Cn s j) x)).size ≤ 1000000) := fun t i x j ht hi hx hj => Nat.le_trans (sz_mono (sumN_part hx)) (HRS.out (t + 1) i j ht hi hj)
  have HMK0 : Hid (∀ i j, i < n → j < n → ∀ U : World, Calls Tryz.prog 62 #[.bool false, .string (B (rowN n Cn k i j)), .string (B (D ^ k))] U fun e w' => e = .returned (.agg #[.bool (qF (powQ n P k i j)).1, .string (qF (powQ n P k i j)).2.1, .string (qF (powQ n P k i j)).2.2]) ∧ Below U.heap.size U w') := fun i j hi hj U => by
    have h9 := Make_any false (B (rowN n Cn k i j)) (B (D ^ k)) U (Nat.le_trans (HRS.out k i j hk hi hj) (by omega)) (Nat.le_trans (HPW.out k hk) (by omega))
    have e9 : val false (B (rowN n Cn k i j)) (B (D ^ k)) = powQ n P k i j := by
      rw [← row_is hD0 HCN.out hi hj k]
      show mkRat (sg false (N (B (rowN n Cn k i j)))) (N (B (D ^ k))) = _
      rw [N_B, N_B]
      rfl
    rw [e9] at h9
    exact h9
  have HDB : Hid ((B D).size ≤ 1000000) := by show _ ≤ _; omega
  clear hb1 hct hcn hDs HIP hF HF2
  go_wp2_with fail
  refine (HO1.out _).mono ?_
  rintro e w2 ⟨rfl, hb2⟩
  rw [show (1 : Int).toNat = 1 from rfl]
  have HB2 := hid (HB1.out.trans (hb2.mono HB1.out.size))
  have HC2 := hid (HCT.out.below hb2)
  clear hb2 HCT HB1
  obtain ⟨W, hW⟩ : ∃ x, x = w2 := ⟨_, rfl⟩
  have HBW : Hid (Below W.heap.size W w2) := by rw [hW]; exact Below.refl _ _
  rw [← hW] at HB2 HC2
  clear hW
  go_wp2_with fail
  go_loopw [7, 20] (fun sv tv wr => ∃ t : Nat, t ≤ k ∧ tv = .int .i64 t ∧ sv = .string (B (D ^ t)) ∧ Hid (Below W.heap.size W wr)) (fun _ tv _ => k - (intOf tv).toNat)
  case atStart => exact ⟨0, Nat.zero_le _, rfl, rfl, HBW⟩
  case round =>
    obtain ⟨t, ht, rfl, rfl, HB⟩ := hrel
    clear HBW
    by_cases hlt : t < k
    · have HMU : Hid (∀ U : World, Calls Tryz.prog 75 #[.string (B (D ^ t)), .string (B D)] U fun e w' => e = .returned (.string (B (D ^ (t + 1)))) ∧ Below U.heap.size U w') := fun U => by
        have h9 := Mul_any (B (D ^ t)) (B D) U (Nat.le_trans (HPW.out t (by omega)) (by omega)) (Nat.le_trans HDB.out (by omega))
        rw [N_B, N_B] at h9
        exact h9
      go_wp2_with fail
      refine (HMU.out _).mono ?_
      rintro e w3 ⟨rfl, hb⟩
      have HB3 := hid (HB.out.trans (hb.mono HB.out.size))
      clear hb HB HMU
      go_wp2
      go_roundw
      case rel => exact ⟨t + 1, by omega, by go_num, rfl, HB3⟩
      case measure => simp [intOf]; omega
    · obtain rfl : k = t := by omega
      generalize hwb : B (D ^ k) = wb at *
      clear hwb
      have HBw := hid (HB2.out.trans (HB.out.mono HB2.out.size))
      have HCt3 := hid (HC2.out.below HB.out)
      clear HB2 HC2 HB
      obtain ⟨W3, hW3⟩ : ∃ x, x = wr := ⟨_, rfl⟩
      rw [← hW3] at HBw HCt3
      have HWW : Hid (Below W3.heap.size W3 wr) := by rw [hW3]; exact Below.refl _ _
      have HSZ : Hid (W3.heap.size ≤ wr.heap.size) := HWW.out.size
      have HEQ : Hid (W3 = wr) := hW3
      clear hW3
      go_upto_region 8 with (at_make; refine wpList_make_full _ rfl _ _ 24 rfl W3.heap.size 27 i0 (.slice none 0 0) 1 Tryz.underlying24 hi0 hz0 hz1 .i64 .i64 _ _ n rfl rfl (by go_num) (by go_num) (by rw [hz2]; omega) (by unfold maxLen; omega) HSZ.out ?_; intro w4 hown2 hgrow2)
      have hb2 := block_of_own hown2
      rw [made_slices] at hb2
      rw [← HEQ.out] at hgrow2 hb2
      have hB2 : Below W3.heap.size W3 w4 := (Below.refl _ W3).grown hgrow2 (Nat.le_refl _) (fun k e => by cases e)
      have HK0 : Hid (HfS W3 n n W3.heap.size 0 (fun _ => 0) (fun _ => 0) (powQ n P k) w4) := by
        refine ⟨?_, fun t h => absurd h (by omega), fun t t' h => absurd h (by omega), Nat.le_refl _, hB2⟩
        have e : tpV n 0 n (fun _ => 0) (fun _ => 0) (.slice none 0 0) = List.replicate n (.slice none 0 0) := List.ext_getElem (by simp [tpV]) fun i _ _ => by simp [tpV]
        rw [e]
        exact hb2
      rw [← HEQ.out]
      clear hown2 hgrow2 hb2 hB2 HWW HSZ HEQ
      obtain ⟨G, hG⟩ : ∃ G, W3.heap.size = G := ⟨_, rfl⟩
      rw [hG] at HK0
      simp only [hG]
      clear hG
      go_wp2_with fail
      go_loopw [31] (fun iv wr => ∃ (i : Nat) (g c : Nat → Nat), i ≤ n ∧ iv = .int .i64 i ∧ Hid (HfS W3 n n G i g c (powQ n P k) wr)) (fun iv _ => n - (intOf iv).toNat)
      case atStart => exact ⟨0, _, _, Nat.zero_le _, rfl, HK0⟩
      case round =>
        obtain ⟨i, g, c, hi, rfl, HKf⟩ := hrel
        clear HK0
        by_cases hlt : i < n
        · have hGlt := HKf.out.top.lt
          go_upto_region 12 with (at_make; refine wpList_make_full _ rfl _ _ 100 rfl wr.heap.size 31 i1 (.string ⟨#[]⟩) 1 Tryz.underlying100 hi1 hy0 hy1 .i64 .i64 _ _ n rfl rfl (by go_num) (by go_num) (by rw [hy2]; omega) (by unfold maxLen; omega) (Nat.le_refl _) ?_; intro w5 hown2 hgrow2)
          have hb2 := block_of_own hown2
          rw [made_nats] at hb2
          have hB2 : Below wr.heap.size wr w5 := (Below.refl _ wr).grown hgrow2 (Nat.le_refl _) (fun k e => by cases e)
          have HN0 : Hid (MN wr wr.heap.size (lN n fun _ => 0) w5) := ⟨hb2, hB2⟩
          clear hown2 hgrow2 hb2 hB2
          obtain ⟨W5, hW5⟩ : ∃ x, x = wr := ⟨_, rfl⟩
          rw [← hW5] at HN0 HKf hGlt
          rw [← hW5]
          clear hW5
          obtain ⟨gN, hgN⟩ : ∃ x, W5.heap.size = x := ⟨_, rfl⟩
          have HN1 : Hid (MN W5 gN (lN n fun _ => 0) w5) := by rw [← hgN]; exact HN0.out
          have hgW : W5.heap.size ≤ gN := Nat.le_of_eq hgN
          simp only [hgN]
          rw [hgN] at hGlt
          clear HN0 hgN
          go_wp2_with fail
          refine (HO1.out _).mono ?_
          rintro e w6 ⟨rfl, hb⟩
          rw [show (1 : Int).toNat = 1 from rfl]
          have HN2 := hid (HN1.out.step hb)
          have HN3 := hid (HN2.out.put hgW i 1)
          have q0 := HN2.out.row.cell i (by rw [lN_length]; exact hlt)
          have q1 := HN2.out.row.fz i
          rw [lN_set] at HN3
          clear hb HN1
          go_upto_region 13 with fail
          clear q0 q1 HN2
          generalize (w6.setCell ⟨gN, i, none⟩ (.string (B 1))) = w7 at *
          have HNr : Hid (RwN w7 gN (lN n (rowN n Cn 0 i))) := HN3.out.row
          have HKf2 := hid (HKf.out.step HN3.out.bel)
          have HGg : Hid (G < gN) := hGlt
          clear HN3 HKf hgW hGlt
          go_wp2_with fail
          go_loopw [10, 42] (fun sv tv wr => ∃ t gN : Nat, t ≤ k ∧ tv = .int .i64 t ∧ sv = .slice (some ⟨gN, 0, none⟩) n n ∧ Hid (G < gN) ∧ Hid (RwN wr gN (lN n (rowN n Cn t i))) ∧ Hid (HfS W3 n n G i g c (powQ n P k) wr)) (fun _ tv _ => k - (intOf tv).toNat)
          case atStart => exact ⟨0, gN, Nat.zero_le _, rfl, rfl, HGg, HNr, HKf2⟩
          case round =>
            obtain ⟨t, gN, ht, rfl, rfl, HGg, HNr, HKf⟩ := hrel
            clear HKf2
            by_cases hltt : t < k
            · have HGO := hid (chGoOn_any (some ⟨gN, 0, none⟩) (some ⟨Gc, 0, none⟩) n n n (rowN n Cn t i) Cn wr HNr.out.st (HCt3.out.below HKf.out.bel) (by omega) (fun x hx => HRS.out t i x (by omega) hlt hx) HCS.out (fun x y hx hy => HPS.out t i x y (by omega) hlt hx hy))
              go_wp2_with fail
              refine HGO.out.mono ?_
              rintro e w8 ⟨gM, rfl, hgM, hr8, hb⟩
              have HKn := hid (HKf.out.step hb)
              have HR8 : Hid (RwN w8 gM (lN n (rowN n Cn (t + 1) i))) := hr8
              have HGn : Hid (G < gM) := Nat.lt_of_lt_of_le HKf.out.top.lt hgM
              clear hr8 hb hgM HGO HKf HNr HGg
              go_wp2
              go_roundw
              case rel => exact ⟨t + 1, gM, by omega, by go_num, rfl, HGn, HR8, HKn⟩
              case measure => simp [intOf]; omega
            · obtain rfl : k = t := by omega
              have HK1 := hid HKf.out.into
              have HGM0 := hid HNr.out.lt
              clear HKf
              obtain ⟨Mk, hMk⟩ : ∃ x, wr.heap.size = x := ⟨_, rfl⟩
              rw [hMk] at HK1 HGM0
              have HGM : Hid (gN < Mk) := HGM0.out
              have HGN : Hid (G ≠ gN) := Nat.ne_of_lt HGg.out
              clear hMk HGM0
              go_wp2_with fail
              go_loopw [50] (fun jv wr => ∃ j : Nat, j ≤ n ∧ jv = .int .i64 j ∧ ∃ v, Hid (HgS W3 n n G i Mk g c (powQ n P k) v j wr) ∧ Hid (RwN wr gN (lN n (rowN n Cn k i)))) (fun jv _ => n - (intOf jv).toNat)
              case atStart => exact ⟨0, Nat.zero_le _, rfl, _, HK1, HNr⟩
              case round =>
                obtain ⟨j, hj, rfl, v, HK, HN⟩ := hrel
                clear HK1 HNr
                by_cases hlj : j < n
                · have c0 := HN.out.cell j (by rw [lN_length]; exact hlj)
                  rw [lN_get] at c0
                  have HMK := hid (HMK0.out i j hlt hlj)
                  obtain ⟨qf, hqf⟩ : ∃ f : Fr, qF (powQ n P k i j) = f := ⟨_, rfl⟩
                  have HQF := hid hqf
                  rw [hqf] at HMK
                  generalize hcb : B (rowN n Cn k i j) = cb at *
                  obtain ⟨dv, nv, cv, rfl⟩ := HK.out.cur.slv
                  clear hqf hcb
                  go_upto_region 20 with fail
                  clear c0
                  replace HK := hid (HK.out.step (Below.refl _ _).drew)
                  replace HN := hid (HN.out.below (Below.refl _ _).drew HN.out.lt)
                  refine wp_region_until 12 (fun (b : Bool) (u : World) => b = false → u.cell? ⟨G, i, none⟩ = some (.slice dv nv cv)) (by kernel_rfl) (fun _ => HK.out.cell hlt) (fun hSd => ?_)
                  generalize wr.drew = u0 at *
                  refine wpU_take (i := 0) (oi := _) (v := .slice (some ⟨G, 0, none⟩) n n) (b := false) rfl (by kernel_rfl) (by kernel_rfl) (by kernel_rfl) (by decide) (fun _ _ _ h => h) (Or.inl ⟨by rfl, ?_⟩) (by kernel_rfl) (by assumption) ?_
                  · intro u' hSu
                    (try simp only [List.getElem_toArray, List.getElem_cons_zero])
                    go_simp
                  (try simp only [List.getElem_toArray, List.getElem_cons_zero])
                  (try simp only [Act.put, List.setIfInBounds_toArray, List.set_cons_zero, List.set_cons_succ])
                  refine wpU_take (i := 1) (oi := _) (v := .int .i64 (i : Nat)) (b := false) rfl (by kernel_rfl) (by kernel_rfl) (by kernel_rfl) (by decide) (fun _ _ _ h => h) (Or.inl ⟨by rfl, ?_⟩) (by kernel_rfl) (by assumption) ?_
                  · intro u' hSu
                    (try simp only [List.getElem_toArray, List.getElem_cons_zero, List.getElem_cons_succ])
                    go_simp
                  (try simp only [List.getElem_toArray, List.getElem_cons_zero, List.getElem_cons_succ])
                  (try simp only [Act.put, List.setIfInBounds_toArray, List.set_cons_zero, List.set_cons_succ])
                  refine wpU_take (i := 2) (oi := _) (v := .slice (some ⟨G, 0, none⟩) n n) (b := false) rfl (by kernel_rfl) (by kernel_rfl) (by kernel_rfl) (by decide) (fun _ _ _ h => h) (Or.inl ⟨by rfl, ?_⟩) (by kernel_rfl) (by assumption) ?_
                  · intro u' hSu
                    (try simp only [List.getElem_toArray, List.getElem_cons_zero, List.getElem_cons_succ])
                    go_simp
                  (try simp only [List.getElem_toArray, List.getElem_cons_zero, List.getElem_cons_succ])
                  (try simp only [Act.put, List.setIfInBounds_toArray, List.set_cons_zero, List.set_cons_succ])
                  refine wpU_take (i := 3) (oi := _) (v := .int .i64 (i : Nat)) (b := false) rfl (by kernel_rfl) (by kernel_rfl) (by kernel_rfl) (by decide) (fun _ _ _ h => h) (Or.inl ⟨by rfl, ?_⟩) (by kernel_rfl) (by assumption) ?_
                  · intro u' hSu
                    (try simp only [List.getElem_toArray, List.getElem_cons_zero, List.getElem_cons_succ])
                    go_simp
                  (try simp only [List.getElem_toArray, List.getElem_cons_zero, List.getElem_cons_succ])
                  (try simp only [Act.put, List.setIfInBounds_toArray, List.set_cons_zero, List.set_cons_succ])
                  refine wpU_take (i := 4) (oi := _) (v := .pointer (some ⟨G, i, none⟩)) (b := false) rfl (by kernel_rfl) (by kernel_rfl) (by kernel_rfl) (by decide) (fun _ _ _ h => h) (Or.inl ⟨by rfl, ?_⟩) (by kernel_rfl) (by assumption) ?_
                  · intro u' hSu
                    (try simp only [List.getElem_toArray, List.getElem_cons_zero, List.getElem_cons_succ])
                    go_simp
                  (try simp only [List.getElem_toArray, List.getElem_cons_zero, List.getElem_cons_succ])
                  (try simp only [Act.put, List.setIfInBounds_toArray, List.set_cons_zero, List.set_cons_succ])
                  refine wpU_ahead (i := 5) (oi := _) (v := .slice dv nv cv) rfl (by kernel_rfl) (by kernel_rfl) (by kernel_rfl) (by decide) rfl (by kernel_rfl) (fun _ _ _ h => h) (Or.inl ⟨by rfl, ?_⟩) (by kernel_rfl) (by assumption) ?_
                  · intro u' hSu
                    (try simp only [List.getElem_toArray, List.getElem_cons_zero, List.getElem_cons_succ])
                    obtain hS9x := hSu
                    go_simp
                  (try simp only [List.getElem_toArray, List.getElem_cons_zero, List.getElem_cons_succ])
                  (try simp only [Act.put, List.setIfInBounds_toArray, List.set_cons_zero, List.set_cons_succ])
                  refine wpU_take (i := 6) (oi := _) (v := .string cb) (b := false) rfl (by kernel_rfl) (by kernel_rfl) (by kernel_rfl) (by decide) (fun _ _ _ h => h) (Or.inl ⟨by rfl, ?_⟩) (by kernel_rfl) (by assumption) ?_
                  · intro u' hSu
                    (try simp only [List.getElem_toArray, List.getElem_cons_zero, List.getElem_cons_succ])
                    go_simp
                  (try simp only [List.getElem_toArray, List.getElem_cons_zero, List.getElem_cons_succ])
                  (try simp only [Act.put, List.setIfInBounds_toArray, List.set_cons_zero, List.set_cons_succ])
                  refine wpU_take (i := 7) (oi := _) (v := .string wb) (b := false) rfl (by kernel_rfl) (by kernel_rfl) (by kernel_rfl) (by decide) (fun _ _ _ h => h) (Or.inl ⟨by rfl, ?_⟩) (by kernel_rfl) (by assumption) ?_
                  · intro u' hSu
                    (try simp only [List.getElem_toArray, List.getElem_cons_zero, List.getElem_cons_succ])
                    go_simp
                  (try simp only [List.getElem_toArray, List.getElem_cons_zero, List.getElem_cons_succ])
                  (try simp only [Act.put, List.setIfInBounds_toArray, List.set_cons_zero, List.set_cons_succ])
                  refine wpU_ready (rs := [8]) (by kernel_rfl) (by simp) (AllU.cons (b := false) rfl (by kernel_rfl) ?_ (AllU.nil))
                  · intro K' hK'
                    (try simp only [List.getElem_toArray, List.getElem_cons_zero, List.getElem_cons_succ])
                    go_simp
                    refine (HMK.out _).mono ?_
                    rintro e u1 ⟨rfl, hb⟩
                    replace HK := hid (HK.out.step hb)
                    replace HN := hid (HN.out.below hb HN.out.lt)
                    refine hK'.out _ _ (fun _ => HK.out.cell hlt) (fun hSe => ?_)
                    clear hK' K' hSd
                    have hSd := hSe
                    clear hSe
                    clear hb
                    (try simp only [List.getElem_toArray, List.getElem_cons_zero, List.getElem_cons_succ])
                    (try simp only [Act.put, List.setIfInBounds_toArray, List.set_cons_zero, List.set_cons_succ])
                    refine wpU_ready (rs := [9]) (by kernel_rfl) (by simp) (AllU.cons (b := false) rfl (by kernel_rfl) ?_ (AllU.nil))
                    · intro K' hK'
                      (try simp only [List.getElem_toArray, List.getElem_cons_zero, List.getElem_cons_succ])
                      go_simp
                      have hbA := (Below.refl u1.heap.size u1).alloc (Nat.le_refl _) (FC qf.1 qf.2.1 qf.2.2)
                      have HY := hid (Box.new u1 qf.1 qf.2.1 qf.2.2)
                      replace HK := hid (HK.out.step hbA)
                      replace HN := hid (HN.out.below hbA HN.out.lt)
                      clear hbA
                      refine hK'.out _ _ (fun _ => HK.out.cell hlt) (fun hSe => ?_)
                      clear hK' K' hSd
                      have hSd := hSe
                      clear hSe
                      obtain ⟨gy, hgy⟩ : ∃ x, u1.heap.size = x := ⟨_, rfl⟩
                      obtain ⟨Vy, hV⟩ : ∃ x, u1.alloc (FC qf.1 qf.2.1 qf.2.2) = x := ⟨_, rfl⟩
                      rw [hgy] at HY
                      rw [hV] at HY HK HN hSd
                      simp only [hV]
                      simp only [hgy]
                      clear hgy hV
                      (try simp only [List.getElem_toArray, List.getElem_cons_zero, List.getElem_cons_succ])
                      (try simp only [Act.put, List.setIfInBounds_toArray, List.set_cons_zero, List.set_cons_succ])
                      refine wpU_ready (rs := [10]) (by kernel_rfl) (by simp) (AllU.cons (b := false) rfl (by kernel_rfl) ?_ (AllU.nil))
                      · intro K' hK'
                        rw [if_pos (by rfl)]
                        refine wp_append_fr _ _ rfl Mk (.slice dv nv cv) (lF j (powQ n P k i)) qf rfl HK.out.cur gy rfl HY.out (by rw [lF_length]; omega) HK.out.mu ?_
                        intro v2 V8 hr8 hg8
                        obtain ⟨d8, n8, c8, rfl⟩ := hr8.slv
                        have HS8 : Hid (V8.cell? ⟨G, i, none⟩ = some (.slice dv nv cv)) := by
                          show _ = _
                          rw [(HK.out.pre hg8).cell i (by rw [tpV_length]; exact hlt)]
                          simp [tpV]
                        have HF8 : Hid (V8.frozen? ⟨G, i, none⟩ = false) := (HK.out.pre hg8).fz i
                        have HKN := hid (HK.out.push hg8 (by rw [HQF.out]; exact hr8))
                        have HNN := hid (HN.out.past (v' := .slice d8 n8 c8) HK.out hg8 HGM.out HGN.out)
                        refine hK'.out _ _ (fun _ => HS8.out) (fun hSe => ?_)
                        clear hK' K' hSd hr8 hg8 HK HY HN
                        have hSd := hSe
                        clear hSe
                        (try simp only [List.getElem_toArray, List.getElem_cons_zero, List.getElem_cons_succ])
                        (try simp only [Act.put, List.setIfInBounds_toArray, List.set_cons_zero, List.set_cons_succ])
                        refine wpU_take (i := 11) (oi := _) (v := .pointer (some ⟨G, i, none⟩)) (b := false) rfl (by kernel_rfl) (by kernel_rfl) (by kernel_rfl) (by decide) (fun _ _ _ h => h) (Or.inl ⟨by rfl, ?_⟩) (by kernel_rfl) (by assumption) ?_
                        · intro u' hSu
                          (try simp only [List.getElem_toArray, List.getElem_cons_zero, List.getElem_cons_succ])
                          go_simp
                        (try simp only [List.getElem_toArray, List.getElem_cons_zero, List.getElem_cons_succ])
                        (try simp only [Act.put, List.setIfInBounds_toArray, List.set_cons_zero, List.set_cons_succ])
                        have q0 := HS8.out
                        have q1 := HF8.out
                        refine wpU_ready (rs := [12]) (by kernel_rfl) (by simp) (AllU.cons (b := true) rfl (by kernel_rfl) ?_ (AllU.nil))
                        · intro K' hK'
                          (try simp only [List.getElem_toArray, List.getElem_cons_zero, List.getElem_cons_succ])
                          go_simp
                          refine hK'.out _ _ (fun e => by cases e) (fun _ => wpU_done (by kernel_rfl) ?_ _)
                          clear hK' K' hSd q0 q1 HS8 HF8
                          go_wp2
                          go_roundw
                          case rel => exact ⟨j + 1, by omega, by go_num, .slice d8 n8 c8, HKN, HNN⟩
                          case measure => simp [intOf]; omega
                · obtain rfl : n = j := by omega
                  obtain ⟨g', c', hd⟩ := HK.out.done h1
                  have HD := hid hd
                  clear hd HK HN
                  go_wp2
                  go_roundw
                  case rel => exact ⟨i + 1, g', c', by omega, by go_num, HD⟩
                  case measure => simp [intOf]; omega
        · obtain rfl : n = i := by omega
          have HEND := hid HKf.out.all.fs
          have HBE := hid (HBw.out.trans (HKf.out.bel.mono HBw.out.size))
          clear HKf
          go_wp2
          go_ret
          exact ⟨G, rfl, HEND.out, HFT.out, HBE.out⟩
set_option maxRecDepth 100000 in
set_option maxHeartbeats 400000 in
theorem chPower_yes (a : Option Addr) (ca n F k : Nat) (P : Nat → Nat → Rat) (R : List (List Fr)) (w : World) (hR : FsS w a R) (hO : RwsOK n n R) (hW : RaW n F P R) (h1 : 1 ≤ n) (hn : n ≤ 6) (hk : k ≤ 16) (hF : 1 + (2 * F + 2) * (n * n) ≤ 60000) (hc : Chn n P) :
    Calls Tryz.prog 24 #[.slice a n ca, .int .i64 (k : Nat)] w fun e w' => ∃ G, e = .returned (.tuple #[.slice (some ⟨G, 0, none⟩) n n, .int .i64 0]) ∧ FsS w' (some ⟨G, 0, none⟩) (mR n (powQ n P k)) ∧ (∀ i j, i < n → j < n → Fits (k * (1 + (2 * F + 2) * (n * n)) + 1) (powQ n P k i j)) ∧ Below w.heap.size w w' := by
  have HC := hid (chCheck_yes a ca n R w hR hO h1 hn)
  have HP := hid (fun (U : World) (hU : Below w.heap.size w U) => chPower_in a ca n F k P R U (hR.below hU) hW h1 (by omega) hk hF hc)
  clear hR hO hW hF hc
  obtain ⟨S, hS⟩ : ∃ S, k * (1 + (2 * F + 2) * (n * n)) + 1 = S := ⟨_, rfl⟩
  rw [hS] at HP ⊢
  clear hS
  have k0 : ¬ ((k : Int) < 0) := by omega
  have k1 : ¬ ((16 : Int) < (k : Int)) := by omega
  go_enter Tryz.func24, Tryz.ntmps24
  go_wp2_with fail
  refine HC.out.mono ?_
  rintro e w1 ⟨rfl, hb1⟩
  have HB1 := hid hb1
  clear hb1
  go_wp2_with fail
  refine (HP.out _ HB1.out).mono ?_
  rintro e w2 ⟨G, rfl, hf, hft, hb2⟩
  have HB2 := hid (HB1.out.trans (hb2.mono HB1.out.size))
  have HF := hid hf
  have HFT := hid hft
  clear hf hb2 hft
  go_wp2
  go_ret2
  exact ⟨G, rfl, HF.out, HFT.out, HB2.out⟩
end Go.Proofs.YtbejijgelljeaaaGreatDoor
