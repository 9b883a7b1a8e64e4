/- The answer's Classes. -/
import Derived.Test.YtbejijgelljeaaaGreatDoorChnHCyTrnC
import Derived.Test.YtbejijgelljeaaaGreatDoorConFCyNetD
import Derived.Deep.QuietTactic
import Derived.BigQuiet
import Derived.Test.YtbejijgelljeaaaGreatDoorWshPCyRowA
import Derived.Test.YtbejijgelljeaaaGreatDoorCore1CyMem
import Derived.Deep.RegionHeld3
import Derived.Deep.OwnRows
import Derived.Test.YtbejijgelljeaaaGreatDoorHidACyMadB
import Derived.Laws.EntriesVeiled
import Derived.Shelf.Slices.CompactI
import Derived.Test.YtbejijgelljeaaaGreatDoorMadCCyChnA
import Derived.Test.YtbejijgelljeaaaGreatDoorChnECyHidF
namespace Go.Proofs.YtbejijgelljeaaaGreatDoor
open Go.RowKit Go.Shelf
theorem CmL.len {n : Nat} {P : Nat → Nat → Rat} {i : Nat} {L : List Nat} (h : CmL n P i L) : L.length = ((List.range n).filter (cmsB n P i)).length := by
  refine Nat.le_antisymm (List.Nodup.length_le_of_subset h.nd fun x hx => ?_) (List.Nodup.length_le_of_subset (List.Pairwise.filter _ List.nodup_range) fun x hx => ?_)
  · obtain ⟨h1, h2⟩ := (h.all x).1 hx
    exact List.mem_filter.2 ⟨List.mem_range.2 h1, h2⟩
  · obtain ⟨h1, h2⟩ := List.mem_filter.1 hx
    exact (h.all x).2 ⟨List.mem_range.1 h1, h2⟩
theorem CmL.closed {n : Nat} {P : Nat → Nat → Rat} {i : Nat} {L : List Nat} (h : CmL n P i L) : stB n (cmsB n P) i = true ↔ L.length = (clN n (cmsB n P) i).length := by
  have e : clN n (cmsB n P) i = ((List.range n).filter (cmsB n P i)).filter fun j => cmsB n P j i := by
    rw [List.filter_filter, clN]
    exact List.filter_congr fun x _ => Bool.and_comm _ _
  rw [h.len, e, stB_iff]
  refine Iff.trans ?_ eq_comm
  rw [List.length_filter_eq_length_iff]
  exact ⟨fun h x hx => h x (List.mem_range.1 (List.mem_filter.1 hx).1) (List.mem_filter.1 hx).2, fun h x hx hc => h x (List.mem_filter.2 ⟨List.mem_range.2 hx, hc⟩)⟩
theorem CmL.has {n : Nat} {P : Nat → Nat → Rat} {i : Nat} {L : List Nat} (h : CmL n P i L) {x : Nat} (hx : x < n) : decide (x ∈ L) = cmsB n P i x := by
  cases q : cmsB n P i x with
  | true => exact decide_eq_true ((h.all x).2 ⟨hx, q⟩)
  | false => exact decide_eq_false fun hm => by rw [((h.all x).1 hm).2] at q; cases q
theorem CmL.most {n : Nat} {P : Nat → Nat → Rat} {i : Nat} {L : List Nat} (h : CmL n P i L) : L.length ≤ n := nod_most h.nd fun x hx => ((h.all x).1 hx).1
set_option maxRecDepth 100000 in
set_option maxHeartbeats 4000000 in
theorem rClasses_any (a : Option Addr) (ca n : Nat) (P : Nat → Nat → Rat) (w : World) (hR : FsS w a (mR n P)) {F : Nat} (hm : ChK F n P) :
    Calls Tryz.prog 55 #[.slice a n ca] w fun e' w' => ∃ x y Q B, e' = .returned (.tuple #[x, y, .int .i64 0]) ∧ w.heap.size ≤ B ∧ ClS B n (cmsB n P) n x y Q w' ∧ Below w.heap.size w w' := by
  have h1 := hm.one
  have h5 := hm.five
  have HCK := hid (fun (U : World) (hU : FsS U a (mR n P)) => rChain_yes a ca n (mR n P) U hU hm.ok h1 (by omega))
  have HCO := hid (fun (U : World) (hU : FsS U a (mR n P)) (i : Nat) (hi : i < n) => rComes_any a ca n i P U hU hm hi)
  have HME : Hid (∀ i, i < n → i ∈ clN n (cmsB n P) i) := fun i hi => List.mem_filter.2 ⟨List.mem_range.2 hi, by rw [cms_self]; rfl⟩
  have HR := hid hR
  clear hR hm
  obtain ⟨e, he⟩ : ∃ e, cmsB n P = e := ⟨_, rfl⟩
  have HE := hid he
  rw [he] at HME ⊢
  clear he
  go_enter Tryz.func55, Tryz.ntmps55
  go_wp2_with fail
  refine (HCK.out _ HR.out).mono ?_
  rintro e1 w1 ⟨rfl, hb1⟩
  have HB1 := hid hb1
  clear hb1 HCK
  have HK0 : Hid (ClS w1.heap.size n e 0 (.slice none 0 0) (.slice none 0 0) [] w1) := ⟨OwL.nil _ _, RwB'.empty _ _, rfl⟩
  go_wp2_with fail
  go_loopw [6, 7, 8] (fun xv yv iv wr => ∃ (i : Nat) (Q : List PL), i ≤ n ∧ iv = .int .i64 i ∧ Hid (ClS w1.heap.size n e i xv yv Q wr) ∧ Hid (Below w1.heap.size w1 wr)) (fun _ _ iv _ => n - (intOf iv).toNat)
  case atStart => exact ⟨0, [], Nat.zero_le _, rfl, HK0, Below.refl _ _⟩
  case round =>
    obtain ⟨i, Q, hi, rfl, HK, HB⟩ := hrel
    clear HK0
    by_cases hlt : i < n
    · have HCL := hid (HCO.out wr (HR.out.below (HB1.out.trans (HB.out.mono HB1.out.size))) i hlt)
      go_wp2_with fail
      refine HCL.out.mono ?_
      rintro e1 w2 ⟨v, L, rfl, hr2, hcm, hb2⟩
      have HCMO := hid hcm
      obtain ⟨do_, co, rfl, hon⟩ := RwI.ints hr2
      have HON := hid hon
      have hsz := HB.out.size
      replace HK := hid (HK.out.step hb2)
      replace HB := hid (HB.out.trans (hb2.mono HB.out.size))
      have HSTB := hid hcm.closed
      have hll := hcm.most
      rw [iL_length]
      rw [HE.out] at HSTB
      obtain ⟨ll, hlle⟩ : ∃ x, L.length = x := ⟨_, rfl⟩
      have HLLE := hid hlle
      rw [hlle] at hll
      simp only [hlle]
      clear hlle hcm hon hr2 hb2 HCL
      have HL0 : Hid (RwI w2 w2.heap.size (.slice none 0 0) (iL (clN 0 e i))) := ⟨rfl, .inl ⟨rfl, rfl⟩⟩
      go_wp2_with fail
      go_loopw [9, 11] (fun lv kv wr => ∃ k : Nat, k ≤ n ∧ kv = .int .i64 k ∧ Hid (RwI wr w2.heap.size lv (iL (clN k e i))) ∧ Hid (Below w2.heap.size w2 wr)) (fun _ kv _ => n - (intOf kv).toNat)
      case atStart => exact ⟨0, Nat.zero_le _, rfl, HL0, Below.refl _ _⟩
      case round =>
        clear HL0
        obtain ⟨k, hk, rfl, HRL, HB2⟩ := hrel
        by_cases hkn : k < n
        · have HIN1 : Hid (∀ U : World, Below w2.heap.size w2 U → Calls Tryz.prog 12 #[.int .i64 (k : Nat), .slice do_ ll co] U fun e' w' => e' = .returned (.bool (e i k)) ∧ w' = U) := fun U hU => by
            have h := rIn_any ((k : Nat) : Int) do_ co (iL L) U (HON.out.below hU) (by rw [iL_length, HLLE.out]; omega)
            rw [inB_chn, iL_length, HLLE.out, HCMO.out.has hkn, HE.out] at h
            exact h
          have HC2 := hid (fun (U : World) (hU : Below w2.heap.size w2 U) => HCO.out U (HR.out.below (HB1.out.trans ((HB.out.trans (hU.mono HB.out.size)).mono HB1.out.size))) k hkn)
          have HIN2 : Hid (∀ (U : World) (M : List Nat) (d : Option Addr) (cd : Nat), CmL n P k M → IntS U d (iL M) → Calls Tryz.prog 12 #[.int .i64 (i : Nat), .slice d (iL M).length cd] U fun e' w' => e' = .returned (.bool (e k i)) ∧ w' = U) := fun U M d cd hM hd => by
            have h := rIn_any ((i : Nat) : Int) d cd (iL M) U hd (by rw [iL_length]; have := hM.most; omega)
            rw [inB_chn, hM.has hlt, HE.out] at h
            exact h
          have HSU := hid (clN_succ k e i)
          have HLEN : Hid ((clN k e i).length ≤ 1000) := Nat.le_trans (List.length_filter_le _ _) (by simp; omega)
          obtain ⟨b1, hb1⟩ : ∃ b, e i k = b := ⟨_, rfl⟩
          obtain ⟨b2, hb2⟩ : ∃ b, e k i = b := ⟨_, rfl⟩
          rw [hb1] at HIN1 HSU
          rw [hb2] at HIN2 HSU
          clear hb1 hb2
          go_wp2_with fail
          refine (HIN1.out _ HB2.out).mono ?_
          rintro e1 w3 ⟨rfl, rfl⟩
          go_wp2_with fail
          refine (HC2.out _ HB2.out).mono ?_
          rintro e1 w4 ⟨v4, M, rfl, hr4, hcm4, hb4⟩
          obtain ⟨d4, c4, rfl, hin4⟩ := RwI.ints hr4
          have HI4 := hid (HIN2.out w4 M d4 c4 hcm4 hin4)
          have HRN := hid (HRL.out.below hb4)
          have HBN := hid (HB2.out.trans (hb4.mono HB2.out.size))
          clear hr4 hcm4 hb4 hin4 HIN1 HIN2 HC2 HRL HB2
          obtain ⟨ml, hml⟩ : ∃ x, (iL M).length = x := ⟨_, rfl⟩
          rw [hml] at HI4
          simp only [hml]
          clear hml
          go_wp2_with fail
          refine HI4.out.mono ?_
          rintro e1 w5 ⟨rfl, rfl⟩
          clear HI4
          have pass : ∀ (_ : (b1 && b2) = false), Hid (RwI w5 w2.heap.size u9 (iL (clN (k + 1) e i))) := fun q => by
            show RwI _ _ _ _
            rw [HSU.out, q]
            simp only [Bool.false_eq_true, if_false, List.append_nil]
            exact HRN.out
          cases b1 with
          | false =>
            have HN := pass rfl
            go_wp2
            go_roundw
            case rel => exact ⟨k + 1, by omega, by go_num, HN, HBN⟩
            case measure => simp [intOf]; omega
          | true =>
            cases b2 with
            | false =>
              have HN := pass rfl
              go_wp2
              go_roundw
              case rel => exact ⟨k + 1, by omega, by go_num, HN, HBN⟩
              case measure => simp [intOf]; omega
            | true =>
              clear pass
              have HC9 : Hid (iL (clN (k + 1) e i) = iL (clN k e i) ++ [((k : Nat) : Int)]) := by show _ = _; rw [HSU.out, iL_append]; rfl
              have HOWN := hid HRN.out.own
              obtain ⟨dl, cl, hle, -⟩ := RwI.ints HRN.out
              have HRA : Hid (RwI (w5.alloc (.cells #[.int .i64 (k : Nat)] 3)) w2.heap.size _ (iL (clN k e i))) := World.ownsRow.alloc HRN.out _
              have HBA := hid (HBN.out.alloc HBN.out.size (.cells #[.int .i64 (k : Nat)] 3))
              have HIA := hid (new_int w5 (k : Nat))
              clear hle
              go_wp2_with (at_builtin; refine wpList_append_ints rfl _ _ rfl w2.heap.size _ (iL (clN k e i)) [((k : Nat) : Int)] rfl HRA.out (some ⟨w5.heap.size, 0, none⟩) 1 rfl HIA.out (fun e => by cases e) (by rw [iL_length]; have := HLEN.out; simp; omega) HBA.out.size ?_; intro v' w7 hr3 hg3; have HB3 := hid (HBA.out.grown hg3 HBA.out.size HOWN.out); have HR3 : Hid (RwI w7 w2.heap.size v' (iL (clN (k + 1) e i))) := (by rw [HC9.out]; exact hr3))
              go_roundw
              case rel => exact ⟨k + 1, by omega, by go_num, HR3, HB3⟩
              case measure => simp [intOf]; omega
        · obtain rfl : n = k := by omega
          have hsz2 := HB.out.size
          replace HK := hid (HK.out.step HB2.out)
          replace HB := hid (HB.out.trans (HB2.out.mono HB.out.size))
          have HR4 : Hid (RwI wr w1.heap.size u9 (iL (clN n e i))) := HRL.out.lower hsz2
          clear HRL HB2 hsz2 HON
          obtain ⟨w4, hw4⟩ : ∃ x, x = wr := ⟨_, rfl⟩
          subst hw4
          have hm := HME.out i hlt
          have hpos := List.length_pos_of_mem hm
          obtain ⟨dv, cv, rfl, hiv⟩ := RwI.ints HR4.out
          have hk0 : 0 < (iL (clN n e i)).length := by rw [iL_length]; exact hpos
          obtain ⟨gv, ov, rfl, hgv, c0⟩ := hiv 0 hk0
          rw [iL_get hpos, Nat.add_zero] at c0
          have HHD : Hid ((clN n e i).head? = some (clN n e i)[0]) := by show _ = _; rw [List.head?_eq_getElem?, List.getElem?_eq_getElem hpos]
          have HST := hid (lstN_succ n e i)
          have HQL := hid HK.out.len
          have hql := lstN_le n e i
          rw [iL_length] at HR4 ⊢
          generalize (clN n e i)[0] = f0 at *
          obtain ⟨m, hcl⟩ : ∃ m, (clN n e i).length = m := ⟨_, rfl⟩
          have HMME := hid hcl
          rw [hcl] at HR4 hpos
          simp only [hcl]
          clear hcl hiv hm hk0
          by_cases hf : f0 = i
          · subst hf
            have HLS : Hid (lstN n e (f0 + 1) = lstN n e f0 ++ [f0]) := by show _ = _; rw [HST.out, if_pos HHD.out]
            obtain ⟨dx, cx, rfl, -⟩ := owns_slice HK.out.row.1
            obtain ⟨dy, cy, hye, -, -⟩ := HK.out.cl.bos
            obtain ⟨BL, hBL⟩ : ∃ BL, (lstN n e f0).map (stB n e) = BL := ⟨_, rfl⟩
            rw [hBL] at hye
            have HBLE := hid hBL
            have hBLl : BL.length ≤ n := by rw [← hBL, List.length_map]; omega
            clear hBL
            subst hye
            have hAL := (Below.refl w4.heap.size w4).alloc (Nat.le_refl _) (.cells #[.slice (some ⟨gv, ov, none⟩) m cv] 22)
            have hone : (w4.alloc (.cells #[.slice (some ⟨gv, ov, none⟩) m cv] 22)).heap[w4.heap.size]? = some (.cells #[.slice (some ⟨gv, ov, none⟩) m cv] 22 (0, 0)) := heap_alloc_new w4 _
            have HC1 : Hid ((w4.alloc (.cells #[.slice (some ⟨gv, ov, none⟩) m cv] 22)).cell? ⟨w4.heap.size, 0, none⟩ = some (.slice (some ⟨gv, ov, none⟩) m cv)) := by
              show _ = _
              rw [cell_of_row _ _ _ _ _ (0, 0) hone]
              rfl
            have HK5 := hid (HK.out.step hAL)
            have HR5 := hid (HR4.out.below hAL)
            have HB5 := hid (HB.out.trans (hAL.mono HB.out.size))
            have HV5 := hid HK.out.val
            have hQ : Q.length + 1 ≤ 100000 := by have := HQL.out; omega
            have HLL : Hid (BL.length + 1 ≤ 100000) := by show _ ≤ _; omega
            have HSLV : Hid (SlV (.slice (some ⟨gv, ov, none⟩) m cv)) := ⟨_, _, _, rfl⟩
            clear hAL hone HK HB HR4 HHD HST
            have HBV : Hid (stB n e f0 = ((ll : Int) == (m : Int))) := by
              show _ = _
              by_cases hlm : ll = m
              · rw [HSTB.out.2 (by rw [HLLE.out, HMME.out, hlm]), hlm]
                simp
              · have hq : stB n e f0 = false := by
                  cases q : stB n e f0 with
                  | false => rfl
                  | true => exact absurd (by rw [← HLLE.out, ← HMME.out]; exact HSTB.out.1 q) hlm
                rw [hq]
                simp
                omega
            go_wp2_with (first
              | (at_builtin; refine wpList_append_lr rfl _ _ rfl w1.heap.size (.slice dx Q.length cx) Q (.slice (some ⟨gv, ov, none⟩) m cv) HSLV.out rfl HK5.out.row.1 w4.heap.size rfl HC1.out hQ HB5.out.size ?_; intro v6 w6 hr6 hg6; obtain ⟨h6a, h6b⟩ := HK5.out.push hr6 hg6 HR5.out; have HB6 := hid (HB5.out.grown hg6 HB5.out.size (fun k e => owns_from HK5.out.row.1 k e)); have HX7 := hid (h6a.keep (KeepT.below ((Below.refl w6.heap.size w6).alloc (Nat.le_refl _) (.cells #[.bool ((ll : Int) == (m : Int))] 4))) (KeepT.below ((Below.refl w6.heap.size w6).alloc (Nat.le_refl _) (.cells #[.bool ((ll : Int) == (m : Int))] 4)))); have HY7 : Hid (RwB' (w6.alloc (.cells #[.bool ((ll : Int) == (m : Int))] 4)) w1.heap.size (.slice dy BL.length cy) BL) := (by rw [HBLE.out] at h6b; exact owns_keep h6b (KeepT.below ((Below.refl w6.heap.size w6).alloc (Nat.le_refl _) (.cells #[.bool ((ll : Int) == (m : Int))] 4)))); have HB7 := hid (HB6.out.alloc HB6.out.size (.cells #[.bool ((ll : Int) == (m : Int))] 4)); have HC7 : Hid ((w6.alloc (.cells #[.bool ((ll : Int) == (m : Int))] 4)).cell? ⟨w6.heap.size, 0, none⟩ = some (.bool ((ll : Int) == (m : Int)))) := (by show _ = _; rw [cell_of_row _ _ _ _ _ (0, 0) (heap_alloc_new w6 (.cells #[.bool ((ll : Int) == (m : Int))] 4))]; rfl); clear h6a h6b hr6 hg6)
              | (at_builtin; refine wpList_append_bo rfl _ _ rfl w1.heap.size (.slice dy BL.length cy) BL ((ll : Int) == (m : Int)) rfl HY7.out w6.heap.size rfl HC7.out HLL.out HB7.out.size ?_; intro v8 w8 hr8 hg8; have HK8 : Hid (ClS w1.heap.size n e (f0 + 1) v6 v8 (Q ++ [(.slice (some ⟨gv, ov, none⟩) m cv, iL (clN n e f0))]) w8) := ClS.done HX7.out (by rw [HBLE.out]; exact HY7.out) HV5.out HLS.out (by rw [HBLE.out, HBV.out]; exact hr8) hg8; have HB8 := hid (HB7.out.grown hg8 HB7.out.size (fun k e => owns_from HY7.out k e)); clear hr8 hg8))
            go_roundw
            case rel => exact ⟨f0 + 1, _, by omega, by go_num, HK8, HB8⟩
            case measure => simp [intOf]; omega
          · have hne : ¬ ((f0 : Int) = (i : Int)) := by omega
            have HLS : Hid (lstN n e (i + 1) = lstN n e i) := by
              show _ = _
              rw [HST.out, if_neg (by rw [HHD.out]; exact fun e => hf (Option.some.inj e)), List.append_nil]
            have HKN : Hid (ClS w1.heap.size n e (i + 1) u6 u7 Q w4) := ⟨HK.out.row, by rw [HLS.out]; exact HK.out.cl, by rw [HLS.out]; exact HK.out.val⟩
            go_wp2
            go_roundw
            case rel => exact ⟨i + 1, Q, by omega, by go_num, HKN, HB⟩
            case measure => simp [intOf]; omega
    · obtain rfl : n = i := by omega
      have HBF := hid (HB1.out.trans (HB.out.mono HB1.out.size))
      go_wp2
      go_ret3
      exact ⟨_, _, Q, _, rfl, HB1.out.size, HK.out, HBF.out⟩
end Go.Proofs.YtbejijgelljeaaaGreatDoor

/- The answer's ClosedOf. -/
namespace Go.Proofs.YtbejijgelljeaaaGreatDoor
open Go.RowKit Go.Shelf
/-- The least states of the closed classes. -/
def clsd (n : Nat) (P : Nat → Nat → Rat) : List Nat := (lstN n (cmsB n P) n).filter (stB n (cmsB n P))
theorem OneC.sole {n : Nat} {P : Nat → Nat → Rat} {k : Nat} (h : OneC n P k) : clsd n P = [k] := by
  have hnd : (clsd n P).Nodup := List.Pairwise.filter _ (lstN_nodup _ _ _)
  have hk : k ∈ clsd n P := List.mem_filter.2 ⟨h.mem, h.shut⟩
  have ho : ∀ x ∈ clsd n P, x = k := fun x hx => h.only x (List.mem_filter.1 hx).1 (List.mem_filter.1 hx).2
  generalize clsd n P = c at *
  match c, hnd, hk, ho with
  | [], _, hk, _ => cases hk
  | [x], _, _, ho => rw [ho x (by simp)]
  | x :: y :: r, hnd, _, ho =>
    have e1 := ho x (by simp)
    have e2 := ho y (by simp)
    simp [e1, e2] at hnd
theorem clsd_many {n : Nat} {P : Nat → Nat → Rat} (h1 : 1 ≤ n) (h : true ∈ (clB n P).drop (fstT (clB n P) + 1)) : (clsd n P).length ≠ 1 := fun hl => by
  obtain ⟨hk, h2, -⟩ := fstT_spec (clB n P) (clB_true h1)
  obtain ⟨t, ht, e⟩ := List.mem_iff_getElem.1 h
  rw [List.length_drop] at ht
  rw [List.getElem_drop] at e
  obtain ⟨k, hc⟩ := List.length_eq_one_iff.1 hl
  have hlen : (clB n P).length = (lstN n (cmsB n P) n).length := by simp
  have hin : ∀ t (h : t < (lstN n (cmsB n P) n).length), stB n (cmsB n P) (lstN n (cmsB n P) n)[t] = true → (lstN n (cmsB n P) n)[t] = k := fun t h hs => by
    have h9 : (lstN n (cmsB n P) n)[t] ∈ clsd n P := List.mem_filter.2 ⟨List.getElem_mem h, hs⟩
    rw [hc] at h9
    exact List.mem_singleton.1 h9
  have a1 := hin (fstT (clB n P)) (by omega) (by simpa using h2)
  have a2 := hin (fstT (clB n P) + 1 + t) (by omega) (by simpa using e)
  exact (List.pairwise_iff_getElem.1 (lstN_nodup n (cmsB n P) n)) (fstT (clB n P)) (fstT (clB n P) + 1 + t) (by omega) (by omega) (by omega) (a1.trans a2.symm)
theorem take_filter {T : List Nat} {s : Nat → Bool} {i : Nat} (h : i < T.length) : (T.take (i + 1)).filter s = (T.take i).filter s ++ if s T[i] then [T[i]] else [] := by
  rw [List.take_succ_eq_append_getElem h, List.filter_append]
  congr 1
  cases q : s T[i] with
  | true => simp [q]
  | false => simp [q]
set_option maxRecDepth 100000 in
set_option maxHeartbeats 4000000 in
theorem rClosed_any (a : Option Addr) (ca n : Nat) (P : Nat → Nat → Rat) (w : World) (hR : FsS w a (mR n P)) {F : Nat} (hm : ChK F n P) :
    Calls Tryz.prog 28 #[.slice a n ca] w fun e' w' => ∃ d m c, e' = .returned (.tuple #[.slice d m c, .bool (decide ((clsd n P).length = 1))]) ∧ Below w.heap.size w w' ∧ ∀ k, (clsd n P).getLast? = some k → m = (clN n (cmsB n P) k).length ∧ IntS w' d (iL (clN n (cmsB n P) k)) := by
  have h5 := hm.five
  have HCL := hid (rClasses_any a ca n P w hR hm)
  clear hR hm
  rw [clsd]
  generalize cmsB n P = e at *
  go_enter Tryz.func28, Tryz.ntmps28
  go_wp2_with fail
  refine HCL.out.mono ?_
  rintro e1 W ⟨x, y, Q, B, rfl, hB, hcs, hbW⟩
  have HBW := hid hbW
  have HCS := hid hcs
  have hQL := hcs.len
  have hll := lstN_le n e n
  obtain ⟨dx, cx, rfl, -⟩ := owns_slice hcs.row.1
  obtain ⟨dy, cy, hye, hbo, -⟩ := hcs.cl.bos
  rw [List.length_map] at hye
  subst hye
  have HBO := hid hbo
  have HVAL := hid hcs.val
  clear hbW hcs hbo HCL
  obtain ⟨T, hT⟩ : ∃ T, lstN n e n = T := ⟨_, rfl⟩
  rw [hT] at HBO HVAL hQL hll ⊢
  have HT := hid hT
  clear hT
  obtain ⟨s, hs⟩ : ∃ s, stB n e = s := ⟨_, rfl⟩
  rw [hs] at HBO
  have HS := hid hs
  clear hs
  rw [← hQL]
  rw [← hQL] at hll
  have HQL := hid hQL
  obtain ⟨q, hq⟩ : ∃ q, Q.length = q := ⟨_, rfl⟩
  have HQE := hid hq
  rw [hq] at hll
  simp only [hq]
  clear hq hQL
  go_wp2_with fail
  go_loopw [7, 8, 9] (fun cv lv iv wr => ∃ i c : Nat, i ≤ q ∧ c ≤ i ∧ iv = .int .i64 i ∧ cv = .int .i64 c ∧ W = wr ∧ Hid (((T.take i).filter s).length = c) ∧ ∃ d m cc, lv = .slice d m cc ∧ Hid (∀ k, ((T.take i).filter s).getLast? = some k → m = (clN n e k).length ∧ IntS W d (iL (clN n e k)))) (fun _ _ iv _ => q - (intOf iv).toNat)
  case atStart => exact ⟨0, 0, Nat.zero_le _, Nat.le_refl _, rfl, rfl, rfl, rfl, none, 0, 0, rfl, fun k hk => by cases hk⟩
  case round =>
    obtain ⟨i, c, hi, hc, rfl, rfl, rfl, HC, d, m, cc, rfl, HL⟩ := hrel
    by_cases hlt : i < q
    · have hiQ : i < Q.length := by rw [HQE.out]; exact hlt
      have hiT : i < T.length := by rw [← HQL.out]; exact hiQ
      obtain ⟨gy, oy, hde, hgy, cy0⟩ := HBO.out i (by rw [List.length_map]; exact hiT)
      subst hde
      rw [List.getElem_map] at cy0
      have hq2 : Q[i].2 = iL (clN n e T[i]) := by
        have h8 : (Q.map (·.2))[i]? = (T.map fun k => iL (clN n e k))[i]? := by rw [HVAL.out]
        rw [List.getElem?_map, List.getElem?_map, List.getElem?_eq_getElem hiQ, List.getElem?_eq_getElem hiT] at h8
        exact Option.some.inj h8
      have hrw := HCS.out.row.2 Q[i] (List.getElem_mem hiQ)
      rw [hq2] at hrw
      obtain ⟨dl, cl, hqe, hil⟩ := RwI.ints hrw
      have HXC : Hid (∃ gx ox, dx = some ⟨gx, ox, none⟩ ∧ gx < W.heap.size ∧ W.cell? ⟨gx, ox + i, none⟩ = some (.slice dl (iL (clN n e T[i])).length cl)) := by
        rcases HCS.out.row.1.2 with ⟨e8, e9⟩ | ⟨g8, cap8, cur8, e8, _, e10, _⟩
        · omega
        · have h8 := HCS.out.row.1
          rw [e8] at h8
          cases e8
          refine ⟨g8, 0, rfl, (Array.getElem?_eq_some_iff.1 e10).1, ?_⟩
          rw [Nat.zero_add, World.ownsRow.cellAt h8 i (by omega)]
          simp [hiQ, hqe]
      obtain ⟨gx, ox, rfl, hgx, cx0⟩ := HXC.out
      have HTF := hid (take_filter (s := s) hiT)
      have HIL := hid hil
      rw [iL_length] at cx0
      obtain ⟨tk, htk⟩ : ∃ t, T[i] = t := ⟨_, rfl⟩
      rw [htk] at cy0 cx0 HTF HIL
      obtain ⟨ml, hml⟩ : ∃ x, (clN n e tk).length = x := ⟨_, rfl⟩
      have HML := hid hml
      rw [hml] at cx0
      clear HXC hil hqe hrw hq2 htk hml
      obtain ⟨b, hb⟩ : ∃ b, s tk = b := ⟨_, rfl⟩
      rw [hb] at cy0 HTF
      clear hb
      cases b with
      | false =>
        have HCN : Hid (((T.take (i + 1)).filter s).length = c) := by show _ = _; rw [HTF.out]; simpa using HC.out
        have HLN : Hid (∀ k, ((T.take (i + 1)).filter s).getLast? = some k → m = (clN n e k).length ∧ IntS W d (iL (clN n e k))) := fun k hk => HL.out k (by rw [HTF.out] at hk; simpa using hk)
        go_wp2
        go_roundw
        case rel => exact ⟨i + 1, c, by omega, by omega, by go_num, rfl, trivial, HCN, d, m, cc, rfl, HLN⟩
        case measure => simp [intOf]; omega
      | true =>
        have HCN : Hid (((T.take (i + 1)).filter s).length = c + 1) := by show _ = _; rw [HTF.out, if_pos rfl, List.length_append, HC.out]; rfl
        have HLN : Hid (∀ k, ((T.take (i + 1)).filter s).getLast? = some k → ml = (clN n e k).length ∧ IntS W dl (iL (clN n e k))) := fun k hk => by
          rw [HTF.out, if_pos rfl, List.getLast?_concat] at hk
          cases hk
          exact ⟨HML.out.symm, HIL.out⟩
        go_wp2
        go_roundw
        case rel => exact ⟨i + 1, c + 1, by omega, by omega, by go_num, by go_num, trivial, HCN, dl, ml, cl, rfl, HLN⟩
        case measure => simp [intOf]; omega
    · obtain rfl : i = q := by omega
      have HTT : Hid (T.take i = T) := List.take_of_length_le (by rw [← HQL.out, HQE.out]; omega)
      rw [HTT.out] at HC HL
      go_wp2
      go_ret2
      rw [HT.out, HS.out, HC.out]
      exact ⟨d, m, cc, by by_cases h : c = 1 <;> simp [h] <;> omega, HBW.out, HL.out⟩
end Go.Proofs.YtbejijgelljeaaaGreatDoor

/- Plain: all assignments of a net together are as likely as 1; what is given of a variable is 1 for each assignment of its parents. -/
namespace Go.Proofs.YtbejijgelljeaaaGreatDoor
open Go.RowKit Go.Shelf
/-- One over another, where it speaks. -/
def over (vs : List Nat) (f g : Nat → Nat) : Nat → Nat := fun u => if u ∈ vs then g u else f u
end Go.Proofs.YtbejijgelljeaaaGreatDoor

/- The document's answer: a net under way. -/
namespace Go.Proofs.YtbejijgelljeaaaGreatDoor
open Go.RowKit Go.Shelf Go.Lib
def rOf (Rs : List PR) : List (List Fr) := Rs.map (·.2)
theorem OwR.rows {W : World} {B : Nat} {z : Value} {Rs : List PR} (h : OwR W B z Rs) : ∃ a c, z = .slice a (rOf Rs).length c ∧ FsS W a (rOf Rs) := by
  have hl : (rOf Rs).length = Rs.length := by simp [rOf]
  obtain ⟨a, c, rfl, _⟩ := owns_slice h.1
  refine ⟨a, c, by rw [hl], fun k hk => ?_⟩
  rw [hl] at hk
  obtain ⟨g, rfl, hg, c1⟩ := owns_cell h.1 (j := k) (by simpa using hk)
  have hin := h.2 Rs[k] (List.getElem_mem hk)
  obtain ⟨b, cb, eb, hst⟩ := hin.fr
  have hcap : Rs[k].2.length ≤ cb := by
    rcases hin.2 with ⟨h1, h2⟩ | ⟨g2, cap, cur, h1, _, _, h4, _⟩
    · omega
    · rw [eb] at h1
      injection h1 with _ _ h6
      omega
  exact ⟨g, 0, b, cb, rfl, hg, by rw [Nat.zero_add, c1]; simp [rOf, eb], by simpa [rOf] using hst, by simpa [rOf] using hcap⟩
end Go.Proofs.YtbejijgelljeaaaGreatDoor

/- The document's answer: a hidden chain of raw numbers; the law's signs. -/
namespace Go.Proofs.YtbejijgelljeaaaGreatDoor
open Go.RowKit Go.Shelf Go.Lib
/-- Rows of raw weights, of so many each. -/
def RwP (i k : Nat) (P : List PR) : Prop := P.length = i ∧ ∀ p ∈ P, ∃ Ls, p.2 = rawF Ls ∧ Wts Ls k ∧ 1 ≤ Ls.sum
theorem RwP.push {i k : Nat} {P : List PR} (h : RwP i k P) (q : Value) {Ls : List Nat} (h1 : Wts Ls k) (h2 : 1 ≤ Ls.sum) : RwP (i + 1) k (P ++ [(q, rawF Ls)]) := by
  refine ⟨by rw [List.length_append, h.1]; rfl, fun p hp => ?_⟩
  rcases List.mem_append.1 hp with hp | hp
  · exact h.2 p hp
  · rw [List.mem_singleton.1 hp]
    exact ⟨Ls, rfl, h1, h2⟩
end Go.Proofs.YtbejijgelljeaaaGreatDoor

/- MatrixOf of the document's answer: a chain of raw numbers. -/
namespace Go.Proofs.YtbejijgelljeaaaGreatDoor
open Go.RowKit Go.Shelf
theorem OwR.push {U U' : World} {B : Nat} {y v' q : Value} {r : List Fr} {P : List PR} (h : OwR U B y P) (hr : U'.ownsRow B 27 1 v' (P.length + 1) (P.map (·.1) ++ [q])) (hg : U.grownBy U' y.ownBlock) (hq : RwF U B q r) : OwR U' B v' (P ++ [(q, r)]) := by
  have hk : KeepT 33 U U' := KeepT.grown hg (owns_typed h.1) (by decide)
  refine ⟨by rw [List.length_append, List.map_append]; exact hr, fun p hp => ?_⟩
  rcases List.mem_append.1 hp with hp | hp
  · exact owns_keep (h.2 p hp) hk
  · rw [List.mem_singleton.1 hp]
    exact owns_keep hq hk
theorem OwR.below {U U' : World} {B : Nat} {y : Value} {P : List PR} (h : OwR U B y P) (hb : Below U.heap.size U U') : OwR U' B y P := h.keep (KeepT.below hb) (KeepT.below hb)
set_option maxRecDepth 100000 in
set_option maxHeartbeats 2000000 in
theorem matrixOf_any (d : Option Addr) (cd n : Nat) (W : List Int) (w : World) (hW : IntS w d W) (hr : ∀ x ∈ W, -9223372036854775808 ≤ x ∧ x ≤ 9223372036854775807) (hWl : W.length ≤ 140737488355328) (hn1 : 1 ≤ n) (hn : n ≤ 5) :
    Calls Tryz.prog 8 #[.slice d W.length cd, .int .i64 (n : Nat)] w fun e w' => ∃ (y : Value) (P1 : List PR), e = .returned y ∧ OwR w' w.heap.size y P1 ∧ RwP n n P1 ∧ Below w.heap.size w w' := by
  have HROW := hid (fun (a : Option Addr) (ca : Nat) (L : List Int) (U : World) (hU : IntS U a L) (hr : ∀ x ∈ L, -9223372036854775808 ≤ x ∧ x ≤ 9223372036854775807) (hl : L.length = n) => rowOf_any a ca 0 n L U hU hr (by omega) hn1 hn (by omega))
  have HPK := hid (fun (c : Int) (h : -9223372036854775808 ≤ c ∧ c ≤ 9223372036854775807) (U : World) => rPick_any c 9 U h.1 h.2 (by omega) (by omega))
  have HPL := hid (fun (c : Int) => pickN_lt c (n := 9) (by omega))
  have HW := hid hW
  have HRG := hid hr
  clear hW hr
  go_enter Tryz.func8, Tryz.ntmps8
  go_wp2_with fail
  go_loopw [5, 6] (fun yv iv wr => ∃ i : Nat, i ≤ n ∧ iv = .int .i64 i ∧ ∃ P1 : List PR, Hid (OwR wr w.heap.size yv P1) ∧ Hid (RwP i n P1) ∧ Hid (Below w.heap.size w wr)) (fun _ iv _ => n - (intOf iv).toNat)
  case atStart => exact ⟨0, Nat.zero_le _, rfl, [], OwR.nil _ _, ⟨rfl, fun p hp => by cases hp⟩, Below.refl _ _⟩
  case round =>
    obtain ⟨i, hi, rfl, P1, HK, HP1, HB⟩ := hrel
    by_cases hlt : i < n
    · obtain ⟨B0, hB0⟩ : ∃ x, x = wr.heap.size := ⟨_, rfl⟩
      have HWR : Hid (w.heap.size ≤ B0) := by rw [hB0]; exact HB.out.size
      have HB0 := hid hB0
      clear hB0
      go_wp2_with fail
      go_loopw [7, 8] (fun lv kv wq => ∃ (k : Nat) (L : List Int), k ≤ n ∧ kv = .int .i64 k ∧ L.length = k ∧ Hid (∀ x ∈ L, -9223372036854775808 ≤ x ∧ x ≤ 9223372036854775807) ∧ Hid (RwI wq B0 lv L) ∧ Hid (OwR wq w.heap.size u5 P1) ∧ Hid (Below w.heap.size w wq) ∧ Hid (B0 ≤ wq.heap.size)) (fun _ kv _ => n - (intOf kv).toNat)
      case atStart => exact ⟨0, [], Nat.zero_le _, rfl, rfl, (fun x hx => by cases hx), ⟨rfl, .inl ⟨rfl, rfl⟩⟩, HK, HB, Nat.le_of_eq HB0.out⟩
      case round =>
        obtain ⟨k, L, hk, rfl, hLk, HLR, HL', HK', HB', HSZ'⟩ := hrel
        clear HK HB
        by_cases hlk : k < n
        · by_cases hw0 : 0 < W.length
          · obtain ⟨ik, hik⟩ : ∃ ik, ik = i * n + k := ⟨_, rfl⟩
            have hin : i * n ≤ 25 := Nat.le_trans (Nat.mul_le_mul (by omega : i ≤ 5) hn) (by decide)
            have ein : (i : Int) * (n : Int) = ((i * n : Nat) : Int) := by push_cast; rfl
            have hw1 : IntKind.i64.wrap ((i : Int) * (n : Int)) = ((i * n : Nat) : Int) := by rw [ein, IntKind.wrap_i64]; omega
            have hw2 : IntKind.i64.wrap (((i * n : Nat) : Int) + (k : Int)) = (ik : Int) := by rw [IntKind.wrap_i64]; omega
            generalize i * n = in_ at *
            clear ein
            obtain ⟨t, ht⟩ : ∃ t, t = ik % W.length := ⟨_, rfl⟩
            have htl : t < W.length := by rw [ht]; exact Nat.mod_lt _ hw0
            have hrem : (ik : Int) % (W.length : Int) = (t : Int) := by rw [ht, Int.natCast_emod]
            obtain ⟨g', o', rfl, hg', cW⟩ := (HW.out.below HB'.out) t htl
            have hxr := HRG.out W[t] (List.getElem_mem htl)
            have hpl := HPL.out W[t]
            have HPT := hid (fun U => HPK.out W[t] hxr U)
            have hwpos : (0 : Int) < (W.length : Int) := by omega
            have hwne : ¬ (W.length : Int) = 0 := by omega
            have hwr2 : IntKind.i64.wrap ((ik : Int) % (W.length : Int)) = (t : Int) := by rw [hrem, IntKind.wrap_i64]; omega
            clear ht hik hw0
            generalize W[t] = wt at *
            generalize pickN wt 9 = p at *
            go_wp2_with fail
            refine (HPT.out _).mono ?_
            rintro e w1 ⟨rfl, hb1⟩
            have HL1 := hid (HL'.out.below hb1)
            have HK1 := hid (HK'.out.below hb1)
            have HB1 := hid (HB'.out.trans (hb1.mono HB'.out.size))
            have HSZ1 : Hid (B0 ≤ w1.heap.size) := Nat.le_trans HSZ'.out hb1.size
            clear HL' HK' HB' HSZ' hb1 cW HPT
            by_cases hp3 : p < 3
            · have hneg : ((p : Int) - 3 < 0) := by omega
              have HXA := hid (HL1.out.below ((Below.refl _ w1).alloc (Nat.le_refl _) (.cells #[.int .i64 0] 3)))
              have HBA := hid (HB1.out.alloc HB1.out.size (.cells #[.int .i64 0] 3))
              have HKA := hid (HK1.out.below ((Below.refl _ w1).alloc (Nat.le_refl _) (.cells #[.int .i64 0] 3)))
              have HSA : Hid (B0 ≤ (w1.alloc (.cells #[.int .i64 0] 3)).heap.size) := Nat.le_trans HSZ1.out (by simp)
              have HIA := hid (one_int w1 0)
              have HLR2 : Hid (∀ x ∈ L ++ [(0 : Int)], -9223372036854775808 ≤ x ∧ x ≤ 9223372036854775807) := fun x hx => by
                rcases List.mem_append.1 hx with hx | hx
                · exact HLR.out x hx
                · rw [List.mem_singleton.1 hx]; omega
              clear HL1 HK1 HB1 HSZ1 hpl
              go_wp2_with (at_builtin; refine wpList_append_ints rfl _ _ rfl B0 _ L [(0 : Int)] rfl HXA.out (some ⟨w1.heap.size, 0, none⟩) 1 rfl HIA.out (fun e => by cases e) (by simp; omega) HSA.out ?_; intro v' w3 hr3 hg3; have HB3 := hid (HBA.out.grown hg3 HBA.out.size (fun k e => Nat.le_trans HWR.out (HXA.out.own k e))); have HK3 := hid (HKA.out.keep (KeepT.grown hg3 (owns_typed HXA.out) (by decide)) (KeepT.grown hg3 (owns_typed HXA.out) (by decide))); have HS3 : Hid (B0 ≤ w3.heap.size) := Nat.le_trans HSA.out hg3.size)
              go_roundw
              case rel => exact ⟨k + 1, L ++ [(0 : Int)], by omega, by go_num, by simp [hLk], HLR2, hr3, HK3, HB3, HS3⟩
              case measure => simp [intOf]; omega
            · have hneg : ¬ ((p : Int) - 3 < 0) := by omega
              obtain ⟨z, hz⟩ : ∃ z : Nat, z = p - 3 := ⟨_, rfl⟩
              have hzz : ((p : Int) - 3) = (z : Int) := by omega
              have hnz : ¬ ((z : Int) < 0) := by omega
              have hz9 : z < 9 := by omega
              clear hz
              have HXA := hid (HL1.out.below ((Below.refl _ w1).alloc (Nat.le_refl _) (.cells #[.int .i64 (z : Int)] 3)))
              have HBA := hid (HB1.out.alloc HB1.out.size (.cells #[.int .i64 (z : Int)] 3))
              have HKA := hid (HK1.out.below ((Below.refl _ w1).alloc (Nat.le_refl _) (.cells #[.int .i64 (z : Int)] 3)))
              have HSA : Hid (B0 ≤ (w1.alloc (.cells #[.int .i64 (z : Int)] 3)).heap.size) := Nat.le_trans HSZ1.out (by simp)
              have HIA := hid (one_int w1 (z : Int))
              have HLR2 : Hid (∀ x ∈ L ++ [((z : Int) : Int)], -9223372036854775808 ≤ x ∧ x ≤ 9223372036854775807) := fun x hx => by
                rcases List.mem_append.1 hx with hx | hx
                · exact HLR.out x hx
                · rw [List.mem_singleton.1 hx]; omega
              clear HL1 HK1 HB1 HSZ1 hpl hneg
              go_wp2_with (at_builtin; refine wpList_append_ints rfl _ _ rfl B0 _ L [((z : Int) : Int)] rfl HXA.out (some ⟨w1.heap.size, 0, none⟩) 1 rfl HIA.out (fun e => by cases e) (by simp; omega) HSA.out ?_; intro v' w3 hr3 hg3; have HB3 := hid (HBA.out.grown hg3 HBA.out.size (fun k e => Nat.le_trans HWR.out (HXA.out.own k e))); have HK3 := hid (HKA.out.keep (KeepT.grown hg3 (owns_typed HXA.out) (by decide)) (KeepT.grown hg3 (owns_typed HXA.out) (by decide))); have HS3 : Hid (B0 ≤ w3.heap.size) := Nat.le_trans HSA.out hg3.size)
              go_roundw
              case rel => exact ⟨k + 1, L ++ [((z : Int) : Int)], by omega, by go_num, by simp [hLk], HLR2, hr3, HK3, HB3, HS3⟩
              case measure => simp [intOf]; omega
          · have hgt : ¬ (0 : Int) < (W.length : Int) := by omega
            have hgt2 : decide (0 < W.length) = false := decide_eq_false (by omega)
            have HXA := hid (HL'.out.below ((Below.refl _ wr).alloc (Nat.le_refl _) (.cells #[.int .i64 1] 3)))
            have HBA := hid (HB'.out.alloc HB'.out.size (.cells #[.int .i64 1] 3))
            have HKA := hid (HK'.out.below ((Below.refl _ wr).alloc (Nat.le_refl _) (.cells #[.int .i64 1] 3)))
            have HSA : Hid (B0 ≤ (wr.alloc (.cells #[.int .i64 1] 3)).heap.size) := Nat.le_trans HSZ'.out (by simp)
            have HIA := hid (one_int wr 1)
            have HLR2 : Hid (∀ x ∈ L ++ [(1 : Int)], -9223372036854775808 ≤ x ∧ x ≤ 9223372036854775807) := fun x hx => by
              rcases List.mem_append.1 hx with hx | hx
              · exact HLR.out x hx
              · rw [List.mem_singleton.1 hx]; omega
            clear HL' HK' HB' HSZ' 
            go_wp2_with (at_builtin; refine wpList_append_ints rfl _ _ rfl B0 _ L [(1 : Int)] rfl HXA.out (some ⟨wr.heap.size, 0, none⟩) 1 rfl HIA.out (fun e => by cases e) (by simp; omega) HSA.out ?_; intro v' w3 hr3 hg3; have HB3 := hid (HBA.out.grown hg3 HBA.out.size (fun k e => Nat.le_trans HWR.out (HXA.out.own k e))); have HK3 := hid (HKA.out.keep (KeepT.grown hg3 (owns_typed HXA.out) (by decide)) (KeepT.grown hg3 (owns_typed HXA.out) (by decide))); have HS3 : Hid (B0 ≤ w3.heap.size) := Nat.le_trans HSA.out hg3.size)
            go_roundw
            case rel => exact ⟨k + 1, L ++ [(1 : Int)], by omega, by go_num, by simp [hLk], HLR2, hr3, HK3, HB3, HS3⟩
            case measure => simp [intOf]; omega
        · obtain rfl : k = n := by omega
          obtain ⟨dl, cl, rfl, hii⟩ := RwI.ints HL'.out
          have HRO : Hid (Calls Tryz.prog 29 #[.slice dl k cl, .int .i64 0, .int .i64 (k : Nat)] wr fun e w' => ∃ (x : Value) (Ls : List Nat), e = .returned x ∧ RwF w' wr.heap.size x (rawF Ls) ∧ Wts Ls k ∧ 1 ≤ Ls.sum ∧ Below wr.heap.size wr w') := by
            have h := HROW.out dl cl L _ hii HLR.out hLk
            rw [hLk] at h
            exact h
          clear hii HL'
          go_wp2_with fail
          refine HRO.out.mono ?_
          rintro e w3 ⟨xa, La, rfl, hxa, hwa, hsa, hb3⟩
          obtain ⟨da, na, ca, rfl⟩ := hxa.slv
          obtain ⟨dy, cy, rfl, -⟩ := owns_slice HK'.out.1
          have hAL := (Below.refl w3.heap.size w3).alloc (Nat.le_refl _) (.cells #[.slice da na ca] 27)
          have hone : (w3.alloc (.cells #[.slice da na ca] 27)).heap[w3.heap.size]? = some (.cells #[.slice da na ca] 27 (0, 0)) := heap_alloc_new w3 _
          have HC1 : Hid ((w3.alloc (.cells #[.slice da na ca] 27)).cell? ⟨w3.heap.size, 0, none⟩ = some (.slice da na ca)) := by
            show _ = _
            rw [cell_of_row _ _ _ _ _ (0, 0) hone]
            rfl
          have HB4 := hid ((HB'.out.trans (hb3.mono HB'.out.size)).alloc (Nat.le_trans HB'.out.size hb3.size) (.cells #[.slice da na ca] 27))
          have HA := hid ((hxa.lower HB'.out.size).below hAL)
          have HK4 := hid ((HK'.out.below hb3).below hAL)
          have HPP := hid (HP1.out.push (.slice da na ca) hwa hsa)
          have HL1 := hid HP1.out.1
          clear hone hAL hxa hwa hsa hb3 HK' HB'
          go_wp2_with (at_builtin; refine wpList_append_rs rfl _ _ rfl w.heap.size (.slice dy P1.length cy) P1 (.slice da na ca) ⟨_, _, _, rfl⟩ rfl HK4.out.1 w3.heap.size rfl HC1.out (by rw [HL1.out]; omega) HB4.out.size ?_; intro v5 w5 hr5 hg5; have HK5 := hid (HK4.out.push hr5 hg5 HA.out); have HB5 := hid (HB4.out.grown hg5 HB4.out.size (fun k e => owns_from HK4.out.1 k e)))
          go_roundw
          case rel => exact ⟨i + 1, by omega, by go_num, _, HK5, HPP, HB5⟩
          case measure => simp [intOf]; omega
    · obtain rfl : i = n := by omega
      go_wp2
      go_ret
      exact ⟨_, P1, rfl, HK.out, HP1.out, HB.out⟩
end Go.Proofs.YtbejijgelljeaaaGreatDoor
