/- The document's answer: listsOK, Order, GraphCheck. -/
import Derived.Test.YtpjgnjdekepbdaaChiAToNeaA
import Derived.Test.YtpjgnjdekepbdaaLnkAToTreG
namespace Go.Proofs.Ytpjgnjdekepbdaa
open Go.RowKit Go.Shelf

theorem inB_mem {k : Int} {l : List Int} : inB k l = true ↔ k ∈ l := by simp [inB]
theorem inB_nat {l : List Int} {x : Int} (hx : 0 ≤ x) (hl : ∀ y ∈ l, 0 ≤ y) : inB x l = decide (x.toNat ∈ toN l) := by
  rw [Bool.eq_iff_iff, decide_eq_true_iff, inB_mem]
  constructor
  · intro h; exact List.mem_map.2 ⟨x, h, rfl⟩
  · intro h
    obtain ⟨y, hy, e⟩ := List.mem_map.1 h
    have := hl y hy
    obtain rfl : y = x := by omega
    exact hy
theorem inB_iL (l : List Nat) {x : Int} (hx : 0 ≤ x) : inB x (iL l) = decide (x.toNat ∈ l) := by
  rw [inB_nat hx fun y hy => by obtain ⟨z, _, rfl⟩ := List.mem_map.1 hy; omega, toN_iL]
theorem ris_nonneg {l : List Int} {n : Nat} (h : risB l n = true) : ∀ y ∈ l, 0 ≤ y := fun y hy => by
  obtain ⟨i, hi, rfl⟩ := List.getElem_of_mem hy
  exact ((ris_up h).each i hi).1
theorem gB_ris {L : List (List Int)} {i : Nat} (h : i < L.length) (e : risB L[i] L.length = false) : gB L = false := by rw [gB, allRis_bad h e]; simp
theorem gB_self {L : List (List Int)} {i : Nat} (h : i < L.length) (e : i ∈ toN L[i]) : gB L = false := by rw [gB, noSelf_bad h e]; simp
theorem gB_yes {L : List (List Int)} (h1 : 1 ≤ L.length) (h2 : L.length ≤ 8) (h : ∀ i (hi : i < L.length), risB L[i] L.length = true ∧ ¬ i ∈ toN L[i]) : gB L = true := by
  rw [gB, decide_eq_true (p := 1 ≤ L.length ∧ L.length ≤ 8) ⟨h1, h2⟩, noSelf_good fun i hi => (h i hi).2]
  have : allRis L L.length = true := List.all_eq_true.2 fun l hl => by
    obtain ⟨i, hi, rfl⟩ := List.getElem_of_mem hl
    exact (h i hi).1
  rw [this]; rfl

set_option maxRecDepth 100000 in
set_option maxHeartbeats 1000000 in
theorem rListsOK_any (a : Option Addr) (ca : Nat) (L : List (List Int)) (w : World) (h : LsS w a L) (hl : ∀ l ∈ L, l.length ≤ 140737488355328) (hL : L.length ≤ 140737488355328) :
    Calls Try.prog 29 #[.slice a L.length ca] w fun e w' => e = .returned (.bool (gB L)) ∧ Below w.heap.size w w' := by
  have HF := hid h
  have HL := hid hl
  have HN : Hid (¬ (1 ≤ L.length ∧ L.length ≤ 8) → gB L = false) := fun h => by rw [gB, decide_eq_false h]; rfl
  have HR := hid (fun i h e => gB_ris (L := L) (i := i) h e)
  have HS := hid (fun i h e => gB_self (L := L) (i := i) h e)
  have HY := hid (fun h1 h2 h => gB_yes (L := L) h1 h2 h)
  generalize gB L = gb at *
  clear h hl
  by_cases h1 : 1 ≤ L.length
  · by_cases h8 : L.length ≤ 8
    · clear HN
      have e1 : (1 : Int) ≤ (L.length : Int) := by omega
      have e2 : (L.length : Int) ≤ 8 := by omega
      go_enter Try.func29, Try.ntmps29
      go_wp2_with fail
      go_loopw [3] (fun iv wr => ∃ i : Nat, i ≤ L.length ∧ iv = .int .i64 i ∧ Hid (∀ j (h : j < L.length), j < i → risB L[j] L.length = true ∧ ¬ j ∈ toN L[j]) ∧ Hid (Below w.heap.size w wr)) (fun iv _ => L.length - (intOf iv).toNat)
      case atStart => exact ⟨0, Nat.zero_le _, rfl, fun j _ h => absurd h (by omega), Below.refl _ _⟩
      case round =>
        obtain ⟨i, hi, rfl, HP, HB⟩ := hrel
        by_cases hlt : i < L.length
        · obtain ⟨g, o, b, c, rfl, hg, c0, hI⟩ := (HF.out.below HB.out) i hlt
          have hll := HL.out L[i] (List.getElem_mem hlt)
          have HI := hid hI
          have HRi := hid (HR.out i hlt)
          have HSi := hid (HS.out i hlt)
          have HPi : Hid (risB L[i] L.length = true → ¬ i ∈ toN L[i] → ∀ j (h : j < L.length), j < i + 1 → risB L[j] L.length = true ∧ ¬ j ∈ toN L[j]) := fun h h' j hj hji => by
            rcases Nat.lt_or_ge j i with h2 | h2
            · exact HP.out j hj h2
            · obtain rfl : j = i := by omega
              exact ⟨h, h'⟩
          clear hI
          generalize L[i] = l at *
          go_wp2_with fail
          refine (rRising_any b c l (L.length : Int) _ HI.out hll).mono ?_
          rintro e w1 ⟨rfl, hb1⟩
          have c1 := (hb1.cell (p := ⟨g, o + i, none⟩) hg).trans c0
          have HI1 := hid (HI.out.below hb1)
          have HB1 := hid (HB.out.trans (hb1.mono HB.out.size))
          clear hb1 c0 HI HB
          go_wp2_with fail
          refine (rIn_any (i : Nat) b c l _ HI1.out hll).mono ?_
          rintro e w2 ⟨rfl, rfl⟩
          cases hr : risB l L.length with
          | false =>
            have HE := hid (HRi.out hr)
            clear hr
            generalize inB (i : Nat) l = q at *
            go_wp2
            go_ret
            exact ⟨by rw [HE.out]; rfl, HB1.out⟩
          | true =>
            rw [inB_nat (by omega) (ris_nonneg hr), Int.toNat_natCast]
            by_cases hin : i ∈ toN l
            · rw [decide_eq_true hin]
              have HE := hid (HSi.out hin)
              clear hin hr
              go_wp2
              go_ret
              exact ⟨by rw [HE.out]; rfl, HB1.out⟩
            · rw [decide_eq_false hin]
              have HE := hid (HPi.out hr hin)
              clear hin hr
              go_wp2
              go_roundw
              case rel => exact ⟨i + 1, by omega, by go_num, HE, HB1⟩
              case measure => simp [intOf]; omega
        · obtain rfl : i = L.length := by omega
          have HE := hid (HY.out h1 h8 fun j hj => HP.out j hj hj)
          go_wp2
          go_ret
          exact ⟨by rw [HE.out]; rfl, HB.out⟩
    · have HE := hid (HN.out fun h => h8 h.2)
      have e1 : (1 : Int) ≤ (L.length : Int) := by omega
      have e2 : (8 : Int) < (L.length : Int) := by omega
      clear h8
      go_enter Try.func29, Try.ntmps29
      go_wp2
      go_ret
      exact ⟨by rw [HE.out]; rfl, Below.refl _ _⟩
  · have HE := hid (HN.out fun h => h1 h.1)
    have e1 : (L.length : Int) < 1 := by omega
    clear h1
    go_enter Try.func29, Try.ntmps29
    go_wp2
    go_ret
    exact ⟨by rw [HE.out]; rfl, Below.refl _ _⟩
end Go.Proofs.Ytpjgnjdekepbdaa


/- The document's answer: Order, GraphCheck. -/
namespace Go.Proofs.Ytpjgnjdekepbdaa
open Go.RowKit Go.Shelf

/-- The least from j on that may come next. -/
def fromN (P : List (List Nat)) (out : List Nat) (j : Nat) : Option Nat := (List.range' j (P.length - j)).find? (freeB P out)
def encO : Option Nat → Int
  | some v => (v : Int)
  | none => -1
theorem fromN_zero (P : List (List Nat)) (out : List Nat) : fromN P out 0 = nextV P out := by rw [fromN, nextV, List.range_eq_range']; rfl
theorem fromN_end (P : List (List Nat)) (out : List Nat) : fromN P out P.length = none := by rw [fromN, Nat.sub_self]; rfl
theorem fromN_step {P : List (List Nat)} {out : List Nat} {j : Nat} (h : j < P.length) : fromN P out j = if freeB P out j = true then some j else fromN P out (j + 1) := by
  rw [fromN, fromN, show P.length - j = (P.length - (j + 1)) + 1 by omega, List.range'_succ, List.find?_cons]
  cases freeB P out j <;> rfl
/-- Is a node free as far as i of its parents say? -/
def freeI (P : List (List Nat)) (out : List Nat) (v i : Nat) : Bool := !decide (v ∈ out) && decide (∀ u ∈ (P.getD v []).take i, u ∈ out)
theorem freeI_zero (P : List (List Nat)) (out : List Nat) (v : Nat) : freeI P out v 0 = !decide (v ∈ out) := by simp [freeI]
theorem freeI_succ {P : List (List Nat)} {out p : List Nat} {v i : Nat} (hp : P.getD v [] = p) (h : i < p.length) : freeI P out v (i + 1) = (freeI P out v i && decide (p[i] ∈ out)) := by
  rw [freeI, freeI, hp, List.take_succ_eq_append_getElem h, Bool.and_assoc]
  congr 1
  rw [Bool.eq_iff_iff, Bool.and_eq_true, decide_eq_true_iff, decide_eq_true_iff, decide_eq_true_iff]
  constructor
  · intro H
    exact ⟨fun u hu => H u (List.mem_append_left _ hu), H _ (List.mem_append_right _ List.mem_cons_self)⟩
  · rintro ⟨H1, H2⟩ u hu
    rcases List.mem_append.1 hu with hu | hu
    · exact H1 u hu
    · rw [List.mem_singleton.1 hu]; exact H2
theorem freeI_all {P : List (List Nat)} {out p : List Nat} {v : Nat} (hp : P.getD v [] = p) : freeI P out v p.length = freeB P out v := by
  rw [freeI, freeB, hp, List.take_length]

set_option maxRecDepth 100000 in
set_option maxHeartbeats 2000000 in
theorem rOrder_any (a : Option Addr) (ca : Nat) (L : List (List Int)) (w : World) (h : LsS w a L) (hl : ∀ l ∈ L, l.length ≤ 140737488355328) (hL : L.length ≤ 140737488355328) :
    Calls Try.prog 8 #[.slice a L.length ca] w fun e w' => Below w.heap.size w w' ∧
      ((gcE L = 0 ∧ ∃ x, e = .returned (.tuple #[x, .int .i64 0]) ∧ RwI w' w.heap.size x (iL (ordN (parN L) L.length))) ∨ (gcE L ≠ 0 ∧ e = .returned (.tuple #[.slice none 0 0, .int .i64 (gcE L)]))) := by
  obtain ⟨i0, hi0, hz0, hz1, hz2⟩ := info_parts Try.infoInt
  have HF := hid h
  have HK := hid (fun (V : World) (hV : LsS V a L) => rListsOK_any a ca L V hV hl hL)
  have HL := hid hl
  have HG1 : Hid (gB L = false → gcE L = 11) := fun h => if_neg (by rw [h]; decide)
  have HG2 : Hid (gB L = true → (ordN (parN L) L.length).length < L.length → gcE L = 10) := fun h1 h2 => by rw [gcE, if_pos h1, if_pos h2]
  have HG3 : Hid (gB L = true → ¬ (ordN (parN L) L.length).length < L.length → gcE L = 0) := fun h1 h2 => by rw [gcE, if_pos h1, if_neg h2]
  have hPl := parN_length L
  have HPG : Hid (∀ i (h : i < L.length), (parN L).getD i [] = toN L[i]) := fun i h => parN_get h
  have HGR : Hid (gB L = true → L.length ≤ 8 ∧ ∀ i (h : i < L.length), ∀ y ∈ L[i], 0 ≤ y) := fun h => ⟨(gB_parts h).2.1, fun i hi => ris_nonneg (allRis_at (gB_parts h).2.2.1 hi)⟩
  generalize gcE L = ge at *
  generalize parN L = P at *
  clear h hl
  cases hgb : gB L with
  | false =>
    have HE := hid (HG1.out hgb)
    rw [hgb] at HK
    clear hgb HG1 HG2 HG3 HGR
    go_enter Try.func8, Try.ntmps8
    go_wp2_with fail
    refine (HK.out _ HF.out).mono ?_
    rintro e w1 ⟨rfl, hb1⟩
    go_wp2
    go_ret2
    exact ⟨hb1, .inr ⟨by rw [HE.out]; decide, by rw [HE.out]; rfl⟩⟩
  | true =>
    have HE2 := hid (HG2.out hgb)
    have HE3 := hid (HG3.out hgb)
    obtain ⟨h8, hnn⟩ := HGR.out hgb
    have HNN := hid hnn
    rw [hgb] at HK
    clear hgb HG1 HG2 HG3 HGR hnn
    have HO0 : Hid (ordN P 0 = []) := rfl
    have HLN := hid (ord_len P)
    have HSO : Hid (∀ k v, nextV P (ordN P k) = some v → ordN P (k + 1) = ordN P k ++ [v]) := fun k v h => ord_some h
    have HST : Hid (∀ k, k < L.length → nextV P (ordN P k) = none → (ordN P L.length).length < L.length) := fun k h1 h2 => by
      have := ord_full P h2 (by omega)
      rwa [hPl] at this
    generalize hFF : ordN P = F at *
    clear hFF
    go_enter Try.func8, Try.ntmps8
    go_wp2_with fail
    refine (HK.out _ HF.out).mono ?_
    rintro e w1 ⟨rfl, hb1⟩
    have HB1 := hid hb1
    clear hb1 HK
    go_wp2_with fail
    go_loopw [5] (fun ov wr => ∃ k : Nat, k ≤ L.length ∧ Hid ((F k).length = k) ∧ Hid (RwI wr w.heap.size ov (iL (F k))) ∧ Hid (Below w.heap.size w wr) ∧ ∃ d cd, ov = .slice d k cd) (fun ov _ => L.length - (match ov with | .slice _ n _ => n | _ => 0))
    case atStart => exact ⟨0, Nat.zero_le _, by rw [HO0.out]; rfl, by rw [HO0.out]; exact ⟨rfl, .inl ⟨rfl, rfl⟩⟩, HB1, none, 0, rfl⟩
    case round =>
      obtain ⟨k, hk, HLK, HR, HB, d, cd, rfl⟩ := hrel
      clear HB1
      by_cases hlt : k < L.length
      · have hIo : IntS wr d (iL (F k)) := by
          obtain ⟨d', cd', e, hi⟩ := HR.out.ints
          injection e with e1 e2 e3
          subst e1
          exact hi
        have HIO := hid hIo
        have hil : (iL (F k)).length = k := by rw [iL_length, HLK.out]
        have HIN : Hid (∀ (x : Int) (V : World), IntS V d (iL (F k)) → Calls Try.prog 25 #[.int .i64 x, .slice d k cd] V fun e w' => e = .returned (.bool (inB x (iL (F k)))) ∧ w' = V) := fun x V hV => by
          have := rIn_any x d cd (iL (F k)) V hV (by omega)
          rwa [hil] at this
        have HINB : Hid (∀ x : Int, 0 ≤ x → inB x (iL (F k)) = decide (x.toNat ∈ F k)) := fun x hx => inB_iL (F k) hx
        have HSOk := hid (HSO.out k)
        have HSTk := hid (HST.out k hlt)
        have HFZ := hid (fromN_zero P (F k))
        have HFE : Hid (fromN P (F k) L.length = none) := by rw [← hPl]; exact fromN_end P (F k)
        have HFS : Hid (∀ j, j < L.length → fromN P (F k) j = if freeB P (F k) j = true then some j else fromN P (F k) (j + 1)) := fun j hj => fromN_step (by omega)
        clear hIo hil
        go_wp2_with fail
        go_loopw [6, 7] (fun nv vv wq => ∃ j : Nat, j ≤ L.length ∧ vv = .int .i64 ((j : Int) - 1) ∧ nv = .int .i64 (encO (fromN P (F k) j)) ∧ wq = wr) (fun _ vv _ => (intOf vv + 1).toNat)
        case atStart => exact ⟨L.length, Nat.le_refl _, by first | rfl | go_num, by rw [HFE.out]; rfl, rfl⟩
        case round =>
          obtain ⟨j, hj, rfl, rfl, rfl⟩ := hrel
          cases j with
          | zero =>
            rw [HFZ.out]
            cases hnx : nextV P (F k) with
            | none =>
              have HE := hid (HE2.out (HSTk.out hnx))
              clear hnx
              go_wp2
              go_ret2
              exact ⟨HB.out, .inr ⟨by rw [HE.out]; decide, by rw [HE.out]; rfl⟩⟩
            | some v =>
              have hS := HSOk.out v hnx
              have HIL : Hid (iL (F (k + 1)) = iL (F k) ++ [(v : Int)]) := by show _ = _; rw [hS, iL_append]; rfl
              have HLS : Hid ((F (k + 1)).length = k + 1) := by show _ = _; rw [hS, List.length_append, HLK.out]; rfl
              have HLKK : Hid ((iL (F k)).length ≤ 8) := by
                show (iL (F k)).length ≤ 8
                rw [iL_length, HLK.out]
                omega
              have hv0 : (0 : Int) ≤ (v : Int) := by omega
              clear hS hnx
              have HOWN := hid HR.out.own
              have HRA : Hid (RwI (wr.alloc (.cells #[.int .i64 (v : Nat)] 3)) w.heap.size _ (iL (F k))) := World.ownsRow.alloc HR.out _
              have HBA := hid (HB.out.alloc HB.out.size (.cells #[.int .i64 (v : Nat)] 3))
              have HIA := hid (one_int wr (v : Nat))
              go_wp2_with (at_builtin; refine wpList_append_ints rfl _ _ rfl w.heap.size _ (iL (F k)) [((v : Nat) : Int)] rfl HRA.out (some ⟨wr.heap.size, 0, none⟩) 1 rfl HIA.out (fun e => by cases e) (by have := HLKK.out; simp; omega) HBA.out.size ?_; intro v' w5 hr5 hg5)
              have hr6 := hr5
              rw [← HIL.out] at hr6
              obtain ⟨d5, cd5, rfl, _⟩ := hr6.ints
              have e5 : (iL (F (k + 1))).length = k + 1 := by rw [iL_length, HLS.out]
              rw [e5]
              rw [e5] at hr6
              have HR5 := hid hr6
              have HB5 := hid (HBA.out.grown hg5 HBA.out.size HOWN.out)
              clear hr5 hr6 hg5 e5
              go_roundw
              case rel => exact ⟨k + 1, by omega, HLS, HR5, HB5, d5, cd5, rfl⟩
              case measure => show L.length - (k + 1) < L.length - k; omega
          | succ j =>
            have hjj : (((j + 1 : Nat) : Int) - 1) = (j : Int) := by omega
            rw [hjj]
            obtain ⟨g, o, b, c, rfl, hg, c0, hI⟩ := (HF.out.below HB.out) j (by omega)
            have hll := HL.out L[j] (List.getElem_mem (by omega))
            have HNJ := hid (HNN.out j (by omega))
            have HPJ := hid (HPG.out j (by omega))
            have HIB := hid (HINB.out (j : Int) (by omega))
            have HST0 := hid (freeI_zero P (F k) j)
            have HII := hid hI
            have HFJ := hid (HFS.out j (by omega))
            have HFA : Hid (∀ p, P.getD j [] = p → freeI P (F k) j p.length = freeB P (F k) j) := fun p hp => freeI_all hp
            have HFU : Hid (∀ p i (h : i < p.length), P.getD j [] = p → freeI P (F k) j (i + 1) = (freeI P (F k) j i && decide (p[i] ∈ F k))) := fun p i h hp => freeI_succ hp h
            generalize L[j]'(by omega) = l at *
            clear hI hjj
            go_wp2_with fail
            refine (HIN.out (j : Int) _ HIO.out).mono ?_
            rintro e w2 ⟨rfl, rfl⟩
            rw [HIB.out, Int.toNat_natCast]
            have HD0 : Hid ((!decide (j ∈ F k)) = freeI P (F k) j 0) := HST0.out.symm
            clear HIB HST0
            generalize decide (j ∈ F k) = q at *
            go_wp2_with fail
            go_loopw [8, 9] (fun bv iv wz => ∃ i : Nat, i ≤ l.length ∧ iv = .int .i64 i ∧ bv = .bool (freeI P (F k) j i) ∧ wz = w2) (fun _ iv _ => l.length - (intOf iv).toNat)
            case atStart => exact ⟨0, Nat.zero_le _, rfl, by rw [HD0.out], rfl⟩
            case round =>
              obtain ⟨i, hi, rfl, rfl, rfl⟩ := hrel
              by_cases hil : i < l.length
              · obtain ⟨g', o', rfl, hg', c1⟩ := HII.out i hil
                have hnn := HNJ.out l[i] (List.getElem_mem hil)
                have HUU := HFU.out (toN l) i (by rw [toN_length]; exact hil) HPJ.out
                rw [toN_get hil] at HUU
                have HUX := hid HUU
                have HBB := hid (HINB.out l[i] hnn)
                clear HUU
                generalize l[i] = x at *
                go_wp2_with fail
                refine (HIN.out x _ HIO.out).mono ?_
                rintro e w3 ⟨rfl, rfl⟩
                rw [HBB.out]
                generalize hq1 : freeI P (F k) j (i + 1) = q1 at *
                generalize decide (x.toNat ∈ F k) = q2 at *
                generalize freeI P (F k) j i = q3 at *
                have HQ1 := hid hq1
                clear hq1
                cases q3 with
                | false =>
                  have hq : q1 = false := HUX.out
                  subst hq
                  go_wp2
                  go_roundw
                  case rel => exact ⟨i + 1, by omega, by go_num, by rw [HQ1.out], trivial⟩
                  case measure => simp [intOf]; omega
                | true =>
                  have hq : q1 = q2 := HUX.out
                  subst hq
                  go_wp2
                  go_roundw
                  case rel => exact ⟨i + 1, by omega, by go_num, by rw [HQ1.out], trivial⟩
                  case measure => simp [intOf]; omega
              · obtain rfl : i = l.length := by omega
                have hfa := HFA.out (toN l) HPJ.out
                rw [toN_length] at hfa
                rw [hfa]
                have HJ := HFJ.out
                cases hfb : freeB P (F k) j with
                | false =>
                  rw [hfb, if_neg (by decide)] at HJ
                  have HJJ := hid HJ
                  clear HJ hfa hfb
                  go_wp2
                  go_roundw
                  case rel => exact ⟨j, by omega, by first | rfl | go_num, by rw [HJJ.out], trivial⟩
                  case measure => simp [intOf]
                | true =>
                  rw [hfb, if_pos rfl] at HJ
                  have HJJ := hid HJ
                  clear HJ hfa hfb
                  go_wp2
                  go_roundw
                  case rel => exact ⟨j, by omega, by first | rfl | go_num, by rw [HJJ.out]; rfl, trivial⟩
                  case measure => simp [intOf]
      · obtain rfl : k = L.length := by omega
        have HE := hid (HE3.out (by rw [HLK.out]; omega))
        have HRR := HR
        go_wp2
        go_ret2
        exact ⟨HB.out, .inl ⟨HE.out, _, rfl, HR.out⟩⟩
set_option maxRecDepth 100000 in
set_option maxHeartbeats 1000000 in
theorem rGraphCheck_any (a : Option Addr) (ca : Nat) (L : List (List Int)) (w : World) (h : LsS w a L) (hl : ∀ l ∈ L, l.length ≤ 140737488355328) (hL : L.length ≤ 140737488355328) :
    Calls Try.prog 11 #[.slice a L.length ca] w fun e w' => e = .returned (.int .i64 (gcE L)) ∧ Below w.heap.size w w' := by
  have HF := hid h
  have HR := hid (fun (V : World) (hV : LsS V a L) => rOrder_any a ca L V hV hl hL)
  generalize gcE L = ge at *
  clear h hl
  go_enter Try.func11, Try.ntmps11
  go_wp2_with fail
  refine (HR.out _ HF.out).mono ?_
  rintro e w1 ⟨hb, ⟨rfl, x, rfl, hU⟩ | ⟨hg, rfl⟩⟩
  · clear hU
    go_wp2
    go_ret
    exact ⟨rfl, hb⟩
  · clear hg
    go_wp2
    go_ret
    exact ⟨rfl, hb⟩
end Go.Proofs.Ytpjgnjdekepbdaa


/- Memory of the document's answers Fill and Tree: rows that grow beside others, lists of lists, a matrix of bools. -/
namespace Go.Proofs.Ytpjgnjdekepbdaa
open Go.RowKit Go.Shelf

theorem KpT.set {t t' : TypeId} {w : World} {b : Nat} {c' : Array Value} {fr' : Nat × Nat} (hb : w.heap[b]? = some (.cells c' t' fr')) (hne : t ≠ t') (j : Nat) (y : Value) : KpT t w (w.setCell ⟨b, j, none⟩ y) := fun k c fr h => by
  refine (Below.heap_setCell w ⟨b, j, none⟩ y k fun e => ?_).trans h
  have e' : k = b := e
  subst e'
  rw [h] at hb
  cases hb
  exact hne rfl
theorem KpT.trans {t : TypeId} {a b c : World} (h : KpT t a b) (k : KpT t b c) : KpT t a c := fun i cs fr hi => k i cs fr (h i cs fr hi)
theorem KpT.refl {t : TypeId} (a : World) : KpT t a a := fun _ _ _ h => h
/-- An append leaves a row where it was, or makes a new block. -/
theorem wpList_append_int1 {w : World} {ops : Array Oper} {rest : List Oper} {o : Oper} {a : Act} {Q : Exit → Act → World → Prop} (hgd : o.guard = none) (s x : Operand)
    (ho : o.op = .call { callee := .builtin .append, args := #[s, x], argTypes := #[23, 23] }) (base : Nat) (v : Value) (l : List Int) (f : Int) (hs : a.eval s = v) (hown : RwI w base v l) (g : Nat) (hx : a.eval x = .slice (some ⟨g, 0, none⟩) 1 1) (hg : w.cell? ⟨g, 0, none⟩ = some (.int .i64 f)) (hlen : l.length + 1 ≤ 100000) (hbase : base ≤ w.heap.size)
    (h : ∀ v' w', RwI w' base v' (l ++ [f]) → w.grownBy w' v.ownBlock → (v'.ownBlock = v.ownBlock ∨ ∀ k, v'.ownBlock = some k → w.heap.size ≤ k) → wpList Try.prog ops Q rest (a.put o.dst v') w') : wpList Try.prog ops Q (o :: rest) a w := by
  obtain ⟨i0, hi0, hz0, hz1, hz2⟩ := info_parts Try.infoInt
  have hnews : ∀ j u, [Value.int .i64 f][j]? = some u → w.cell? ((⟨g, 0, none⟩ : Addr).add j) = some u := fun j u hj => by
    match j, hj with
    | 0, hj => cases hj; exact hg
    | j + 1, hj => simp at hj
  have hone : ∀ u ∈ [Value.int .i64 f], u.oneCell' = true := fun u hu => by
    simp only [List.mem_cons, List.not_mem_nil, or_false] at hu
    subst hu; rfl
  have hmax : l.length + 1 ≤ maxLen := by unfold maxLen; omega
  obtain ⟨v', w', hr, h2, h3, -⟩ := run_append_own (P := Try.prog) w base 23 o.type 3 i0 (.int .i64 0) 1 8 Try.underlying23 hi0 hz0 hz1 hz2 rfl (by decide) v l.length _ hown ⟨g, 0, none⟩ 1 1 [.int .i64 f] rfl hnews hone hmax (by omega) hbase
  have hnew : v'.ownBlock = v.ownBlock ∨ ∀ k, v'.ownBlock = some k → w.heap.size ≤ k := by
    rcases hown.2 with ⟨h4, h5⟩ | ⟨g', cap, cur, h4, hbg, hg', hnc, hcm, hcs, htake⟩
    · right
      have e := run_append_nil (P := Try.prog) w 23 o.type 3 i0 (.int .i64 0) Try.underlying23 hi0 hz0 ⟨g, 0, none⟩ 1 1 [.int .i64 f] (by rw [hz1]; rfl) hnews (by decide) (by decide) (by rw [hz2]; decide)
      rw [h4] at hr
      rw [hr] at e
      cases e
      intro k hk
      cases hk
      exact Nat.le_refl _
    · rw [h4] at hr
      by_cases hroom : l.length + 1 ≤ cap
      · left
        have e := run_append_room (P := Try.prog) w 23 o.type 3 i0 Try.underlying23 hi0 g' l.length cap cur hg' ⟨g, 0, none⟩ 1 1 [.int .i64 f] (by rw [hz1]; rfl) hnews hone hroom (by rw [hz1, hcs]; simp; omega)
        rw [hr] at e
        cases e
        rw [h4]; rfl
      · right
        have hown' := hown
        rw [h4] at hown'
        have e := run_append_grow (P := Try.prog) w 23 o.type 3 i0 (.int .i64 0) Try.underlying23 hi0 hz0 ⟨g', 0, none⟩ l.length cap (l.map (Value.int .i64)) (by rw [hz1]; simp) (World.ownsRow.cells hown' rfl) ⟨g, 0, none⟩ 1 1 [.int .i64 f] (by rw [hz1]; rfl) hnews (by omega) (by omega) (growslice_fits (by omega) (by rw [hz2]; omega))
        rw [hr] at e
        cases e
        intro k hk
        cases hk
        exact Nat.le_refl _
  refine wpList_plain hgd fun _ hK => ?_
  unfold Oper.wp execOp
  simp only [ho, resolve, invoke, builtin, Sem.run_bind, Sem.run_pure, Result.andThen_ok, List.map_toArray, List.map_cons, List.map_nil, hs, hx, hr]
  refine hK _ _ (h v' w' ?_ h3 hnew)
  rw [RwI, List.length_append, List.map_append]
  exact h2
/-- A list and what its value lists. -/
abbrev PI2 : Type := Value × List Int
/-- Lists in a row, each with its own. -/
def OwI (w : World) (B : Nat) (y : Value) (P : List PI2) : Prop := w.ownsRow B 23 1 y P.length (P.map (·.1)) ∧ ∀ p ∈ P, RwI w B p.1 p.2
theorem OwI.nil (w : World) (B : Nat) : OwI w B (.slice none 0 0) [] := ⟨⟨rfl, .inl ⟨rfl, rfl⟩⟩, fun p hp => by cases hp⟩
theorem wpList_append_list {w : World} {ops : Array Oper} {rest : List Oper} {o : Oper} {a : Act} {Q : Exit → Act → World → Prop} (hgd : o.guard = none) (s x : Operand)
    (ho : o.op = .call { callee := .builtin .append, args := #[s, x], argTypes := #[22, 22] }) (base : Nat) (v : Value) (P : List PI2) (d : Option Addr) (nd cd : Nat) (hs : a.eval s = v) (hown : w.ownsRow base 23 1 v P.length (P.map (·.1))) (g : Nat) (hx : a.eval x = .slice (some ⟨g, 0, none⟩) 1 1) (hg : w.cell? ⟨g, 0, none⟩ = some (.slice d nd cd)) (hlen : P.length + 1 ≤ 100000) (hbase : base ≤ w.heap.size)
    (h : ∀ v' w', w'.ownsRow base 23 1 v' (P.length + 1) (P.map (·.1) ++ [.slice d nd cd]) → w.grownBy w' v.ownBlock → wpList Try.prog ops Q rest (a.put o.dst v') w') : wpList Try.prog ops Q (o :: rest) a w := by
  obtain ⟨i0, hi0, hz0, hz1, hz2⟩ := info_parts Try.infoInts1
  refine wpList_append_own _ hgd s x 22 ho base 23 i0 (.slice none 0 0) 1 24 Try.underlying22 hi0 hz0 hz1 hz2 rfl (by decide) v P.length _ hs hown ⟨g, 0, none⟩ 1 1 [.slice d nd cd] hx rfl ?_ ?_ (by unfold maxLen; omega) (by omega) hbase ?_
  · intro j u hj
    match j, hj with
    | 0, hj => cases hj; exact hg
    | j + 1, hj => simp at hj
  · intro u hu
    simp only [List.mem_cons, List.not_mem_nil, or_false] at hu
    subst hu
    rfl
  · intro v' w' h1 h2 _
    exact h v' w' h1 h2
/-- Rows that lie elsewhere. -/
def ApT (v : Value) (P : List PI2) : Prop := ∀ p ∈ P, ∀ g, p.1.ownBlock = some g → v.ownBlock ≠ some g
/-- Where a row of ints grows, the lists that lie elsewhere stay. -/
theorem OwI.grown {w w' : World} {B : Nat} {y v : Value} {P : List PI2} (h : OwI w B y P) (ha : ApT v P) {l : List Int} {b : Nat} (hv : RwI w b v l) (hg : w.grownBy w' v.ownBlock) : OwI w' B y P := by
  refine ⟨own_kp h.1 (KpT.grown hg (own_typed hv) (by decide)), fun p hp => (h.2 p hp).kept hg ?_⟩
  cases e : p.1.ownBlock with
  | none => exact .inl rfl
  | some g => exact .inr fun e' => ha p hp g e (by rw [← e'])
theorem ApT.grown {w : World} {B : Nat} {y v v' : Value} {P : List PI2} (h : OwI w B y P) (ha : ApT v P) (hn : v'.ownBlock = v.ownBlock ∨ ∀ k, v'.ownBlock = some k → w.heap.size ≤ k) : ApT v' P := fun p hp g hg e => by
  rcases hn with hn | hn
  · exact ha p hp g hg (by rw [← hn]; exact e)
  · have := hn g e
    have := ((h.2 p hp).lt g hg).2
    omega
/-- A row of bools. -/
def RowB (w : World) (g : Nat) (l : List Bool) : Prop := w.heap[g]? = some (.cells (l.map Value.bool).toArray 4 (0, 0))
theorem RowB.cell {w : World} {g : Nat} {l : List Bool} (h : RowB w g l) (j : Nat) (hj : j < l.length) : w.cell? ⟨g, j, none⟩ = some (.bool l[j]) := by
  rw [cell_of_row w g j _ _ (0, 0) h]
  simp [hj]
theorem RowB.fz {w : World} {g : Nat} {l : List Bool} (h : RowB w g l) (j : Nat) : w.frozen? ⟨g, j, none⟩ = false := frozen_of_row w g j _ _ h
theorem RowB.set {w : World} {g : Nat} {l : List Bool} (h : RowB w g l) (j : Nat) (y : Bool) : RowB (w.setCell ⟨g, j, none⟩ (.bool y)) g (l.set j y) := by
  have h2 := heap_setCell_same w g j _ _ (.bool y) h
  rw [RowB, h2]
  simp [List.map_set]
theorem made_bools (n : Nat) : (madeCells (Value.bool false).cells (n * 1)).toList = List.replicate n (Value.bool false) := by
  rw [show (Value.bool false).cells = #[Value.bool false] from rfl, toList_madeCells_one, Nat.mul_one]
theorem Try.infoBool1 : (Try.prog.info? 4).map (fun i => (i.zero, i.size, i.bytes)) = some (some (.bool false), 1, 1) := by kernel_rfl
theorem Try.infoBools1 : (Try.prog.info? 72).map (fun i => (i.zero, i.size, i.bytes)) = some (some (.slice none 0 0), 1, 24) := by kernel_rfl
/-- What the block of all rows holds, where c rows are made. -/
def topV (n c : Nat) (R : Nat → Nat) : List Value := (List.range n).map fun v => if v < c then .slice (some ⟨R v, 0, none⟩) n n else .slice none 0 0
theorem topV_length (n c : Nat) (R : Nat → Nat) : (topV n c R).length = n := by simp [topV]
theorem topV_at {n c : Nat} {R : Nat → Nat} {v : Nat} (hv : v < n) (hc : v < c) : (topV n c R)[v]'(by rw [topV_length]; exact hv) = .slice (some ⟨R v, 0, none⟩) n n := by simp [topV, hc]
/-- A matrix of bools: c rows of n. -/
structure Mat (W : World) (B G n c : Nat) (R : Nat → Nat) (e : Nat → Nat → Bool) : Prop where
  top : W.heap[G]? = some (.cells (topV n c R).toArray 72 (0, 0))
  row : ∀ v, v < c → v < n → RowB W (R v) ((List.range n).map (e v))
  inj : ∀ v v', v < c → v' < c → R v = R v' → v = v'
  low : ∀ v, v < c → B ≤ R v
  gl : B ≤ G
theorem Mat.keep {W W' : World} {B G n c : Nat} {R : Nat → Nat} {e : Nat → Nat → Bool} (h : Mat W B G n c R e) (h1 : KpT 72 W W') (h2 : KpT 4 W W') : Mat W' B G n c R e := ⟨h1 _ _ _ h.top, fun v hc hv => h2 _ _ _ (h.row v hc hv), h.inj, h.low, h.gl⟩
theorem Mat.below {W W' : World} {B G n c : Nat} {R : Nat → Nat} {e : Nat → Nat → Bool} (h : Mat W B G n c R e) (hb : Below W.heap.size W W') : Mat W' B G n c R e := h.keep (KpT.below hb) (KpT.below hb)
theorem Mat.slice {W : World} {B G n c : Nat} {R : Nat → Nat} {e : Nat → Nat → Bool} (h : Mat W B G n c R e) {v : Nat} (hv : v < n) (hc : v < c) : W.cell? ⟨G, v, none⟩ = some (.slice (some ⟨R v, 0, none⟩) n n) := by
  rw [cell_of_row W G v _ _ (0, 0) h.top, List.getElem?_toArray, List.getElem?_eq_getElem (by rw [topV_length]; exact hv), topV_at hv hc]
theorem Mat.cell {W : World} {B G n c : Nat} {R : Nat → Nat} {e : Nat → Nat → Bool} (h : Mat W B G n c R e) {v u : Nat} (hv : v < n) (hc : v < c) (hu : u < n) : W.cell? ⟨R v, u, none⟩ = some (.bool (e v u)) := by
  rw [(h.row v hc hv).cell u (by simpa using hu)]
  simp
theorem Mat.set {W : World} {B G n c : Nat} {R : Nat → Nat} {e e' : Nat → Nat → Bool} (h : Mat W B G n c R e) {v u : Nat} {b : Bool} (hv : v < n) (hc : v < c) (he : ∀ v' u', e' v' u' = if v' = v ∧ u' = u then b else e v' u') : Mat (W.setCell ⟨R v, u, none⟩ (.bool b)) B G n c R e' := by
  have hr := h.row v hc hv
  refine ⟨KpT.set hr (by decide) u _ _ _ _ h.top, fun v' hc' hv' => ?_, h.inj, h.low, h.gl⟩
  by_cases ev : v' = v
  · subst ev
    have := hr.set u b
    have el : ((List.range n).map (e v')).set u b = (List.range n).map (e' v') := by
      refine List.ext_getElem (by simp) fun j h1 h2 => ?_
      rw [List.getElem_set]
      simp only [List.getElem_map, List.getElem_range, he]
      by_cases ej : u = j
      · simp [ej]
      · rw [if_neg ej, if_neg fun e => ej e.2.symm]
    rwa [el] at this
  · have ne : R v' ≠ R v := fun e => ev (h.inj v' v hc' hc e)
    have el : (List.range n).map (e' v') = (List.range n).map (e v') := List.map_congr_left fun j _ => by rw [he, if_neg fun e => ev e.1]
    rw [el]
    exact (Below.heap_setCell W ⟨R v, u, none⟩ _ (R v') ne).trans (h.row v' hc' hv')
theorem Mat.congr {W : World} {B G n c : Nat} {R : Nat → Nat} {e e' : Nat → Nat → Bool} (h : Mat W B G n c R e) (he : ∀ v u, v < c → u < n → e v u = e' v u) : Mat W B G n c R e' := ⟨h.top, fun v hc hv => by
  have el : (List.range n).map (e' v) = (List.range n).map (e v) := List.map_congr_left fun j hj => (he v j hc (List.mem_range.1 hj)).symm
  rw [el]; exact h.row v hc hv, h.inj, h.low, h.gl⟩
/-- One row more. -/
theorem Mat.more {W W1 : World} {B G n c g : Nat} {R : Nat → Nat} {e : Nat → Nat → Bool} (h : Mat W B G n c R e) (hb : Below W.heap.size W W1) (hg : W.heap.size ≤ g) (hB : B ≤ W.heap.size) (hr : RowB W1 g (List.replicate n false)) (hc : c < n) : Mat (W1.setCell ⟨G, c, none⟩ (.slice (some ⟨g, 0, none⟩) n n)) B G n (c + 1) (fun x => if x = c then g else R x) (fun v u => if v = c then false else e v u) := by
  have hlt : ∀ v, v < c → R v < W.heap.size := fun v hv => (Array.getElem?_eq_some_iff.1 (h.row v hv (by omega))).1
  have hG : W1.heap[G]? = some (.cells (topV n c R).toArray 72 (0, 0)) := KpT.below hb _ _ _ h.top
  have hset := heap_setCell_same W1 G c _ _ (.slice (some ⟨g, 0, none⟩) n n) hG
  have hrow : ∀ r l, RowB W1 r l → RowB (W1.setCell ⟨G, c, none⟩ (.slice (some ⟨g, 0, none⟩) n n)) r l := fun r l hl => KpT.set hG (by decide) c _ _ _ _ hl
  refine ⟨?_, fun v hv hvn => ?_, fun v v' hv hv' e' => ?_, fun v hv => ?_, h.gl⟩
  · rw [hset]
    have el : (topV n c R).toArray.setIfInBounds c (.slice (some ⟨g, 0, none⟩) n n) = (topV n (c + 1) (fun x => if x = c then g else R x)).toArray := by
      rw [List.setIfInBounds_toArray]
      congr 1
      refine List.ext_getElem (by simp [topV]) fun j h1 h2 => ?_
      rw [List.getElem_set]
      simp only [topV, List.getElem_map, List.getElem_range]
      by_cases ej : c = j
      · subst ej; simp
      · rw [if_neg ej]
        by_cases hj : j < c
        · rw [if_pos hj, if_pos (by omega), if_neg (by omega)]
        · rw [if_neg hj, if_neg (by omega)]
    rw [el]
  · by_cases ev : v = c
    · subst ev
      have el : (List.range n).map (fun u => if v = v then false else e v u) = List.replicate n false := List.ext_getElem (by simp) fun i _ _ => by simp
      show RowB _ (if v = v then g else R v) ((List.range n).map (fun u => if v = v then false else e v u))
      rw [if_pos rfl, el]
      exact hrow _ _ hr
    · show RowB _ (if v = c then g else R v) ((List.range n).map (fun u => if v = c then false else e v u))
      simp only [if_neg ev]
      exact hrow _ _ (KpT.below hb _ _ _ (h.row v (by omega) hvn))
  · have e1 : (if v = c then g else R v) = (if v' = c then g else R v') := e'
    by_cases h1 : v = c
    · by_cases h2 : v' = c
      · rw [h1, h2]
      · rw [if_pos h1, if_neg h2] at e1
        have := hlt v' (by omega); omega
    · by_cases h2 : v' = c
      · rw [if_neg h1, if_pos h2] at e1
        have := hlt v (by omega); omega
      · rw [if_neg h1, if_neg h2] at e1
        exact h.inj v v' (by omega) (by omega) e1
  · show B ≤ (if v = c then g else R v)
    by_cases h1 : v = c
    · rw [if_pos h1]; omega
    · rw [if_neg h1]; exact h.low v (by omega)
/-- The matrix under way: all rows ahead of v, of v what stands ahead of u. -/
def e0B (P : List (List Nat)) (v u v' u' : Nat) : Bool := (decide (v' < v) || (decide (v' = v) && decide (u' < u))) && decide (u' ∈ P.getD v' [])
theorem e0B_put (P : List (List Nat)) (v u v' u' : Nat) : e0B P v (u + 1) v' u' = if v' = v ∧ u' = u then decide (u ∈ P.getD v []) else e0B P v u v' u' := by
  by_cases h : v' = v ∧ u' = u
  · rw [if_pos h, h.1, h.2]; simp [e0B]
  · rw [if_neg h, e0B, e0B]
    congr 2
    by_cases h1 : v' = v
    · have h2 : u' ≠ u := fun e => h ⟨h1, e⟩
      rw [decide_eq_true h1, Bool.true_and, Bool.true_and]
      exact decide_eq_decide.2 ⟨fun _ => by omega, fun _ => by omega⟩
    · rw [decide_eq_false h1, Bool.false_and, Bool.false_and]
theorem e0B_next {P : List (List Nat)} {n v v' u' : Nat} (h1 : v' < v + 1) (h2 : u' < n) : e0B P v n v' u' = e0B P (v + 1) 0 v' u' := by
  rw [e0B, e0B]
  congr 1
  rw [decide_eq_true h1, Bool.true_or, Bool.or_eq_true, decide_eq_true_iff, Bool.and_eq_true, decide_eq_true_iff, decide_eq_true_iff]
  omega
theorem e0B_new (P : List (List Nat)) {v v' : Nat} (_h : v' < v + 1) (u' : Nat) : (if v' = v then false else e0B P v 0 v' u') = e0B P v 0 v' u' := by
  by_cases e : v' = v
  · rw [if_pos e, e]; simp [e0B]
  · rw [if_neg e]
end Go.Proofs.Ytpjgnjdekepbdaa

