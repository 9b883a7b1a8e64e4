/- The document's answer: Order, GraphCheck. -/
import Derived.Test.YtockhhleapbpiaaAbvPToOrdD
namespace Go.Proofs.Ytockhhleapbpiaa
open Go.RowKit Go.Shelf

/-- The least from j on that may come next. -/
def fromN (P : List (List Nat)) (out : List Nat) (j : Nat) : Option Nat := (List.range' j (P.length - j)).find? (freeB P out)
def encO : Option Nat → Int
  | some v => (v : Int)
  | none => -1
theorem fromN_zero (P : List (List Nat)) (out : List Nat) : fromN P out 0 = nextV P out := by rw [fromN, nextV, List.range_eq_range']; rfl
theorem fromN_end (P : List (List Nat)) (out : List Nat) : fromN P out P.length = none := by rw [fromN, Nat.sub_self]; rfl
theorem fromN_step {P : List (List Nat)} {out : List Nat} {j : Nat} (h : j < P.length) : fromN P out j = if freeB P out j = true then some j else fromN P out (j + 1) := by
  rw [fromN, fromN, show P.length - j = (P.length - (j + 1)) + 1 by omega, List.range'_succ, List.find?_cons]
  cases freeB P out j <;> rfl
/-- Is a node free as far as i of its parents say? -/
def freeI (P : List (List Nat)) (out : List Nat) (v i : Nat) : Bool := !decide (v ∈ out) && decide (∀ u ∈ (P.getD v []).take i, u ∈ out)
theorem freeI_zero (P : List (List Nat)) (out : List Nat) (v : Nat) : freeI P out v 0 = !decide (v ∈ out) := by simp [freeI]
theorem freeI_succ {P : List (List Nat)} {out p : List Nat} {v i : Nat} (hp : P.getD v [] = p) (h : i < p.length) : freeI P out v (i + 1) = (freeI P out v i && decide (p[i] ∈ out)) := by
  rw [freeI, freeI, hp, List.take_succ_eq_append_getElem h, Bool.and_assoc]
  congr 1
  rw [Bool.eq_iff_iff, Bool.and_eq_true, decide_eq_true_iff, decide_eq_true_iff, decide_eq_true_iff]
  constructor
  · intro H
    exact ⟨fun u hu => H u (List.mem_append_left _ hu), H _ (List.mem_append_right _ List.mem_cons_self)⟩
  · rintro ⟨H1, H2⟩ u hu
    rcases List.mem_append.1 hu with hu | hu
    · exact H1 u hu
    · rw [List.mem_singleton.1 hu]; exact H2
theorem freeI_all {P : List (List Nat)} {out p : List Nat} {v : Nat} (hp : P.getD v [] = p) : freeI P out v p.length = freeB P out v := by
  rw [freeI, freeB, hp, List.take_length]

set_option maxRecDepth 100000 in
set_option maxHeartbeats 2000000 in
theorem rOrder_any (a : Option Addr) (ca : Nat) (L : List (List Int)) (w : World) (h : LsS w a L) (hl : ∀ l ∈ L, l.length ≤ 140737488355328) (hL : L.length ≤ 140737488355328) :
    Calls Try.prog 9 #[.slice a L.length ca] w fun e w' => Below w.heap.size w w' ∧
      ((gcE L = 0 ∧ ∃ x, e = .returned (.tuple #[x, .int .i64 0]) ∧ RwI w' w.heap.size x (iL (ordN (parN L) L.length))) ∨ (gcE L ≠ 0 ∧ e = .returned (.tuple #[.slice none 0 0, .int .i64 (gcE L)]))) := by
  obtain ⟨i0, hi0, hz0, hz1, hz2⟩ := info_parts Try.infoInt
  have HF := hid h
  have HK := hid (fun (V : World) (hV : LsS V a L) => rListsOK_any a ca L V hV hl hL)
  have HL := hid hl
  have HG1 : Hid (gB L = false → gcE L = 11) := fun h => if_neg (by rw [h]; decide)
  have HG2 : Hid (gB L = true → (ordN (parN L) L.length).length < L.length → gcE L = 10) := fun h1 h2 => by rw [gcE, if_pos h1, if_pos h2]
  have HG3 : Hid (gB L = true → ¬ (ordN (parN L) L.length).length < L.length → gcE L = 0) := fun h1 h2 => by rw [gcE, if_pos h1, if_neg h2]
  have hPl := parN_length L
  have HPG : Hid (∀ i (h : i < L.length), (parN L).getD i [] = toN L[i]) := fun i h => parN_get h
  have HGR : Hid (gB L = true → L.length ≤ 8 ∧ ∀ i (h : i < L.length), ∀ y ∈ L[i], 0 ≤ y) := fun h => ⟨(gB_parts h).2.1, fun i hi => ris_nonneg (allRis_at (gB_parts h).2.2.1 hi)⟩
  generalize gcE L = ge at *
  generalize parN L = P at *
  clear h hl
  cases hgb : gB L with
  | false =>
    have HE := hid (HG1.out hgb)
    rw [hgb] at HK
    clear hgb HG1 HG2 HG3 HGR
    go_enter Try.func9, Try.ntmps9
    go_wp2_with fail
    refine (HK.out _ HF.out).mono ?_
    rintro e w1 ⟨rfl, hb1⟩
    go_wp2
    go_ret2
    exact ⟨hb1, .inr ⟨by rw [HE.out]; decide, by rw [HE.out]; rfl⟩⟩
  | true =>
    have HE2 := hid (HG2.out hgb)
    have HE3 := hid (HG3.out hgb)
    obtain ⟨h8, hnn⟩ := HGR.out hgb
    have HNN := hid hnn
    rw [hgb] at HK
    clear hgb HG1 HG2 HG3 HGR hnn
    have HO0 : Hid (ordN P 0 = []) := rfl
    have HLN := hid (ord_len P)
    have HSO : Hid (∀ k v, nextV P (ordN P k) = some v → ordN P (k + 1) = ordN P k ++ [v]) := fun k v h => ord_some h
    have HST : Hid (∀ k, k < L.length → nextV P (ordN P k) = none → (ordN P L.length).length < L.length) := fun k h1 h2 => by
      have := ord_full P h2 (by omega)
      rwa [hPl] at this
    generalize hFF : ordN P = F at *
    clear hFF
    go_enter Try.func9, Try.ntmps9
    go_wp2_with fail
    refine (HK.out _ HF.out).mono ?_
    rintro e w1 ⟨rfl, hb1⟩
    have HB1 := hid hb1
    clear hb1 HK
    go_wp2_with fail
    go_loopw [5] (fun ov wr => ∃ k : Nat, k ≤ L.length ∧ Hid ((F k).length = k) ∧ Hid (RwI wr w.heap.size ov (iL (F k))) ∧ Hid (Below w.heap.size w wr) ∧ ∃ d cd, ov = .slice d k cd) (fun ov _ => L.length - (match ov with | .slice _ n _ => n | _ => 0))
    case atStart => exact ⟨0, Nat.zero_le _, by rw [HO0.out]; rfl, by rw [HO0.out]; exact ⟨rfl, .inl ⟨rfl, rfl⟩⟩, HB1, none, 0, rfl⟩
    case round =>
      obtain ⟨k, hk, HLK, HR, HB, d, cd, rfl⟩ := hrel
      clear HB1
      by_cases hlt : k < L.length
      · have hIo : IntS wr d (iL (F k)) := by
          obtain ⟨d', cd', e, hi⟩ := HR.out.ints
          injection e with e1 e2 e3
          subst e1
          exact hi
        have HIO := hid hIo
        have hil : (iL (F k)).length = k := by rw [iL_length, HLK.out]
        have HIN : Hid (∀ (x : Int) (V : World), IntS V d (iL (F k)) → Calls Try.prog 26 #[.int .i64 x, .slice d k cd] V fun e w' => e = .returned (.bool (inB x (iL (F k)))) ∧ w' = V) := fun x V hV => by
          have := rIn_any x d cd (iL (F k)) V hV (by omega)
          rwa [hil] at this
        have HINB : Hid (∀ x : Int, 0 ≤ x → inB x (iL (F k)) = decide (x.toNat ∈ F k)) := fun x hx => inB_iL (F k) hx
        have HSOk := hid (HSO.out k)
        have HSTk := hid (HST.out k hlt)
        have HFZ := hid (fromN_zero P (F k))
        have HFE : Hid (fromN P (F k) L.length = none) := by rw [← hPl]; exact fromN_end P (F k)
        have HFS : Hid (∀ j, j < L.length → fromN P (F k) j = if freeB P (F k) j = true then some j else fromN P (F k) (j + 1)) := fun j hj => fromN_step (by omega)
        clear hIo hil
        go_wp2_with fail
        go_loopw [6, 7] (fun nv vv wq => ∃ j : Nat, j ≤ L.length ∧ vv = .int .i64 ((j : Int) - 1) ∧ nv = .int .i64 (encO (fromN P (F k) j)) ∧ wq = wr) (fun _ vv _ => (intOf vv + 1).toNat)
        case atStart => exact ⟨L.length, Nat.le_refl _, by first | rfl | go_num, by rw [HFE.out]; rfl, rfl⟩
        case round =>
          obtain ⟨j, hj, rfl, rfl, rfl⟩ := hrel
          cases j with
          | zero =>
            rw [HFZ.out]
            cases hnx : nextV P (F k) with
            | none =>
              have HE := hid (HE2.out (HSTk.out hnx))
              clear hnx
              go_wp2
              go_ret2
              exact ⟨HB.out, .inr ⟨by rw [HE.out]; decide, by rw [HE.out]; rfl⟩⟩
            | some v =>
              have hS := HSOk.out v hnx
              have HIL : Hid (iL (F (k + 1)) = iL (F k) ++ [(v : Int)]) := by show _ = _; rw [hS, iL_append]; rfl
              have HLS : Hid ((F (k + 1)).length = k + 1) := by show _ = _; rw [hS, List.length_append, HLK.out]; rfl
              have HLKK : Hid ((iL (F k)).length ≤ 8) := by
                show (iL (F k)).length ≤ 8
                rw [iL_length, HLK.out]
                omega
              have hv0 : (0 : Int) ≤ (v : Int) := by omega
              clear hS hnx
              have HOWN := hid HR.out.own
              have HRA : Hid (RwI (wr.alloc (.cells #[.int .i64 (v : Nat)] 3)) w.heap.size _ (iL (F k))) := World.ownsRow.alloc HR.out _
              have HBA := hid (HB.out.alloc HB.out.size (.cells #[.int .i64 (v : Nat)] 3))
              have HIA := hid (one_int wr (v : Nat))
              go_wp2_with (at_builtin; refine wpList_append_ints rfl _ _ rfl w.heap.size _ (iL (F k)) [((v : Nat) : Int)] rfl HRA.out (some ⟨wr.heap.size, 0, none⟩) 1 rfl HIA.out (fun e => by cases e) (by have := HLKK.out; simp; omega) HBA.out.size ?_; intro v' w5 hr5 hg5)
              have hr6 := hr5
              rw [← HIL.out] at hr6
              obtain ⟨d5, cd5, rfl, _⟩ := hr6.ints
              have e5 : (iL (F (k + 1))).length = k + 1 := by rw [iL_length, HLS.out]
              rw [e5]
              rw [e5] at hr6
              have HR5 := hid hr6
              have HB5 := hid (HBA.out.grown hg5 HBA.out.size HOWN.out)
              clear hr5 hr6 hg5 e5
              go_roundw
              case rel => exact ⟨k + 1, by omega, HLS, HR5, HB5, d5, cd5, rfl⟩
              case measure => show L.length - (k + 1) < L.length - k; omega
          | succ j =>
            have hjj : (((j + 1 : Nat) : Int) - 1) = (j : Int) := by omega
            rw [hjj]
            obtain ⟨g, o, b, c, rfl, hg, c0, hI⟩ := (HF.out.below HB.out) j (by omega)
            have hll := HL.out L[j] (List.getElem_mem (by omega))
            have HNJ := hid (HNN.out j (by omega))
            have HPJ := hid (HPG.out j (by omega))
            have HIB := hid (HINB.out (j : Int) (by omega))
            have HST0 := hid (freeI_zero P (F k) j)
            have HII := hid hI
            have HFJ := hid (HFS.out j (by omega))
            have HFA : Hid (∀ p, P.getD j [] = p → freeI P (F k) j p.length = freeB P (F k) j) := fun p hp => freeI_all hp
            have HFU : Hid (∀ p i (h : i < p.length), P.getD j [] = p → freeI P (F k) j (i + 1) = (freeI P (F k) j i && decide (p[i] ∈ F k))) := fun p i h hp => freeI_succ hp h
            generalize L[j]'(by omega) = l at *
            clear hI hjj
            go_wp2_with fail
            refine (HIN.out (j : Int) _ HIO.out).mono ?_
            rintro e w2 ⟨rfl, rfl⟩
            rw [HIB.out, Int.toNat_natCast]
            have HD0 : Hid ((!decide (j ∈ F k)) = freeI P (F k) j 0) := HST0.out.symm
            clear HIB HST0
            generalize decide (j ∈ F k) = q at *
            go_wp2_with fail
            go_loopw [8, 9] (fun bv iv wz => ∃ i : Nat, i ≤ l.length ∧ iv = .int .i64 i ∧ bv = .bool (freeI P (F k) j i) ∧ wz = w2) (fun _ iv _ => l.length - (intOf iv).toNat)
            case atStart => exact ⟨0, Nat.zero_le _, rfl, by rw [HD0.out], rfl⟩
            case round =>
              obtain ⟨i, hi, rfl, rfl, rfl⟩ := hrel
              by_cases hil : i < l.length
              · obtain ⟨g', o', rfl, hg', c1⟩ := HII.out i hil
                have hnn := HNJ.out l[i] (List.getElem_mem hil)
                have HUU := HFU.out (toN l) i (by rw [toN_length]; exact hil) HPJ.out
                rw [toN_get hil] at HUU
                have HUX := hid HUU
                have HBB := hid (HINB.out l[i] hnn)
                clear HUU
                generalize l[i] = x at *
                go_wp2_with fail
                refine (HIN.out x _ HIO.out).mono ?_
                rintro e w3 ⟨rfl, rfl⟩
                rw [HBB.out]
                generalize hq1 : freeI P (F k) j (i + 1) = q1 at *
                generalize decide (x.toNat ∈ F k) = q2 at *
                generalize freeI P (F k) j i = q3 at *
                have HQ1 := hid hq1
                clear hq1
                cases q3 with
                | false =>
                  have hq : q1 = false := HUX.out
                  subst hq
                  go_wp2
                  go_roundw
                  case rel => exact ⟨i + 1, by omega, by go_num, by rw [HQ1.out], trivial⟩
                  case measure => simp [intOf]; omega
                | true =>
                  have hq : q1 = q2 := HUX.out
                  subst hq
                  go_wp2
                  go_roundw
                  case rel => exact ⟨i + 1, by omega, by go_num, by rw [HQ1.out], trivial⟩
                  case measure => simp [intOf]; omega
              · obtain rfl : i = l.length := by omega
                have hfa := HFA.out (toN l) HPJ.out
                rw [toN_length] at hfa
                rw [hfa]
                have HJ := HFJ.out
                cases hfb : freeB P (F k) j with
                | false =>
                  rw [hfb, if_neg (by decide)] at HJ
                  have HJJ := hid HJ
                  clear HJ hfa hfb
                  go_wp2
                  go_roundw
                  case rel => exact ⟨j, by omega, by first | rfl | go_num, by rw [HJJ.out], trivial⟩
                  case measure => simp [intOf]
                | true =>
                  rw [hfb, if_pos rfl] at HJ
                  have HJJ := hid HJ
                  clear HJ hfa hfb
                  go_wp2
                  go_roundw
                  case rel => exact ⟨j, by omega, by first | rfl | go_num, by rw [HJJ.out]; rfl, trivial⟩
                  case measure => simp [intOf]
      · obtain rfl : k = L.length := by omega
        have HE := hid (HE3.out (by rw [HLK.out]; omega))
        have HRR := HR
        go_wp2
        go_ret2
        exact ⟨HB.out, .inl ⟨HE.out, _, rfl, HR.out⟩⟩
set_option maxRecDepth 100000 in
set_option maxHeartbeats 1000000 in
theorem rGraphCheck_any (a : Option Addr) (ca : Nat) (L : List (List Int)) (w : World) (h : LsS w a L) (hl : ∀ l ∈ L, l.length ≤ 140737488355328) (hL : L.length ≤ 140737488355328) :
    Calls Try.prog 12 #[.slice a L.length ca] w fun e w' => e = .returned (.int .i64 (gcE L)) ∧ Below w.heap.size w w' := by
  have HF := hid h
  have HR := hid (fun (V : World) (hV : LsS V a L) => rOrder_any a ca L V hV hl hL)
  generalize gcE L = ge at *
  clear h hl
  go_enter Try.func12, Try.ntmps12
  go_wp2_with fail
  refine (HR.out _ HF.out).mono ?_
  rintro e w1 ⟨hb, ⟨rfl, x, rfl, hU⟩ | ⟨hg, rfl⟩⟩
  · clear hU
    go_wp2
    go_ret
    exact ⟨rfl, hb⟩
  · clear hg
    go_wp2
    go_ret
    exact ⟨rfl, hb⟩
end Go.Proofs.Ytockhhleapbpiaa


/- The document's answers: isAbove, aboveOne, Above. -/
namespace Go.Proofs.Ytockhhleapbpiaa
open Go.RowKit Go.Shelf

/-- Is u the node v, or above it? -/
def abB (L : List (List Int)) (u v : Nat) : Bool := abF (parN L) u L.length v
theorem abB_iff {L : List (List Int)} (h : gcE L = 0) {u v : Nat} (hv : v < L.length) : abB L u v = true ↔ u = v ∨ Abv (fun u v => u ∈ (parN L).getD v []) u v := abF_iff h u L.length v (Nat.le_of_lt (rk_top h hv))
theorem abB_eq {L : List (List Int)} (h : gcE L = 0) {u v : Nat} (hv : v < L.length) : abB L u v = (decide (u = v) || ((parN L).getD v []).any (abB L u)) := by
  have hpl : ∀ c ∈ (parN L).getD v [], c < L.length := fun c hc => (pa_lt (gc_parts h).1 hc).1
  refine Bool.eq_iff_iff.2 ?_
  rw [abB_iff h hv, Bool.or_eq_true, decide_eq_true_iff, List.any_eq_true]
  refine or_congr_right ⟨fun ha => ?_, fun ⟨c, hc, h1⟩ => ?_⟩
  · rcases Abv.last ha with hp | ⟨c, h1, hp⟩
    · exact ⟨u, hp, (abB_iff h (hpl u hp)).2 (.inl rfl)⟩
    · exact ⟨c, hp, (abB_iff h (hpl c hp)).2 (.inr h1)⟩
  · rcases (abB_iff h (hpl c hc)).1 h1 with rfl | h2
    · exact .one hc
    · exact .more h2 hc
theorem any_take {l : List Nat} {p : Nat → Bool} {i : Nat} (h : i < l.length) : (l.take (i + 1)).any p = ((l.take i).any p || p l[i]) := by
  rw [List.take_succ_eq_append_getElem h, List.any_append]; simp

set_option maxRecDepth 100000 in
set_option maxHeartbeats 1000000 in
theorem isAbove_any (a : Option Addr) (ca : Nat) (L : List (List Int)) (w : World) (h : LsS w a L) (hl : ∀ l ∈ L, l.length ≤ 1000) (hg : gcE L = 0) (u : Nat) : ∀ m v, rkN (parN L) v ≤ m → v < L.length →
    Calls Try.prog 68 #[.slice a L.length ca, .int .i64 (u : Nat), .int .i64 (v : Nat)] w fun e w' => e = .returned (.bool (abB L u v)) ∧ w' = w := by
  intro m
  induction m with
  | zero =>
    intro v hm hv
    have hno : (parN L).getD v [] = [] := by
      cases hp : (parN L).getD v [] with
      | nil => rfl
      | cons c r =>
        have := rk_pa hg (u := c) (v := v) (by rw [hp]; exact List.mem_cons_self)
        omega
    have HE := hid (abB_eq (u := u) hg hv)
    rw [hno] at HE
    obtain ⟨h8, h8', hris, -⟩ := gB_parts (gc_parts hg).1
    obtain ⟨g, o, b, c, rfl, hgl, c0, -⟩ := h v hv
    have hl0 : (L[v]'hv).length = 0 := by
      rw [parN_get hv] at hno
      have := congrArg List.length hno
      rw [toN_length] at this
      exact this
    rw [hl0] at c0
    generalize abB L u v = q at *
    by_cases huv : u = v
    · have hq : q = true := by rw [HE.out, decide_eq_true huv]; rfl
      have hi : (((u : Nat) : Int) == ((v : Nat) : Int)) = true := by rw [huv]; exact beq_self_eq_true _
      clear HE huv h
      subst hq
      go_enter Try.func68, Try.ntmps68
      go_wp2
      go_ret
      exact ⟨rfl, rfl⟩
    · have hq : q = false := by rw [HE.out, decide_eq_false huv]; rfl
      have hi : (((u : Nat) : Int) == ((v : Nat) : Int)) = false := beq_eq_false_iff_ne.2 (by omega)
      clear HE huv h
      subst hq
      go_enter Try.func68, Try.ntmps68
      go_wp2_with fail
      go_loopw [7] (fun iv wr => iv = .int .i64 0 ∧ wr = w) (fun _ _ => 0)
      case atStart => exact ⟨rfl, rfl⟩
      case round =>
        obtain ⟨rfl, rfl⟩ := hrel
        go_wp2
        go_ret
        exact ⟨rfl, rfl⟩
  | succ m ih =>
    intro v hm hv
    obtain ⟨h8, h8', hris, -⟩ := gB_parts (gc_parts hg).1
    have hrv := allRis_at hris hv
    have HNN : Hid (∀ y ∈ L[v]'hv, 0 ≤ y) := ris_nonneg hrv
    have hpg := parN_get hv
    have HE := hid (abB_eq (u := u) hg hv)
    rw [hpg] at HE
    have HIH : Hid (∀ c ∈ toN (L[v]'hv), Calls Try.prog 68 #[.slice a L.length ca, .int .i64 (u : Nat), .int .i64 (c : Nat)] w fun e w' => e = .returned (.bool (abB L u c)) ∧ w' = w) := fun c hc => by
      rw [← hpg] at hc
      have := rk_pa hg hc
      exact ih c (by omega) (pa_lt (gc_parts hg).1 hc).1
    have hll := hl _ (List.getElem_mem hv)
    obtain ⟨g, o, b, c, rfl, hgl, c0, hI⟩ := h v hv
    have HI := hid hI
    have HAT : Hid (∀ i (h : i < (toN (L[v]'hv)).length), ((toN (L[v]'hv)).take (i + 1)).any (abB L u) = (((toN (L[v]'hv)).take i).any (abB L u) || abB L u (toN (L[v]'hv))[i])) := fun i h => any_take h
    have HAY : Hid (∀ c ∈ toN (L[v]'hv), abB L u c = true → (toN (L[v]'hv)).any (abB L u) = true) := fun c hc h1 => List.any_eq_true.2 ⟨c, hc, h1⟩
    have HA0 : Hid (((toN (L[v]'hv)).take 0).any (abB L u) = false) := by show _ = _; rw [List.take_zero]; rfl
    have HAE : Hid (((toN (L[v]'hv)).take (toN (L[v]'hv)).length).any (abB L u) = (toN (L[v]'hv)).any (abB L u)) := by show _ = _; rw [List.take_length]
    have hv8 : v < 8 := by omega
    clear hI h hl hris hrv hpg ih
    generalize L[v]'hv = l at *
    generalize abB L u v = q at *
    generalize abB L u = AB at *
    by_cases huv : u = v
    · have hq : q = true := by rw [HE.out, decide_eq_true huv]; rfl
      have hi : (((u : Nat) : Int) == ((v : Nat) : Int)) = true := by rw [huv]; exact beq_self_eq_true _
      clear HE huv HI HIH HAT HAY HA0 HAE
      subst hq
      go_enter Try.func68, Try.ntmps68
      go_wp2
      go_ret
      exact ⟨rfl, rfl⟩
    · rw [decide_eq_false huv, Bool.false_or] at HE
      have hi : (((u : Nat) : Int) == ((v : Nat) : Int)) = false := beq_eq_false_iff_ne.2 (by omega)
      clear huv
      go_enter Try.func68, Try.ntmps68
      go_wp2_with fail
      go_loopw [7] (fun iv wr => ∃ i : Nat, i ≤ l.length ∧ iv = .int .i64 i ∧ Hid (((toN l).take i).any AB = false) ∧ wr = w) (fun iv _ => l.length - (intOf iv).toNat)
      case atStart => exact ⟨0, Nat.zero_le _, rfl, HA0, rfl⟩
      case round =>
        obtain ⟨i, hi', rfl, HF, rfl⟩ := hrel
        by_cases hil : i < l.length
        · obtain ⟨g2, o2, rfl, hg2, c2⟩ := HI.out i hil
          have hnn := HNN.out _ (List.getElem_mem hil)
          have hil2 : i < (toN l).length := by rw [toN_length]; exact hil
          have hti : (toN l)[i] = l[i].toNat := toN_get hil
          have HC := hid (HIH.out (toN l)[i] (List.getElem_mem hil2))
          have HT := hid (HAT.out i hil2)
          have HY := hid (HAY.out (toN l)[i] (List.getElem_mem hil2))
          rw [hti] at HC HT HY
          rw [HF.out, Bool.false_or] at HT
          have hci : ((l[i].toNat : Nat) : Int) = l[i] := by omega
          rw [← hci] at c2
          generalize l[i].toNat = cc at *
          clear hci hti hil2 hnn HAT HAY HIH
          go_wp2_with fail
          refine HC.out.mono ?_
          rintro e w1 ⟨rfl, rfl⟩
          generalize AB cc = qc at *
          cases qc with
          | true =>
            have hq : q = true := by rw [HE.out]; exact HY.out rfl
            clear HE HY HT
            go_wp2
            go_ret
            exact ⟨by rw [hq]; rfl, rfl⟩
          | false =>
            clear HY
            go_wp2
            go_roundw
            case rel => exact ⟨i + 1, by omega, by go_num, HT, by first | rfl | trivial⟩
            case measure => simp [intOf]; omega
        · obtain rfl : i = l.length := by omega
          have hq : q = false := by
            rw [HE.out, ← HAE.out, toN_length]
            exact HF.out
          go_wp2
          go_ret
          exact ⟨by rw [hq]; rfl, rfl⟩
end Go.Proofs.Ytockhhleapbpiaa

