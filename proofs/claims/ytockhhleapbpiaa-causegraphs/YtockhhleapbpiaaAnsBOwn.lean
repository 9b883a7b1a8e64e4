/- The document's answers: aboveOne, Above. -/
import Derived.Test.YtockhhleapbpiaaOrdEToAnsA
import Derived.Test.YtockhhleapbpiaaFilAOwn
namespace Go.Proofs.Ytockhhleapbpiaa
open Go.RowKit Go.Shelf

/-- Is u one of these, or above one? -/
def abO (L : List (List Int)) (u : Nat) (l : List Nat) : Bool := l.any (abB L u)

set_option maxRecDepth 100000 in
set_option maxHeartbeats 1000000 in
theorem aboveOne_any (a b : Option Addr) (ca cb : Nat) (L : List (List Int)) (l : List Int) (w : World) (h : LsS w a L) (hl : ∀ l ∈ L, l.length ≤ 1000) (hg : gcE L = 0) (hb : IntS w b l) (hll : l.length ≤ 1000) (hlt : ∀ x ∈ l, 0 ≤ x ∧ x < (L.length : Int)) (u : Nat) :
    Calls Try.prog 41 #[.slice a L.length ca, .int .i64 (u : Nat), .slice b l.length cb] w fun e w' => e = .returned (.bool (abO L u (toN l))) ∧ w' = w := by
  have HI := hid hb
  have HLT := hid hlt
  have HC : Hid (∀ v, v < L.length → Calls Try.prog 68 #[.slice a L.length ca, .int .i64 (u : Nat), .int .i64 (v : Nat)] w fun e w' => e = .returned (.bool (abB L u v)) ∧ w' = w) := fun v hv => isAbove_any a ca L w h hl hg u _ v (Nat.le_refl _) hv
  have HAT : Hid (∀ i (h : i < (toN l).length), ((toN l).take (i + 1)).any (abB L u) = (((toN l).take i).any (abB L u) || abB L u (toN l)[i])) := fun i h => any_take h
  have HAY : Hid (∀ c ∈ toN l, abB L u c = true → abO L u (toN l) = true) := fun c hc h1 => List.any_eq_true.2 ⟨c, hc, h1⟩
  have HA0 : Hid (((toN l).take 0).any (abB L u) = false) := by show _ = _; rw [List.take_zero]; rfl
  have HAE : Hid (((toN l).take (toN l).length).any (abB L u) = abO L u (toN l)) := by show _ = _; rw [List.take_length]; rfl
  clear hb hlt h hl
  generalize abO L u (toN l) = q at *
  generalize abB L u = AB at *
  go_enter Try.func41, Try.ntmps41
  go_wp2_with fail
  go_loopw [7] (fun iv wr => ∃ i : Nat, i ≤ l.length ∧ iv = .int .i64 i ∧ Hid (((toN l).take i).any AB = false) ∧ wr = w) (fun iv _ => l.length - (intOf iv).toNat)
  case atStart => exact ⟨0, Nat.zero_le _, rfl, HA0, rfl⟩
  case round =>
    obtain ⟨i, hi', rfl, HF, rfl⟩ := hrel
    by_cases hil : i < l.length
    · obtain ⟨g2, o2, rfl, hg2, c2⟩ := HI.out i hil
      obtain ⟨hnn, hnl⟩ := HLT.out _ (List.getElem_mem hil)
      have hil2 : i < (toN l).length := by rw [toN_length]; exact hil
      have hti : (toN l)[i] = l[i].toNat := toN_get hil
      have HT := hid (HAT.out i hil2)
      have HY := hid (HAY.out (toN l)[i] (List.getElem_mem hil2))
      rw [hti] at HT HY
      rw [HF.out, Bool.false_or] at HT
      have hci : ((l[i].toNat : Nat) : Int) = l[i] := by omega
      have hcl : l[i].toNat < L.length := by omega
      rw [← hci] at c2
      generalize l[i].toNat = cc at *
      have HCC := hid (HC.out cc hcl)
      clear hci hti hil2 hnn hnl HAT HAY HC hcl
      go_wp2_with fail
      refine HCC.out.mono ?_
      rintro e w1 ⟨rfl, rfl⟩
      generalize AB cc = qc at *
      cases qc with
      | true =>
        have hq : q = true := HY.out rfl
        clear HY HT
        go_wp2
        go_ret
        exact ⟨by rw [hq]; rfl, rfl⟩
      | false =>
        clear HY
        go_wp2
        go_roundw
        case rel => exact ⟨i + 1, by omega, by go_num, HT, by first | rfl | trivial⟩
        case measure => simp [intOf]; omega
    · obtain rfl : i = l.length := by omega
      have hq : q = false := by
        rw [← HAE.out, toN_length]
        exact HF.out
      go_wp2
      go_ret
      exact ⟨by rw [hq]; rfl, rfl⟩
/-- All that stand there or above, as far as v. -/
def abR (L : List (List Int)) (l : List Nat) (v : Nat) : List Nat := (List.range v).filter fun u => abO L u l
theorem abR_yes {L : List (List Int)} {l : List Nat} {v : Nat} (h : abO L v l = true) : abR L l (v + 1) = abR L l v ++ [v] := by rw [abR, List.range_succ, List.filter_append, abR]; simp [h]
theorem abR_no {L : List (List Int)} {l : List Nat} {v : Nat} (h : abO L v l = false) : abR L l (v + 1) = abR L l v := by rw [abR, List.range_succ, List.filter_append, abR]; simp [h]
theorem abR_len (L : List (List Int)) (l : List Nat) (v : Nat) : (abR L l v).length ≤ v := by
  have := List.length_filter_le (fun u => abO L u l) (List.range v)
  rwa [List.length_range] at this
theorem abR_all {L : List (List Int)} {l : List Nat} (hg : gcE L = 0) (hl : ∀ v ∈ l, v < L.length) : iL (abR L l L.length) = memL (abS (parN L) l L.length) := by
  obtain ⟨-, h8, -⟩ := gB_parts (gc_parts hg).1
  have hlt : ∀ x, x ∈ abS (parN L) l L.length → x < L.length := fun x hx => by
    obtain ⟨b, hb, e⟩ := (abS_iff hg h8 hl x).1 hx
    rcases e with rfl | ha
    · exact hl _ hb
    · clear hb
      induction ha using Abv.ind with
      | one hp => exact (pa_lt (gc_parts hg).1 hp).1
      | more _ _ ih => exact ih
  have e : ∀ d, memU (abS (parN L) l L.length) (L.length + d) = memU (abS (parN L) l L.length) L.length := fun d => by
    induction d with
    | zero => rfl
    | succ d ih =>
      rw [show L.length + (d + 1) = (L.length + d) + 1 by omega, memU_no, ih]
      intro hm
      have := hlt _ hm
      omega
  have e8 := e (8 - L.length)
  rw [show L.length + (8 - L.length) = 8 by omega] at e8
  rw [memL, e8, abR, memU]
  congr 1
  refine List.filter_congr fun u _ => Bool.eq_iff_iff.2 ?_
  rw [decide_eq_true_iff, abS_iff hg h8 hl, abO, List.any_eq_true]
  exact ⟨fun ⟨b, hb, h1⟩ => ⟨b, hb, (abB_iff hg (hl b hb)).1 h1⟩, fun ⟨b, hb, h1⟩ => ⟨b, hb, (abB_iff hg (hl b hb)).2 h1⟩⟩

set_option maxRecDepth 100000 in
set_option maxHeartbeats 1000000 in
theorem rAbove_any (a b : Option Addr) (ca cb : Nat) (L : List (List Int)) (l : List Int) (w : World) (h : LsS w a L) (hl : ∀ l ∈ L, l.length ≤ 1000) (hL : L.length ≤ 1000) (hb : IntS w b l) (hll : l.length ≤ 1000) :
    Calls Try.prog 14 #[.slice a L.length ca, .slice b l.length cb] w fun e w' => Below w.heap.size w w' ∧
      ((gcE L ≠ 0 ∧ e = .returned (.tuple #[.slice none 0 0, .int .i64 (gcE L)])) ∨ (gcE L = 0 ∧ risB l L.length = false ∧ e = .returned (.tuple #[.slice none 0 0, .int .i64 11])) ∨
       (gcE L = 0 ∧ risB l L.length = true ∧ ∃ x, e = .returned (.tuple #[x, .int .i64 0]) ∧ RwI w' w.heap.size x (memL (abS (parN L) (toN l) L.length)))) := by
  have HF := hid h
  have HB := hid hb
  have HG := hid (rGraphCheck_any a ca L w h (fun l hl' => by have := hl l hl'; omega) (by omega))
  have HRI := hid (fun (U : World) (hU : Below w.heap.size w U) => rRising_any b cb l L.length U (hb.below hU) (by omega))
  by_cases hg : gcE L = 0
  · have HAO : Hid (risB l L.length = true → ∀ (u : Nat) (U : World), Below w.heap.size w U → Calls Try.prog 41 #[.slice a L.length ca, .int .i64 (u : Nat), .slice b l.length cb] U fun e w' => e = .returned (.bool (abO L u (toN l))) ∧ w' = U) := fun hr u U hU => aboveOne_any a b ca cb L l U (h.below hU) hl hg (hb.below hU) hll (fun x hx => by
        have := ris_up hr
        obtain ⟨i, hi, rfl⟩ := List.getElem_of_mem hx
        exact this.each i hi) u
    have HRA : Hid (risB l L.length = true → iL (abR L (toN l) L.length) = memL (abS (parN L) (toN l) L.length)) := fun hr => abR_all hg (ris_up hr).below
    have HRY : Hid (∀ v, abO L v (toN l) = true → abR L (toN l) (v + 1) = abR L (toN l) v ++ [v]) := fun v h => abR_yes h
    have HRN : Hid (∀ v, abO L v (toN l) = false → abR L (toN l) (v + 1) = abR L (toN l) v) := fun v h => abR_no h
    have HRL := hid (abR_len L (toN l))
    have HR0 : Hid (abR L (toN l) 0 = []) := rfl
    rw [hg] at HG
    have HGE := hid hg
    clear h hb hl hg
    generalize abR L (toN l) = AR at *
    cases hr : risB l L.length with
    | false =>
      rw [hr] at HRI
      have HRE := hid hr
      clear HAO HRA hr
      go_enter Try.func14, Try.ntmps14
      go_wp2_with fail
      refine HG.out.mono ?_
      rintro e w1 ⟨rfl, hb1⟩
      have HR1 := hid (HRI.out w1 hb1)
      go_wp2_with fail
      refine HR1.out.mono ?_
      rintro e w2 ⟨rfl, hb2⟩
      go_wp2
      go_ret2
      exact ⟨hb1.trans (hb2.mono hb1.size), .inr (.inl ⟨HGE.out, by first | exact HRE.out | rfl | trivial, rfl⟩)⟩
    | true =>
      rw [hr] at HRI
      have HAO1 := hid (HAO.out hr)
      have HRA1 := hid (HRA.out hr)
      have HRE := hid hr
      clear HAO HRA hr
      go_enter Try.func14, Try.ntmps14
      go_wp2_with fail
      refine HG.out.mono ?_
      rintro e w1 ⟨rfl, hb1⟩
      have HR1 := hid (HRI.out w1 hb1)
      have HB1 := hid hb1
      clear hb1
      go_wp2_with fail
      refine HR1.out.mono ?_
      rintro e w2 ⟨rfl, hb2⟩
      have HB2 := hid (HB1.out.trans (hb2.mono HB1.out.size))
      clear hb2 HR1 HB1 HRI HG
      go_wp2_with fail
      go_loopw [8, 9] (fun xv vv wr => ∃ v : Nat, v ≤ L.length ∧ vv = .int .i64 v ∧ Hid (RwI wr w.heap.size xv (iL (AR v))) ∧ Hid (Below w.heap.size w wr)) (fun _ vv _ => L.length - (intOf vv).toNat)
      case atStart => exact ⟨0, Nat.zero_le _, rfl, by rw [HR0.out]; exact ⟨rfl, .inl ⟨rfl, rfl⟩⟩, HB2⟩
      case round =>
        obtain ⟨v, hv, rfl, HX, HBW⟩ := hrel
        clear HB2
        obtain ⟨dx, cx, rfl, -⟩ := HX.out.ints
        by_cases hvl : v < L.length
        · have HC := hid (HAO1.out v wr HBW.out)
          have HY := hid (HRY.out v)
          have HN := hid (HRN.out v)
          have hln := HRL.out v
          generalize abO L v (toN l) = q at *
          go_wp2_with fail
          refine HC.out.mono ?_
          rintro e w6 ⟨rfl, rfl⟩
          clear HC
          cases q with
          | true =>
            have HE := hid (HY.out rfl)
            clear HY HN
            have HOWN := hid HX.out.own
            have HRAA := hid (World.ownsRow.alloc HX.out (.cells #[.int .i64 (v : Nat)] 3))
            have HBA := hid (HBW.out.alloc HBW.out.size (.cells #[.int .i64 (v : Nat)] 3))
            have HIA := hid (one_int w6 (v : Nat))
            go_wp2_with (at_builtin; refine wpList_append_ints rfl _ _ rfl w.heap.size _ (iL (AR v)) [((v : Nat) : Int)] rfl HRAA.out (some ⟨w6.heap.size, 0, none⟩) 1 rfl HIA.out (fun e => by cases e) (by rw [iL_length]; simp; omega) HBA.out.size ?_; intro v' w7 hr7 hg7)
            have HR7 : Hid (RwI w7 w.heap.size v' (iL (AR (v + 1)))) := by show RwI w7 w.heap.size v' (iL (AR (v + 1))); rw [HE.out, iL_append]; exact hr7
            have HB7 := hid (HBA.out.grown hg7 HBA.out.size HOWN.out)
            clear hr7 hg7
            go_wp2
            go_roundw
            case rel => exact ⟨v + 1, by omega, by go_num, HR7, HB7⟩
            case measure => simp [intOf]; omega
          | false =>
            have HE := hid (HN.out rfl)
            clear HY HN
            go_wp2
            go_roundw
            case rel => exact ⟨v + 1, by omega, by go_num, by rw [HE.out]; exact HX, HBW⟩
            case measure => simp [intOf]; omega
        · obtain rfl : v = L.length := by omega
          have HX1 := HX.out
          rw [HRA1.out] at HX1
          go_wp2
          go_ret2
          refine ⟨HBW.out, .inr (.inr ⟨HGE.out, by first | exact HRE.out | rfl | trivial, _, rfl, ?_⟩)⟩
          have e : (iL (AR L.length)).length = (memL (abS (parN L) (toN l) L.length)).length := by rw [HRA1.out]
          rw [HRA1.out]
          exact HX1
  · have HGE := hid hg
    have hne : ((gcE L : Int) != 0) = true := by simpa using hg
    clear h hb hl hg
    generalize gcE L = ge at *
    go_enter Try.func14, Try.ntmps14
    go_wp2_with fail
    refine HG.out.mono ?_
    rintro e w1 ⟨rfl, hb1⟩
    go_wp2
    go_ret2
    exact ⟨hb1, .inl ⟨HGE.out, rfl⟩⟩
end Go.Proofs.Ytockhhleapbpiaa

