/- The law's raw numbers: Less, Some. -/
import Derived.Test.YtknlhejhnopnaaaGreatDoorSwapAToBestB
namespace Go.Proofs.YtknlhejhnopnaaaGreatDoor
open Go.RowKit Go.Shelf

/-- A list without what stands in another one. -/
def minusL (l M : List Int) : List Int := l.filter fun x => !inB x M
theorem minusL_take {l M : List Int} {i : Nat} (h : i < l.length) : minusL (l.take (i + 1)) M = minusL (l.take i) M ++ if inB l[i] M = true then [] else [l[i]] := by
  rw [List.take_succ_eq_append_getElem h, minusL, minusL, List.filter_append]
  congr 1
  cases e : inB l[i] M
  · simp [e]
  · simp [e]
theorem minusL_one (l : List Int) (v : Int) : minusL l [v] = lessN l v := by
  rw [minusL, lessN]
  refine List.filter_congr fun x _ => ?_
  congr 1
  rw [Bool.eq_iff_iff, inB_iff]
  simp

set_option maxRecDepth 100000 in
set_option maxHeartbeats 1000000 in
theorem rLess_any (a b : Option Addr) (ca cb : Nat) (l M : List Int) (w : World) (hv : IntS w a l) (hm : IntS w b M) (hn : l.length ≤ 1000) (hn' : M.length ≤ 1000) :
    Calls Tryz.prog 33 #[.slice a l.length ca, .slice b M.length cb] w fun e w' => ∃ x, e = .returned x ∧ RwI w' w.heap.size x (minusL l M) ∧ Below w.heap.size w w' := by
  obtain ⟨i0, hi0, hz0, hz1, hz2⟩ := info_parts Tryz.infoInt
  have HV := hid hv
  have HIN := hid (fun (k : Int) (V : World) (h : IntS V b M) => rIn_any k b cb M V h (by omega))
  have HM := hid hm
  have HT := hid (fun (i : Nat) (h : i < l.length) => minusL_take (M := M) h)
  have HLE := hid (fun i => show (minusL (l.take i) M).length ≤ l.length from Nat.le_trans (List.length_filter_le _ _) (by rw [List.length_take]; omega))
  have hall : minusL (l.take l.length) M = minusL l M := by rw [List.take_length]
  have hnil : minusL (l.take 0) M = [] := by rw [List.take_zero]; rfl
  rw [← hall]
  clear hv hm hall
  generalize hg : (fun i => minusL (l.take i) M) = F at *
  have hF : ∀ i, minusL (l.take i) M = F i := fun i => by rw [← hg]
  simp only [hF] at HT HLE hnil ⊢
  clear hg hF
  go_enter Tryz.func33, Tryz.ntmps33
  go_wp2_with fail
  go_loopw [5, 6] (fun xv iv wr => ∃ i : Nat, i ≤ l.length ∧ iv = .int .i64 i ∧ Hid (RwI wr w.heap.size xv (F i)) ∧ Hid (Below w.heap.size w wr)) (fun _ iv _ => l.length - (intOf iv).toNat)
  case atStart => exact ⟨0, Nat.zero_le _, rfl, by rw [hnil]; exact ⟨rfl, .inl ⟨rfl, rfl⟩⟩, Below.refl _ _⟩
  case round =>
    obtain ⟨i, hi, rfl, HR, HB⟩ := hrel
    by_cases hlt : i < l.length
    · obtain ⟨g, o, rfl, hg, c0⟩ := (HV.out.below HB.out) i hlt
      have hT := HT.out i hlt
      have hle := HLE.out i
      generalize l[i] = u at *
      go_wp2_with fail
      refine (HIN.out u _ (HM.out.below HB.out)).mono ?_
      rintro e w1 ⟨rfl, rfl⟩
      cases hin : inB u M with
      | true =>
        rw [hin, if_pos rfl, List.append_nil] at hT
        have HTT := hid hT
        clear hT hin
        go_wp2
        go_roundw
        case rel => exact ⟨i + 1, by omega, by go_num, by rw [HTT.out]; exact HR, HB⟩
        case measure => simp [intOf]; omega
      | false =>
        rw [hin, if_neg (by decide)] at hT
        have HTT := hid hT
        have HOWN := hid HR.out.own
        have HRA : Hid (RwI (w1.alloc (.cells #[.int .i64 u] 3)) w.heap.size _ (F i)) := World.ownsRow.alloc HR.out _
        have HBA := hid (HB.out.alloc HB.out.size (.cells #[.int .i64 u] 3))
        have HIA := hid (new_int w1 u)
        clear hT hin
        go_wp2_with (at_builtin; refine wpList_append_ints rfl _ _ rfl w.heap.size _ (F i) [u] rfl HRA.out (some ⟨w1.heap.size, 0, none⟩) 1 rfl HIA.out (fun e => by cases e) (by simp; omega) HBA.out.size ?_; intro v' w2 hr2 hg2)
        have HR2 := hid hr2
        have HB2 := hid (HBA.out.grown hg2 HBA.out.size HOWN.out)
        clear hr2 hg2
        go_roundw
        case rel => exact ⟨i + 1, by omega, by go_num, by rw [HTT.out]; exact HR2, HB2⟩
        case measure => simp [intOf]; omega
    · obtain rfl : i = l.length := by omega
      go_wp2
      go_ret
      exact ⟨_, rfl, HR.out, HB.out⟩

theorem up_nil (n : Nat) : Up [] n := up_iff.2 ⟨fun x hx => (by cases hx), List.Pairwise.nil⟩
theorem Up.wider {L : List Int} {i j : Nat} (h : Up L i) (hij : i ≤ j) : Up L j := up_iff.2 ⟨fun x hx => by have := (up_iff.1 h).1 x hx; omega, (up_iff.1 h).2⟩
theorem Up.snoc {L : List Int} {i : Nat} (h : Up L i) : Up (L ++ [(i : Int)]) (i + 1) := by
  refine up_iff.2 ⟨fun x hx => ?_, ?_⟩
  · rcases List.mem_append.1 hx with hx | hx
    · have := (up_iff.1 h).1 x hx; omega
    · have := List.mem_singleton.1 hx; omega
  · rw [List.pairwise_append]
    refine ⟨(up_iff.1 h).2, List.pairwise_singleton _ _, fun x hx y hy => ?_⟩
    have := (up_iff.1 h).1 x hx
    have := List.mem_singleton.1 hy
    omega

set_option maxRecDepth 100000 in
set_option maxHeartbeats 1000000 in
theorem rSome_any (a : Option Addr) (ca n : Nat) (l : List Int) (w : World) (hv : IntS w a l) (hr : ∀ x ∈ l, -9223372036854775808 ≤ x ∧ x ≤ 9223372036854775807) (hn : l.length ≤ 1000) (hn0 : 1 ≤ n) (hn' : n ≤ 1000) :
    Calls Tryz.prog 34 #[.slice a l.length ca, .int .i64 (n : Nat)] w fun e w' => ∃ x L, e = .returned x ∧ RwI w' w.heap.size x L ∧ Up L n ∧ Below w.heap.size w w' := by
  obtain ⟨i0, hi0, hz0, hz1, hz2⟩ := info_parts Tryz.infoInt
  have HV := hid hv
  have HRG := hid hr
  clear hv hr
  go_enter Tryz.func34, Tryz.ntmps34
  go_wp2_with fail
  go_loopw [5, 6] (fun xv iv wr => ∃ (i : Nat) (L : List Int), i ≤ n ∧ iv = .int .i64 i ∧ Hid (Up L i) ∧ Hid (RwI wr w.heap.size xv L) ∧ Hid (Below w.heap.size w wr)) (fun _ iv _ => n - (intOf iv).toNat)
  case atStart => exact ⟨0, [], Nat.zero_le _, rfl, up_nil 0, ⟨rfl, .inl ⟨rfl, rfl⟩⟩, Below.refl _ _⟩
  case round =>
    obtain ⟨i, L, hi, rfl, HU, HR, HB⟩ := hrel
    by_cases hlt : i < n
    · go_wp2_with fail
      have HI0 : Hid (RwI wr w.heap.size u5 L) := HR
      go_loopw [7, 8] (fun bv jv wq => ∃ (j : Nat) (b : Bool), j ≤ l.length ∧ jv = .int .i64 j ∧ bv = .bool b ∧ Hid (RwI wq w.heap.size u5 L) ∧ Hid (Below w.heap.size w wq)) (fun _ jv _ => l.length - (intOf jv).toNat)
      case atStart => exact ⟨0, false, Nat.zero_le _, rfl, rfl, HR, HB⟩
      case round =>
        obtain ⟨j, b, hj, rfl, rfl, HR', HB'⟩ := hrel
        clear HR HB HI0
        by_cases hjl : j < l.length
        · cases b with
          | true =>
            go_wp2
            go_roundw
            case rel => exact ⟨j + 1, true, by omega, by go_num, rfl, HR', HB'⟩
            case measure => simp [intOf]; omega
          | false =>
            obtain ⟨g, o, rfl, hg, c0⟩ := (HV.out.below HB'.out) j hjl
            have hrr := HRG.out l[j] (List.getElem_mem hjl)
            generalize l[j] = z at *
            go_wp2_with fail
            refine (rPick_any z n _ hrr.1 hrr.2 (by omega) (by omega)).mono ?_
            rintro e w1 ⟨rfl, hb1⟩
            generalize pickN z n = P at *
            have HR1 := hid (HR'.out.below hb1)
            have HB1 := hid (HB'.out.trans (hb1.mono HB'.out.size))
            clear HR' HB' hb1 c0
            go_wp2
            go_roundw
            case rel => exact ⟨j + 1, _, by omega, by go_num, rfl, HR1, HB1⟩
            case measure => simp [intOf]; omega
        · obtain rfl : j = l.length := by omega
          cases b with
          | false =>
            go_wp2
            go_roundw
            case rel => exact ⟨i + 1, L, by omega, by go_num, HU.out.wider (by omega), HR', HB'⟩
            case measure => simp [intOf]; omega
          | true =>
            have hle := HU.out.length
            have HOWN := hid HR'.out.own
            have HRA : Hid (RwI (wr.alloc (.cells #[.int .i64 (i : Nat)] 3)) w.heap.size _ L) := World.ownsRow.alloc HR'.out _
            have HBA := hid (HB'.out.alloc HB'.out.size (.cells #[.int .i64 (i : Nat)] 3))
            have HIA := hid (new_int wr (i : Nat))
            go_wp2_with (at_builtin; refine wpList_append_ints rfl _ _ rfl w.heap.size _ L [((i : Nat) : Int)] rfl HRA.out (some ⟨wr.heap.size, 0, none⟩) 1 rfl HIA.out (fun e => by cases e) (by simp; omega) HBA.out.size ?_; intro v' w3 hr3 hg3)
            have HR3 := hid hr3
            have HB3 := hid (HBA.out.grown hg3 HBA.out.size HOWN.out)
            clear hr3 hg3
            go_roundw
            case rel => exact ⟨i + 1, _, by omega, by go_num, HU.out.snoc, HR3, HB3⟩
            case measure => simp [intOf]; omega
    · obtain rfl : i = n := by omega
      go_wp2
      go_ret
      exact ⟨_, L, rfl, HR.out, HU.out, HB.out⟩
end Go.Proofs.YtknlhejhnopnaaaGreatDoor
