/- The law's raw numbers: Less, Some. -/
import Derived.Test.YtknlhejhnopnaaaGreatDoorRtHToSwapA
import Derived.Test.YtknlhejhnopnaaaGreatDoorSwapBOwn
import Derived.Test.YtknlhejhnopnaaaGreatDoorBestBToLawA
import Derived.Test.YtknlhejhnopnaaaGreatDoorLawBOwn
namespace Go.Proofs.YtknlhejhnopnaaaGreatDoor
open Go.RowKit Go.Shelf

/-- A list without what stands in another one. -/
def minusL (l M : List Int) : List Int := l.filter fun x => !inB x M
theorem minusL_take {l M : List Int} {i : Nat} (h : i < l.length) : minusL (l.take (i + 1)) M = minusL (l.take i) M ++ if inB l[i] M = true then [] else [l[i]] := by
  rw [List.take_succ_eq_append_getElem h, minusL, minusL, List.filter_append]
  congr 1
  cases e : inB l[i] M
  · simp [e]
  · simp [e]
theorem minusL_one (l : List Int) (v : Int) : minusL l [v] = lessN l v := by
  rw [minusL, lessN]
  refine List.filter_congr fun x _ => ?_
  congr 1
  rw [Bool.eq_iff_iff, inB_iff]
  simp

set_option maxRecDepth 100000 in
set_option maxHeartbeats 1000000 in
theorem rLess_any (a b : Option Addr) (ca cb : Nat) (l M : List Int) (w : World) (hv : IntS w a l) (hm : IntS w b M) (hn : l.length ≤ 1000) (hn' : M.length ≤ 1000) :
    Calls Tryz.prog 33 #[.slice a l.length ca, .slice b M.length cb] w fun e w' => ∃ x, e = .returned x ∧ RwI w' w.heap.size x (minusL l M) ∧ Below w.heap.size w w' := by
  obtain ⟨i0, hi0, hz0, hz1, hz2⟩ := info_parts Tryz.infoInt
  have HV := hid hv
  have HIN := hid (fun (k : Int) (V : World) (h : IntS V b M) => rIn_any k b cb M V h (by omega))
  have HM := hid hm
  have HT := hid (fun (i : Nat) (h : i < l.length) => minusL_take (M := M) h)
  have HLE := hid (fun i => show (minusL (l.take i) M).length ≤ l.length from Nat.le_trans (List.length_filter_le _ _) (by rw [List.length_take]; omega))
  have hall : minusL (l.take l.length) M = minusL l M := by rw [List.take_length]
  have hnil : minusL (l.take 0) M = [] := by rw [List.take_zero]; rfl
  rw [← hall]
  clear hv hm hall
  generalize hg : (fun i => minusL (l.take i) M) = F at *
  have hF : ∀ i, minusL (l.take i) M = F i := fun i => by rw [← hg]
  simp only [hF] at HT HLE hnil ⊢
  clear hg hF
  go_enter Tryz.func33, Tryz.ntmps33
  go_wp2_with fail
  go_loopw [5, 6] (fun xv iv wr => ∃ i : Nat, i ≤ l.length ∧ iv = .int .i64 i ∧ Hid (RwI wr w.heap.size xv (F i)) ∧ Hid (Below w.heap.size w wr)) (fun _ iv _ => l.length - (intOf iv).toNat)
  case atStart => exact ⟨0, Nat.zero_le _, rfl, by rw [hnil]; exact ⟨rfl, .inl ⟨rfl, rfl⟩⟩, Below.refl _ _⟩
  case round =>
    obtain ⟨i, hi, rfl, HR, HB⟩ := hrel
    by_cases hlt : i < l.length
    · obtain ⟨g, o, rfl, hg, c0⟩ := (HV.out.below HB.out) i hlt
      have hT := HT.out i hlt
      have hle := HLE.out i
      generalize l[i] = u at *
      go_wp2_with fail
      refine (HIN.out u _ (HM.out.below HB.out)).mono ?_
      rintro e w1 ⟨rfl, rfl⟩
      cases hin : inB u M with
      | true =>
        rw [hin, if_pos rfl, List.append_nil] at hT
        have HTT := hid hT
        clear hT hin
        go_wp2
        go_roundw
        case rel => exact ⟨i + 1, by omega, by go_num, by rw [HTT.out]; exact HR, HB⟩
        case measure => simp [intOf]; omega
      | false =>
        rw [hin, if_neg (by decide)] at hT
        have HTT := hid hT
        have HOWN := hid HR.out.own
        have HRA : Hid (RwI (w1.alloc (.cells #[.int .i64 u] 3)) w.heap.size _ (F i)) := World.ownsRow.alloc HR.out _
        have HBA := hid (HB.out.alloc HB.out.size (.cells #[.int .i64 u] 3))
        have HIA := hid (new_int w1 u)
        clear hT hin
        go_wp2_with (at_builtin; refine wpList_append_ints rfl _ _ rfl w.heap.size _ (F i) [u] rfl HRA.out (some ⟨w1.heap.size, 0, none⟩) 1 rfl HIA.out (fun e => by cases e) (by simp; omega) HBA.out.size ?_; intro v' w2 hr2 hg2)
        have HR2 := hid hr2
        have HB2 := hid (HBA.out.grown hg2 HBA.out.size HOWN.out)
        clear hr2 hg2
        go_roundw
        case rel => exact ⟨i + 1, by omega, by go_num, by rw [HTT.out]; exact HR2, HB2⟩
        case measure => simp [intOf]; omega
    · obtain rfl : i = l.length := by omega
      go_wp2
      go_ret
      exact ⟨_, rfl, HR.out, HB.out⟩

theorem up_nil (n : Nat) : Up [] n := up_iff.2 ⟨fun x hx => (by cases hx), List.Pairwise.nil⟩
theorem Up.wider {L : List Int} {i j : Nat} (h : Up L i) (hij : i ≤ j) : Up L j := up_iff.2 ⟨fun x hx => by have := (up_iff.1 h).1 x hx; omega, (up_iff.1 h).2⟩
theorem Up.snoc {L : List Int} {i : Nat} (h : Up L i) : Up (L ++ [(i : Int)]) (i + 1) := by
  refine up_iff.2 ⟨fun x hx => ?_, ?_⟩
  · rcases List.mem_append.1 hx with hx | hx
    · have := (up_iff.1 h).1 x hx; omega
    · have := List.mem_singleton.1 hx; omega
  · rw [List.pairwise_append]
    refine ⟨(up_iff.1 h).2, List.pairwise_singleton _ _, fun x hx y hy => ?_⟩
    have := (up_iff.1 h).1 x hx
    have := List.mem_singleton.1 hy
    omega

set_option maxRecDepth 100000 in
set_option maxHeartbeats 1000000 in
theorem rSome_any (a : Option Addr) (ca n : Nat) (l : List Int) (w : World) (hv : IntS w a l) (hr : ∀ x ∈ l, -9223372036854775808 ≤ x ∧ x ≤ 9223372036854775807) (hn : l.length ≤ 1000) (hn0 : 1 ≤ n) (hn' : n ≤ 1000) :
    Calls Tryz.prog 34 #[.slice a l.length ca, .int .i64 (n : Nat)] w fun e w' => ∃ x L, e = .returned x ∧ RwI w' w.heap.size x L ∧ Up L n ∧ Below w.heap.size w w' := by
  obtain ⟨i0, hi0, hz0, hz1, hz2⟩ := info_parts Tryz.infoInt
  have HV := hid hv
  have HRG := hid hr
  clear hv hr
  go_enter Tryz.func34, Tryz.ntmps34
  go_wp2_with fail
  go_loopw [5, 6] (fun xv iv wr => ∃ (i : Nat) (L : List Int), i ≤ n ∧ iv = .int .i64 i ∧ Hid (Up L i) ∧ Hid (RwI wr w.heap.size xv L) ∧ Hid (Below w.heap.size w wr)) (fun _ iv _ => n - (intOf iv).toNat)
  case atStart => exact ⟨0, [], Nat.zero_le _, rfl, up_nil 0, ⟨rfl, .inl ⟨rfl, rfl⟩⟩, Below.refl _ _⟩
  case round =>
    obtain ⟨i, L, hi, rfl, HU, HR, HB⟩ := hrel
    by_cases hlt : i < n
    · go_wp2_with fail
      have HI0 : Hid (RwI wr w.heap.size u5 L) := HR
      go_loopw [7, 8] (fun bv jv wq => ∃ (j : Nat) (b : Bool), j ≤ l.length ∧ jv = .int .i64 j ∧ bv = .bool b ∧ Hid (RwI wq w.heap.size u5 L) ∧ Hid (Below w.heap.size w wq)) (fun _ jv _ => l.length - (intOf jv).toNat)
      case atStart => exact ⟨0, false, Nat.zero_le _, rfl, rfl, HR, HB⟩
      case round =>
        obtain ⟨j, b, hj, rfl, rfl, HR', HB'⟩ := hrel
        clear HR HB HI0
        by_cases hjl : j < l.length
        · cases b with
          | true =>
            go_wp2
            go_roundw
            case rel => exact ⟨j + 1, true, by omega, by go_num, rfl, HR', HB'⟩
            case measure => simp [intOf]; omega
          | false =>
            obtain ⟨g, o, rfl, hg, c0⟩ := (HV.out.below HB'.out) j hjl
            have hrr := HRG.out l[j] (List.getElem_mem hjl)
            generalize l[j] = z at *
            go_wp2_with fail
            refine (rPick_any z n _ hrr.1 hrr.2 (by omega) (by omega)).mono ?_
            rintro e w1 ⟨rfl, hb1⟩
            generalize pickN z n = P at *
            have HR1 := hid (HR'.out.below hb1)
            have HB1 := hid (HB'.out.trans (hb1.mono HB'.out.size))
            clear HR' HB' hb1 c0
            go_wp2
            go_roundw
            case rel => exact ⟨j + 1, _, by omega, by go_num, rfl, HR1, HB1⟩
            case measure => simp [intOf]; omega
        · obtain rfl : j = l.length := by omega
          cases b with
          | false =>
            go_wp2
            go_roundw
            case rel => exact ⟨i + 1, L, by omega, by go_num, HU.out.wider (by omega), HR', HB'⟩
            case measure => simp [intOf]; omega
          | true =>
            have hle := HU.out.length
            have HOWN := hid HR'.out.own
            have HRA : Hid (RwI (wr.alloc (.cells #[.int .i64 (i : Nat)] 3)) w.heap.size _ L) := World.ownsRow.alloc HR'.out _
            have HBA := hid (HB'.out.alloc HB'.out.size (.cells #[.int .i64 (i : Nat)] 3))
            have HIA := hid (new_int wr (i : Nat))
            go_wp2_with (at_builtin; refine wpList_append_ints rfl _ _ rfl w.heap.size _ L [((i : Nat) : Int)] rfl HRA.out (some ⟨wr.heap.size, 0, none⟩) 1 rfl HIA.out (fun e => by cases e) (by simp; omega) HBA.out.size ?_; intro v' w3 hr3 hg3)
            have HR3 := hid hr3
            have HB3 := hid (HBA.out.grown hg3 HBA.out.size HOWN.out)
            clear hr3 hg3
            go_roundw
            case rel => exact ⟨i + 1, _, by omega, by go_num, HU.out.snoc, HR3, HB3⟩
            case measure => simp [intOf]; omega
    · obtain rfl : i = n := by omega
      go_wp2
      go_ret
      exact ⟨_, L, rfl, HR.out, HU.out, HB.out⟩
end Go.Proofs.YtknlhejhnopnaaaGreatDoor

/- TableSwaps: the walk. -/
namespace Go.Proofs.YtknlhejhnopnaaaGreatDoor
open Go.RowKit Go.Shelf

theorem RwI.ints0 {w : World} {B : Nat} {v : Value} {l : List Int} (h : RwI w B v l) : ∃ d cd, v = .slice d l.length cd ∧ IntS w d l ∧ (d = none → cd = 0) := by
  rcases h.cases with ⟨rfl, rfl⟩ | ⟨g, cap, rfl, _, hg, _, _, hh⟩
  · exact ⟨none, 0, rfl, fun k hk => absurd hk (by simp), fun _ => rfl⟩
  · exact ⟨_, _, rfl, holds_ints hh hg fun j hj => ⟨by simpa using hj, by simp⟩, fun e => by cases e⟩
theorem IntS.some {w : World} {a : Option Addr} {l : List Int} (h : IntS w a l) (hl : l ≠ []) (c : Nat) : a = none → c = 0 := fun e => by
  obtain ⟨g, o, e', _⟩ := h 0 (List.length_pos_iff.2 hl)
  rw [e] at e'
  cases e'
/-- A table in a block. -/
def TI (V : World) (g : Nat) (b c : Option Addr) (cb cc : Nat) (vars : List Int) (l : List Fr) : Prop := TBox V g (.slice b vars.length cb) (.slice c l.length cc) ∧ IntS V b vars ∧ FrS V c l
theorem TI.step {V V' : World} {g : Nat} {b c : Option Addr} {cb cc : Nat} {vars : List Int} {l : List Fr} (h : TI V g b c cb cc vars l) (hb : Below V.heap.size V V') : TI V' g b c cb cc vars l := ⟨h.1.below hb h.1.lt, h.2.1.below hb, h.2.2.below hb⟩
theorem TI.new {V : World} {b c : Option Addr} {vars : List Int} {l : List Fr} (cb cc : Nat) (hi : IntS V b vars) (hf : FrS V c l) : TI (V.alloc (TC (.slice b vars.length cb) (.slice c l.length cc))) V.heap.size b c cb cc vars l :=
  have hb := (Below.refl _ V).alloc (Nat.le_refl _) (TC (.slice b vars.length cb) (.slice c l.length cc))
  ⟨TBox.at rfl _ _, hi.below hb, hf.below hb⟩
theorem TI.put {V : World} {g g' : Nat} {b c p q : Option Addr} {cb cc cp cq n m : Nat} {vars : List Int} {l : List Fr} (h : TI V g b c cb cc vars l) (h' : TBox V g' (.slice p n cp) (.slice q m cq)) (hne : g ≠ g') (p' q' : Option Addr) (n' m' cp' cq' : Nat) :
    TI ((V.setCell ⟨g', 0, none⟩ (.slice p' n' cp')).setCell ⟨g', 1, none⟩ (.slice q' m' cq')) g b c cb cc vars l :=
  ⟨(h.1.off g' 0 _ hne).off g' 1 _ hne, h.2.1.putT h' (slv _ _ _) (slv _ _ _) (slv _ _ _) _, h.2.2.putT h' (slv _ _ _) (slv _ _ _) (slv _ _ _) _⟩
theorem TI.own {V : World} {g : Nat} {b c b' c' : Option Addr} {cb cc : Nat} {vars vars' : List Int} {l l' : List Fr} (h : TI V g b c cb cc vars l) (hi : IntS V b' vars') (hf : FrS V c' l') (cb' cc' : Nat) :
    TI ((V.setCell ⟨g, 0, none⟩ (.slice b' vars'.length cb')).setCell ⟨g, 1, none⟩ (.slice c' l'.length cc')) g b' c' cb' cc' vars' l' :=
  ⟨h.1.put _ _, hi.putT h.1 (slv _ _ _) (slv _ _ _) (slv _ _ _) _, hf.putT h.1 (slv _ _ _) (slv _ _ _) (slv _ _ _) _⟩
/-- What the law holds all along: the sizes, and two tables. -/
structure SW (w V : World) (d : Option Addr) (sizes : List Int) (Bb Ba : Nat) (b1 b2 a1 a2 : Option Addr) (p1 p2 q1 q2 : Nat) (vb va : List Int) (lb la : List Fr) : Prop where
  below : Below w.heap.size w V
  sz : IntS V d sizes
  tb : TI V Bb b1 b2 p1 p2 vb lb
  ta : TI V Ba a1 a2 q1 q2 va la
theorem SW.step {w V V' : World} {d : Option Addr} {sizes : List Int} {Bb Ba : Nat} {b1 b2 a1 a2 : Option Addr} {p1 p2 q1 q2 : Nat} {vb va : List Int} {lb la : List Fr} (h : SW w V d sizes Bb Ba b1 b2 a1 a2 p1 p2 q1 q2 vb va lb la) (hb : Below V.heap.size V V') : SW w V' d sizes Bb Ba b1 b2 a1 a2 p1 p2 q1 q2 vb va lb la :=
  ⟨h.below.trans (hb.mono h.below.size), h.sz.below hb, h.tb.step hb, h.ta.step hb⟩
theorem SW.put {w V : World} {d : Option Addr} {sizes : List Int} {Bb Ba g : Nat} {b1 b2 a1 a2 p q : Option Addr} {p1 p2 q1 q2 n m cp cq : Nat} {vb va : List Int} {lb la : List Fr} (h : SW w V d sizes Bb Ba b1 b2 a1 a2 p1 p2 q1 q2 vb va lb la) (h' : TBox V g (.slice p n cp) (.slice q m cq)) (h1 : Bb ≠ g) (h2 : Ba ≠ g) (h3 : w.heap.size ≤ g) (p' q' : Option Addr) (n' m' cp' cq' : Nat) :
    SW w ((V.setCell ⟨g, 0, none⟩ (.slice p' n' cp')).setCell ⟨g, 1, none⟩ (.slice q' m' cq')) d sizes Bb Ba b1 b2 a1 a2 p1 p2 q1 q2 vb va lb la :=
  ⟨below_put2 h.below h3 _ _, h.sz.putT h' (slv _ _ _) (slv _ _ _) (slv _ _ _) _, h.tb.put h' h1 _ _ _ _ _ _, h.ta.put h' h2 _ _ _ _ _ _⟩
theorem alloc_below (V : World) (o : Obj) : Below V.heap.size V (V.alloc o) := (Below.refl _ V).alloc (Nat.le_refl _) o

set_option maxRecDepth 100000 in
set_option maxHeartbeats 1000000 in
theorem tableSwaps_big (a b c : Option Addr) (ca cb cc : Nat) (raw x y : List Int) (u v : Int) (w : World) (h1 : raw.length ≤ 140737488355328) (h2 : x.length ≤ 140737488355328) (h3 : y.length ≤ 140737488355328) (hbig : 512 < raw.length + x.length + y.length) :
    Calls Tryz.prog 4 #[.slice a raw.length ca, .slice b x.length cb, .slice c y.length cc, .int .i64 u, .int .i64 v] w fun e w' => e = .returned (.bool true) ∧ Below w.heap.size w w' := by
  have e1 : IntKind.i64.wrap ((raw.length : Int) + (x.length : Int)) = (raw.length : Int) + (x.length : Int) := by rw [IntKind.wrap_i64]; omega
  have e2 : IntKind.i64.wrap ((raw.length : Int) + (x.length : Int) + (y.length : Int)) = (raw.length : Int) + (x.length : Int) + (y.length : Int) := by rw [IntKind.wrap_i64]; omega
  have e3 : (512 : Int) < (raw.length : Int) + (x.length : Int) + (y.length : Int) := by omega
  go_enter Tryz.func4, Tryz.ntmps4
  go_wp2
  go_ret
  exact ⟨rfl, Below.refl _ _⟩

set_option maxRecDepth 100000 in
set_option maxHeartbeats 2000000 in
theorem tableSwaps_walk (a b c : Option Addr) (ca cb cc : Nat) (raw x y : List Int) (u v : Int) (w : World) (hraw : IntS w a raw) (hx : IntS w b x) (hy : IntS w c y) (rraw : ∀ z ∈ raw, -9223372036854775808 ≤ z ∧ z ≤ 9223372036854775807) (rx : ∀ z ∈ x, -9223372036854775808 ≤ z ∧ z ≤ 9223372036854775807) (ry : ∀ z ∈ y, -9223372036854775808 ≤ z ∧ z ≤ 9223372036854775807) (hu : -9223372036854775808 ≤ u ∧ u ≤ 9223372036854775807) (hv : -9223372036854775808 ≤ v ∧ v ≤ 9223372036854775807) (hsm : raw.length + x.length + y.length ≤ 512) :
    Calls Tryz.prog 4 #[.slice a raw.length ca, .slice b x.length cb, .slice c y.length cc, .int .i64 u, .int .i64 v] w fun e w' => e = .returned (.bool true) ∧ Below w.heap.size w w' := by
  have e1 : IntKind.i64.wrap ((raw.length : Int) + (x.length : Int)) = (raw.length : Int) + (x.length : Int) := by rw [IntKind.wrap_i64]; omega
  have e2 : IntKind.i64.wrap ((raw.length : Int) + (x.length : Int) + (y.length : Int)) = (raw.length : Int) + (x.length : Int) + (y.length : Int) := by rw [IntKind.wrap_i64]; omega
  have e3 : (raw.length : Int) + (x.length : Int) + (y.length : Int) ≤ 512 := by omega
  have HRW := hid hraw
  have HX := hid hx
  have HY := hid hy
  have HRR := hid rraw
  have HRX := hid rx
  have HRY := hid ry
  clear hraw hx hy rraw rx ry
  go_enter Tryz.func4, Tryz.ntmps4
  go_wp2_with fail
  clear e1 e2 e3
  refine (sizesOf_any a ca raw w HRW.out HRR.out (by omega)).mono ?_
  rintro e w1 ⟨xv, sizes, rfl, hrw, hS3, hb1⟩
  obtain ⟨d, cd, rfl, hi1⟩ := hrw.ints
  have hn1 := hS3.many
  have hn2 := hS3.few
  have HS3 := hid hS3
  clear hrw hS3
  go_wp2_with fail
  refine (rPick_any u sizes.length _ hu.1 hu.2 (by omega) (by omega)).mono ?_
  rintro e w2 ⟨rfl, hb2⟩
  have hU := pickN_lt u (n := sizes.length) (by omega)
  generalize pickN u sizes.length = U at *
  replace hi1 := hi1.below hb2
  replace hb1 := hb1.trans (hb2.mono hb1.size)
  clear hb2
  go_wp2_with fail
  refine (rPick_any v sizes.length _ hv.1 hv.2 (by omega) (by omega)).mono ?_
  rintro e w3 ⟨rfl, hb2⟩
  have hV := pickN_lt v (n := sizes.length) (by omega)
  generalize pickN v sizes.length = V at *
  replace hi1 := hi1.below hb2
  replace hb1 := hb1.trans (hb2.mono hb1.size)
  clear hb2 hu hv
  go_wp2_with fail
  refine (rAll_any d cd sizes.length _ (by omega)).mono ?_
  rintro e w4 ⟨xv, rfl, hrw, hb2⟩
  have hvbm : ∀ k : Nat, k < sizes.length → (k : Int) ∈ iL (List.range sizes.length) := fun k hk => List.mem_map.2 ⟨k, List.mem_range.2 hk, rfl⟩
  have hvbu : Up (iL (List.range sizes.length)) sizes.length := up_iff.2 ⟨fun z hz => by
    obtain ⟨k, hk, rfl⟩ := List.mem_map.1 hz
    have := List.mem_range.1 hk
    omega, by rw [iL, List.pairwise_map]; exact (range_rise _).imp fun h => by omega⟩
  generalize iL (List.range sizes.length) = vb at *
  obtain ⟨b1, p1, rfl, hi4⟩ := hrw.ints
  replace hi1 := hi1.below hb2
  replace hb1 := hb1.trans (hb2.mono hb1.size)
  clear hb2 hrw
  have HU := hid (hvbm U hU)
  have HV := hid (hvbm V hV)
  have hbn : vb ≠ [] := fun e => by have := hvbm 0 (by omega); rw [e] at this; cases this
  have HQN : Hid (lessN vb (V : Int) ≠ []) := by
    intro e
    have h0 := hvbm (if V = 0 then 1 else 0) (by by_cases h : V = 0 <;> simp [h] <;> omega)
    have : ((if V = 0 then 1 else 0 : Nat) : Int) ∈ lessN vb (V : Int) := mem_less.2 ⟨h0, by by_cases h : V = 0 <;> simp [h] <;> omega⟩
    rw [e] at this
    cases this
  have HVB := hid hvbm
  have HVU := hid hvbu
  clear hvbm hvbu
  go_wp2_with fail
  refine (tableOf_any d b1 a cd p1 ca sizes vb raw _ hi1 hi4 (HRW.out.below hb1) HS3.out HVU.out HRR.out (by omega)).mono ?_
  rintro e w5 ⟨b2, p2, lb, rfl, hf5, hTB, hb2⟩
  have HTB := hid hTB
  replace hi1 := hi1.below hb2
  replace hi4 := hi4.below hb2
  replace hb1 := hb1.trans (hb2.mono hb1.size)
  clear hb2 hTB
  have hBT := TI.new p1 p2 hi4 hf5
  have hgb := hb1.size
  replace hi1 := hi1.below (alloc_below w5 (TC (.slice b1 vb.length p1) (.slice b2 lb.length p2)))
  replace hb1 := hb1.trans ((alloc_below w5 (TC (.slice b1 vb.length p1) (.slice b2 lb.length p2))).mono hb1.size)
  clear hi4 hf5
  go_wp2_with fail
  generalize (w5.alloc (TC (.slice b1 vb.length p1) (.slice b2 lb.length p2))) = w6 at *
  generalize w5.heap.size = Bb at *
  refine (rSome_any b cb sizes.length x _ (HX.out.below hb1) HRX.out (by omega) (by omega) (by omega)).mono ?_
  rintro e w7 ⟨xv, L7, rfl, hrw, hU7, hb2⟩
  obtain ⟨d7, cd7, rfl, hi7⟩ := hrw.ints
  replace hBT := hBT.step hb2
  replace hi1 := hi1.below hb2
  replace hb1 := hb1.trans (hb2.mono hb1.size)
  clear hb2 hrw
  have hl7 := hU7.length
  have hV7 := new_int w7 (V : Nat)
  replace hBT := hBT.step (alloc_below w7 (.cells #[.int .i64 (V : Nat)] 3))
  replace hi1 := hi1.below (alloc_below w7 (.cells #[.int .i64 (V : Nat)] 3))
  replace hi7 := hi7.below (alloc_below w7 (.cells #[.int .i64 (V : Nat)] 3))
  replace hb1 := hb1.trans ((alloc_below w7 (.cells #[.int .i64 (V : Nat)] 3)).mono hb1.size)
  go_wp2_with fail
  generalize (w7.alloc (.cells #[.int .i64 (V : Nat)] 3)) = w8 at *
  refine (rLess_any d7 (some ⟨w7.heap.size, 0, none⟩) cd7 1 L7 [(V : Int)] _ hi7 hV7 (by omega) (by simp)).mono ?_
  rintro e w9 ⟨xv, rfl, hrw, hb2⟩
  rw [minusL_one] at hrw
  have hUA := lessN_up hU7 (V : Int)
  have HNV : Hid (¬ (V : Int) ∈ lessN L7 (V : Int)) := fun h => (mem_less.1 h).2 rfl
  have HAB : Hid (∀ z ∈ lessN L7 (V : Int), z ∈ vb) := fun z hz => by
    have h1 := (up_iff.1 hUA).1 z hz
    have h2 := HVB.out z.toNat (by omega)
    rwa [Int.toNat_of_nonneg h1.1] at h2
  generalize lessN L7 (V : Int) = va at *
  obtain ⟨a1, q1, rfl, hi9, han⟩ := hrw.ints0
  replace hBT := hBT.step hb2
  replace hi1 := hi1.below hb2
  replace hb1 := hb1.trans (hb2.mono hb1.size)
  clear hb2 hrw hi7 hV7 hl7 hU7
  have HUA := hid hUA
  clear hUA
  go_wp2_with fail
  refine (tableOf_any d a1 c cd q1 cc sizes va y _ hi1 hi9 (HY.out.below hb1) HS3.out HUA.out HRY.out (by omega)).mono ?_
  rintro e w10 ⟨a2, q2, la, rfl, hf10, hTA, hb2⟩
  have HTA := hid hTA
  replace hBT := hBT.step hb2
  replace hi1 := hi1.below hb2
  replace hi9 := hi9.below hb2
  replace hb1 := hb1.trans (hb2.mono hb1.size)
  clear hb2 hTA
  have hAT := TI.new q1 q2 hi9 hf10
  have hga := hb1.size
  have hBT2 := hBT.step (alloc_below w10 (TC (.slice a1 va.length q1) (.slice a2 la.length q2)))
  have hlt := hBT.1.lt
  replace hi1 := hi1.below (alloc_below w10 (TC (.slice a1 va.length q1) (.slice a2 la.length q2)))
  replace hb1 := hb1.trans ((alloc_below w10 (TC (.slice a1 va.length q1) (.slice a2 la.length q2))).mono hb1.size)
  have HW0 : Hid (SW w (w10.alloc (TC (.slice a1 va.length q1) (.slice a2 la.length q2))) d sizes Bb w10.heap.size b1 b2 a1 a2 p1 p2 q1 q2 vb va lb la) := ⟨hb1, hi1, hBT2, hAT⟩
  clear hi9 hf10 hBT hBT2 hAT hi1 hb1
  go_wp2_with fail
  generalize (w10.alloc (TC (.slice a1 va.length q1) (.slice a2 la.length q2))) = w11 at *
  generalize w10.heap.size = Ba at *
  go_loopw [14] (fun iv wr => ∃ i : Nat, i ≤ 2 ∧ iv = .int .i64 i ∧ Hid (SW w wr d sizes Bb Ba b1 b2 a1 a2 p1 p2 q1 q2 vb va lb la)) (fun iv _ => 2 - (intOf iv).toNat)
  case atStart => exact ⟨0, by omega, rfl, HW0⟩
  case round =>
    obtain ⟨i, hi, rfl, HW⟩ := hrel
    clear HW0
    by_cases hlt2 : i < 2
    · obtain ⟨most, hmost⟩ : ∃ most, ((i : Int) == 1) = most := ⟨_, rfl⟩
      by_cases hUV : U = V
      · subst hUV
        obtain ⟨V1, V2, V3, L1, L2, L3, k, o1, o2, o3, o4, hk, n3, m3⟩ := swap_outs HS3.out HTB.out d cd HU.out HV.out most
        have HO1 := hid o1
        have HO2 := hid o2
        have HO3 := hid o3
        have HO4 := hid o4
        clear o1 o2 o3 o4
        have hkz : (k == 0) = false := by
          have : ¬ k = 0 := fun e => hk.1 e rfl
          simpa using this
        clear hk
        have hW := HW.out
        have c0 := hW.tb.1.c0
        have c1 := hW.tb.1.c1
        go_wp2_with fail
        refine (HO1.out _ b1 b2 p1 p2 hW.sz hW.tb.2.1 hW.tb.2.2).mono ?_
        rintro e f1 ⟨⟨r1, r2, s1, s2, rfl, hi1, hf1⟩, hb⟩
        replace hW := hW.step hb
        clear c0 c1 hb
        have gb := hW.tb.1.lt
        have ga := hW.ta.1.lt
        have gw := hW.below.size
        have hS := TI.new s1 s2 hi1 hf1
        replace hW := hW.step (alloc_below f1 (TC (.slice r1 V1.length s1) (.slice r2 L1.length s2)))
        have c0 := hW.tb.1.c0
        have c1 := hW.tb.1.c1
        clear hi1 hf1
        go_wp2_with fail
        generalize (f1.alloc (TC (.slice r1 V1.length s1) (.slice r2 L1.length s2))) = g1 at *
        generalize f1.heap.size = Bs at *
        refine (HO2.out _ b1 b2 p1 p2 hW.sz hW.tb.2.1 hW.tb.2.2).mono ?_
        rintro e f2 ⟨⟨t1, t2, z1, z2, rfl, hi2, hf2⟩, hb⟩
        replace hW := hW.step hb
        replace hS := hS.step hb
        clear c0 c1 hb
        have gs := hS.1.lt
        have gb2 := hW.tb.1.lt
        have ga2 := hW.ta.1.lt
        have gw2 := hW.below.size
        have hT := TI.new z1 z2 hi2 hf2
        replace hW := hW.step (alloc_below f2 (TC (.slice t1 V2.length z1) (.slice t2 L2.length z2)))
        replace hS := hS.step (alloc_below f2 (TC (.slice t1 V2.length z1) (.slice t2 L2.length z2)))
        have c0 := hS.1.c0
        have c1 := hS.1.c1
        clear hi2 hf2
        go_wp2_with fail
        generalize (f2.alloc (TC (.slice t1 V2.length z1) (.slice t2 L2.length z2))) = g2 at *
        generalize f2.heap.size = Bt at *
        refine (HO3.out _ r1 r2 s1 s2 hW.sz hS.2.1 hS.2.2).mono ?_
        rintro e f3 ⟨⟨r3, r4, s3, s4, rfl, hi3, hf3⟩, hb⟩
        replace hW := hW.step hb
        replace hS := hS.step hb
        replace hT := hT.step hb
        clear c0 c1 hb
        obtain ⟨k0, k1, z0, z1'⟩ := hS.1.facts
        replace hW := hW.put hS.1 (by omega) (by omega) gw r3 r4 V3.length L3.length s3 s4
        replace hT := hT.put hS.1 (by omega) r3 r4 V3.length L3.length s3 s4
        replace hS := hS.own hi3 hf3 s3 s4
        have c0 := hT.1.c0
        have c1 := hT.1.c1
        clear hi3 hf3
        go_wp2_with fail
        generalize ((f3.setCell ⟨Bs, 0, none⟩ (.slice r3 V3.length s3)).setCell ⟨Bs, 1, none⟩ (.slice r4 L3.length s4)) = g3 at *
        clear k0 k1 z0 z1'
        refine (HO4.out _ t1 t2 z1 z2 hW.sz hT.2.1 hT.2.2).mono ?_
        rintro e f4 ⟨⟨t3, t4, z3, z4, rfl, hi4, hf4⟩, hb⟩
        replace hW := hW.step hb
        replace hS := hS.step hb
        replace hT := hT.step hb
        clear c0 c1 hb
        obtain ⟨k0, k1, z0, z1'⟩ := hT.1.facts
        replace hW := hW.put hT.1 (by omega) (by omega) gw2 t3 t4 V3.length L3.length z3 z4
        replace hS := hS.put hT.1 (by omega) t3 t4 V3.length L3.length z3 z4
        replace hT := hT.own hi4 hf4 z3 z4
        have c0 := hS.1.c0
        have c1 := hS.1.c1
        have c2 := hT.1.c0
        have c3 := hT.1.c1
        clear hi4 hf4
        go_wp2_with fail
        generalize ((f4.setCell ⟨Bt, 0, none⟩ (.slice t3 V3.length z3)).setCell ⟨Bt, 1, none⟩ (.slice t4 L3.length z4)) = g4 at *
        clear k0 k1 z0 z1'
        refine (sameTable_any r3 r4 t3 t4 s3 s4 z3 z4 V3 L3 _ hS.2.1 hS.2.2 hT.2.1 hT.2.2 n3 m3).mono ?_
        rintro e f5 ⟨rfl, hb⟩
        replace hW := hW.step hb
        clear c0 c1 c2 c3 hb hS hT
        have HW' := hid hW
        clear hW HW
        go_wp2
        go_roundw
        case rel => exact ⟨i + 1, by omega, by go_num, HW'⟩
        case measure => simp [intOf]; omega
      · obtain ⟨V1, V2, V3, L1, L2, L3, k, o1, o2, o3, o4, hk, n3, m3⟩ := swap_outs HS3.out HTB.out d cd HU.out HV.out most
        have HO1 := hid o1
        have HO2 := hid o2
        have HO3 := hid o3
        have HO4 := hid o4
        clear o1 o2 o3 o4
        obtain rfl : k = 0 := hk.2 hUV
        have hUVb : ((U : Int) == (V : Int)) = false := by
          have : ¬ (U : Int) = (V : Int) := by omega
          simpa using this
        have hUVc : ((U : Int) != (V : Int)) = true := by rw [bne, hUVb]; rfl
        clear hk
        have hW := HW.out
        have c0 := hW.tb.1.c0
        have c1 := hW.tb.1.c1
        go_wp2_with fail
        refine (HO1.out _ b1 b2 p1 p2 hW.sz hW.tb.2.1 hW.tb.2.2).mono ?_
        rintro e f1 ⟨⟨r1, r2, s1, s2, rfl, hi1, hf1⟩, hb⟩
        replace hW := hW.step hb
        clear c0 c1 hb
        have gb := hW.tb.1.lt
        have ga := hW.ta.1.lt
        have gw := hW.below.size
        have hS := TI.new s1 s2 hi1 hf1
        replace hW := hW.step (alloc_below f1 (TC (.slice r1 V1.length s1) (.slice r2 L1.length s2)))
        have c0 := hW.tb.1.c0
        have c1 := hW.tb.1.c1
        clear hi1 hf1
        go_wp2_with fail
        generalize (f1.alloc (TC (.slice r1 V1.length s1) (.slice r2 L1.length s2))) = g1 at *
        generalize f1.heap.size = Bs at *
        refine (HO2.out _ b1 b2 p1 p2 hW.sz hW.tb.2.1 hW.tb.2.2).mono ?_
        rintro e f2 ⟨⟨t1, t2, z1, z2, rfl, hi2, hf2⟩, hb⟩
        replace hW := hW.step hb
        replace hS := hS.step hb
        clear c0 c1 hb
        have gs := hS.1.lt
        have gb2 := hW.tb.1.lt
        have ga2 := hW.ta.1.lt
        have gw2 := hW.below.size
        have hT := TI.new z1 z2 hi2 hf2
        replace hW := hW.step (alloc_below f2 (TC (.slice t1 V2.length z1) (.slice t2 L2.length z2)))
        replace hS := hS.step (alloc_below f2 (TC (.slice t1 V2.length z1) (.slice t2 L2.length z2)))
        have c0 := hS.1.c0
        have c1 := hS.1.c1
        clear hi2 hf2
        go_wp2_with fail
        generalize (f2.alloc (TC (.slice t1 V2.length z1) (.slice t2 L2.length z2))) = g2 at *
        generalize f2.heap.size = Bt at *
        refine (HO3.out _ r1 r2 s1 s2 hW.sz hS.2.1 hS.2.2).mono ?_
        rintro e f3 ⟨⟨r3, r4, s3, s4, rfl, hi3, hf3⟩, hb⟩
        replace hW := hW.step hb
        replace hS := hS.step hb
        replace hT := hT.step hb
        clear c0 c1 hb
        obtain ⟨k0, k1, z0, z1'⟩ := hS.1.facts
        replace hW := hW.put hS.1 (by omega) (by omega) gw r3 r4 V3.length L3.length s3 s4
        replace hT := hT.put hS.1 (by omega) r3 r4 V3.length L3.length s3 s4
        replace hS := hS.own hi3 hf3 s3 s4
        have c0 := hT.1.c0
        have c1 := hT.1.c1
        clear hi3 hf3
        go_wp2_with fail
        generalize ((f3.setCell ⟨Bs, 0, none⟩ (.slice r3 V3.length s3)).setCell ⟨Bs, 1, none⟩ (.slice r4 L3.length s4)) = g3 at *
        clear k0 k1 z0 z1'
        refine (HO4.out _ t1 t2 z1 z2 hW.sz hT.2.1 hT.2.2).mono ?_
        rintro e f4 ⟨⟨t3, t4, z3, z4, rfl, hi4, hf4⟩, hb⟩
        replace hW := hW.step hb
        replace hS := hS.step hb
        replace hT := hT.step hb
        clear c0 c1 hb
        obtain ⟨k0, k1, z0, z1'⟩ := hT.1.facts
        replace hW := hW.put hT.1 (by omega) (by omega) gw2 t3 t4 V3.length L3.length z3 z4
        replace hS := hS.put hT.1 (by omega) t3 t4 V3.length L3.length z3 z4
        replace hT := hT.own hi4 hf4 z3 z4
        have c0 := hS.1.c0
        have c1 := hS.1.c1
        have c2 := hT.1.c0
        have c3 := hT.1.c1
        clear hi4 hf4
        go_wp2_with fail
        generalize ((f4.setCell ⟨Bt, 0, none⟩ (.slice t3 V3.length z3)).setCell ⟨Bt, 1, none⟩ (.slice t4 L3.length z4)) = g4 at *
        clear k0 k1 z0 z1'
        refine (sameTable_any r3 r4 t3 t4 s3 s4 z3 z4 V3 L3 _ hS.2.1 hS.2.2 hT.2.1 hT.2.2 n3 m3).mono ?_
        rintro e f5 ⟨rfl, hb⟩
        replace hW := hW.step hb
        clear c0 c1 c2 c3 hb hS hT
        have HW' := hid hW
        clear hW HW
        go_wp2
        go_roundw
        case rel => exact ⟨i + 1, by omega, by go_num, HW'⟩
        case measure => simp [intOf]; omega
    · obtain rfl : i = 2 := by omega
      obtain ⟨VP, VQ, V3, LP, LQ, L3, o1, o2, o3, o4, o5, hvq, ⟨nP, mP⟩, n3, m3⟩ := swap_prods HS3.out HTA.out HTB.out d cd HV.out HNV.out HAB.out
      have hqn : VQ ≠ [] := by rw [hvq]; exact HQN.out
      clear hvq
      have HO1 := hid o1
      have HO2 := hid o2
      have HO3 := hid o3
      have HO4 := hid o4
      have HO5 := hid o5
      have HBN := hid hbn
      have HAN := hid han
      have HQ := hid hqn
      clear o1 o2 o3 o4 o5 hbn han hqn
      have hW := HW.out
      have c0 := hW.tb.1.c0
      have c1 := hW.tb.1.c1
      have c2 := hW.ta.1.c0
      have c3 := hW.ta.1.c1
      go_wp2_with fail
      refine (HO1.out _ a1 a2 b1 b2 q1 q2 p1 p2 hW.sz hW.ta.2.1 hW.ta.2.2 hW.tb.2.1 hW.tb.2.2 HAN.out (hW.tb.2.1.some HBN.out _)).mono ?_
      rintro e f1 ⟨⟨r1, r2, s1, s2, rfl, hi1, hf1⟩, hb⟩
      replace hW := hW.step hb
      clear c0 c1 c2 c3 hb
      have gb := hW.tb.1.lt
      have ga := hW.ta.1.lt
      have gw := hW.below.size
      have hS := TI.new s1 s2 hi1 hf1
      replace hW := hW.step (alloc_below f1 (TC (.slice r1 VP.length s1) (.slice r2 LP.length s2)))
      have c0 := hS.1.c0
      have c1 := hS.1.c1
      clear hi1 hf1
      go_wp2_with fail
      generalize (f1.alloc (TC (.slice r1 VP.length s1) (.slice r2 LP.length s2))) = g1 at *
      generalize f1.heap.size = Bs at *
      refine (HO2.out _ r1 r2 s1 s2 hW.sz hS.2.1 hS.2.2).mono ?_
      rintro e f2 ⟨⟨r3, r4, s3, s4, rfl, hi3, hf3⟩, hb⟩
      replace hW := hW.step hb
      replace hS := hS.step hb
      clear c0 c1 hb
      obtain ⟨k0, k1, z0, z1'⟩ := hS.1.facts
      replace hW := hW.put hS.1 (by omega) (by omega) gw r3 r4 V3.length L3.length s3 s4
      replace hS := hS.own hi3 hf3 s3 s4
      have c0 := hW.tb.1.c0
      have c1 := hW.tb.1.c1
      clear hi3 hf3
      go_wp2_with fail
      generalize ((f2.setCell ⟨Bs, 0, none⟩ (.slice r3 V3.length s3)).setCell ⟨Bs, 1, none⟩ (.slice r4 L3.length s4)) = g2 at *
      clear k0 k1 z0 z1'
      refine (HO3.out _ b1 b2 p1 p2 hW.sz hW.tb.2.1 hW.tb.2.2).mono ?_
      rintro e f3 ⟨⟨t1, t2, z1, z2, rfl, hi2, hf2⟩, hb⟩
      replace hW := hW.step hb
      replace hS := hS.step hb
      clear c0 c1 hb
      have gs := hS.1.lt
      have gb2 := hW.tb.1.lt
      have ga2 := hW.ta.1.lt
      have gw2 := hW.below.size
      have hT := TI.new z1 z2 hi2 hf2
      replace hW := hW.step (alloc_below f3 (TC (.slice t1 VQ.length z1) (.slice t2 LQ.length z2)))
      replace hS := hS.step (alloc_below f3 (TC (.slice t1 VQ.length z1) (.slice t2 LQ.length z2)))
      have c0 := hW.ta.1.c0
      have c1 := hW.ta.1.c1
      have c2 := hT.1.c0
      have c3 := hT.1.c1
      clear hi2 hf2
      go_wp2_with fail
      generalize (f3.alloc (TC (.slice t1 VQ.length z1) (.slice t2 LQ.length z2))) = g3 at *
      generalize f3.heap.size = Bt at *
      refine (HO4.out _ a1 a2 t1 t2 q1 q2 z1 z2 hW.sz hW.ta.2.1 hW.ta.2.2 hT.2.1 hT.2.2 HAN.out (hT.2.1.some HQ.out _)).mono ?_
      rintro e f4 ⟨⟨t3, t4, z3, z4, rfl, hi4, hf4⟩, hb⟩
      replace hW := hW.step hb
      replace hS := hS.step hb
      replace hT := hT.step hb
      clear c0 c1 c2 c3 hb
      obtain ⟨k0, k1, z0, z1'⟩ := hT.1.facts
      replace hW := hW.put hT.1 (by omega) (by omega) gw2 t3 t4 V3.length L3.length z3 z4
      replace hS := hS.put hT.1 (by omega) t3 t4 V3.length L3.length z3 z4
      replace hT := hT.own hi4 hf4 z3 z4
      have c0 := hW.tb.1.c0
      have c1 := hW.tb.1.c1
      have c2 := hW.ta.1.c0
      have c3 := hW.ta.1.c1
      clear hi4 hf4
      go_wp2_with fail
      generalize ((f4.setCell ⟨Bt, 0, none⟩ (.slice t3 V3.length z3)).setCell ⟨Bt, 1, none⟩ (.slice t4 L3.length z4)) = g4 at *
      clear k0 k1 z0 z1'
      refine (HO5.out _ b1 b2 a1 a2 p1 p2 q1 q2 hW.sz hW.tb.2.1 hW.tb.2.2 hW.ta.2.1 hW.ta.2.2 (hW.tb.2.1.some HBN.out _) HAN.out).mono ?_
      rintro e f5 ⟨⟨r5, r6, s5, s6, rfl, hi5, hf5⟩, hb⟩
      replace hW := hW.step hb
      replace hS := hS.step hb
      replace hT := hT.step hb
      clear c0 c1 c2 c3 hb
      have hX := TI.new s5 s6 hi5 hf5
      replace hW := hW.step (alloc_below f5 (TC (.slice r5 VP.length s5) (.slice r6 LP.length s6)))
      replace hS := hS.step (alloc_below f5 (TC (.slice r5 VP.length s5) (.slice r6 LP.length s6)))
      replace hT := hT.step (alloc_below f5 (TC (.slice r5 VP.length s5) (.slice r6 LP.length s6)))
      have c0 := hW.tb.1.c0
      have c1 := hW.tb.1.c1
      have c2 := hW.ta.1.c0
      have c3 := hW.ta.1.c1
      clear hi5 hf5
      go_wp2_with fail
      generalize (f5.alloc (TC (.slice r5 VP.length s5) (.slice r6 LP.length s6))) = g5 at *
      generalize f5.heap.size = Bx at *
      refine (HO1.out _ a1 a2 b1 b2 q1 q2 p1 p2 hW.sz hW.ta.2.1 hW.ta.2.2 hW.tb.2.1 hW.tb.2.2 HAN.out (hW.tb.2.1.some HBN.out _)).mono ?_
      rintro e f6 ⟨⟨r7, r8, s7, s8, rfl, hi6, hf6⟩, hb⟩
      replace hW := hW.step hb
      replace hS := hS.step hb
      replace hT := hT.step hb
      replace hX := hX.step hb
      clear c0 c1 c2 c3 hb
      have hY := TI.new s7 s8 hi6 hf6
      replace hW := hW.step (alloc_below f6 (TC (.slice r7 VP.length s7) (.slice r8 LP.length s8)))
      replace hS := hS.step (alloc_below f6 (TC (.slice r7 VP.length s7) (.slice r8 LP.length s8)))
      replace hT := hT.step (alloc_below f6 (TC (.slice r7 VP.length s7) (.slice r8 LP.length s8)))
      replace hX := hX.step (alloc_below f6 (TC (.slice r7 VP.length s7) (.slice r8 LP.length s8)))
      have c0 := hS.1.c0
      have c1 := hS.1.c1
      have c2 := hT.1.c0
      have c3 := hT.1.c1
      clear hi6 hf6
      go_wp2_with fail
      generalize (f6.alloc (TC (.slice r7 VP.length s7) (.slice r8 LP.length s8))) = g6 at *
      generalize f6.heap.size = By at *
      refine (sameTable_any r3 r4 t3 t4 s3 s4 z3 z4 V3 L3 _ hS.2.1 hS.2.2 hT.2.1 hT.2.2 n3 m3).mono ?_
      rintro e f7 ⟨rfl, hb⟩
      replace hW := hW.step hb
      replace hX := hX.step hb
      replace hY := hY.step hb
      clear c0 c1 c2 c3 hb hS hT
      have c0 := hX.1.c0
      have c1 := hX.1.c1
      have c2 := hY.1.c0
      have c3 := hY.1.c1
      go_wp2_with fail
      refine (sameTable_any r5 r6 r7 r8 s5 s6 s7 s8 VP LP _ hX.2.1 hX.2.2 hY.2.1 hY.2.2 nP mP).mono ?_
      rintro e f8 ⟨rfl, hb⟩
      replace hW := hW.step hb
      clear c0 c1 c2 c3 hb hX hY
      go_wp2
      go_ret
      exact ⟨rfl, hW.below⟩
end Go.Proofs.YtknlhejhnopnaaaGreatDoor
