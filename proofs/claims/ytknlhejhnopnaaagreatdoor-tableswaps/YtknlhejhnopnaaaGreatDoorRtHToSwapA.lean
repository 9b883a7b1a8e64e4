/- The document's answer: Product. -/
import Derived.Test.YtknlhejhnopnaaaGreatDoorRtGOwn
import Derived.Test.YtknlhejhnopnaaaGreatDoorProdBOwn
import Derived.Test.YtknlhejhnopnaaaGreatDoorRtCToSwapT
import Derived.Test.YtknlhejhnopnaaaGreatDoorTabR1ToTabR3
namespace Go.Proofs.YtknlhejhnopnaaaGreatDoor
open Go.RowKit Go.Shelf

/-- What Product holds: two tables, its result's block. -/
def QH (w V : World) (x y z t : Value) : Prop := TBox V w.heap.size x y ∧ TBox V (w.heap.size + 1) z t ∧ TBox V (w.heap.size + 1 + 1) (.slice none 0 0) (.slice none 0 0) ∧ Below w.heap.size w V
theorem QH.step {w V V' : World} {x y z t : Value} (h : QH w V x y z t) (hb : Below V.heap.size V V') : QH w V' x y z t := ⟨h.1.below hb h.1.lt, h.2.1.below hb h.2.1.lt, h.2.2.1.below hb h.2.2.1.lt, h.2.2.2.trans (hb.mono h.2.2.2.size)⟩
theorem QH.new (w : World) (x y z t : Value) : QH w (((w.alloc (TC x y)).alloc (TC z t)).alloc (TC (.slice none 0 0) (.slice none 0 0))) x y z t := ⟨((TBox.at rfl _ _).alloc _).alloc _, (TBox.at (by simp) _ _).alloc _, TBox.at (by simp) _ _, (((Below.refl _ w).alloc (Nat.le_refl _) _).alloc (by simp) _).alloc (by simp; omega) _⟩
/-- The variables so far. -/
def bothI (a b : List Int) (i : Nat) : List Int := iL (bothN i a b)
theorem bothI_succ (a b : List Int) (i : Nat) : bothI a b (i + 1) = bothI a b i ++ if (inB (i : Int) a || inB (i : Int) b) = true then [(i : Int)] else [] := by
  rw [bothI, bothI, bothN, bothN, List.range_succ, List.filter_append, iL, iL, List.map_append]
  congr 1
  by_cases h : (inB (i : Int) a || inB (i : Int) b) = true
  · simp only [List.filter_cons, h, List.filter_nil, if_true, List.map_cons, List.map_nil]
  · simp only [List.filter_cons, h, List.filter_nil]
    rfl
theorem bothI_len (a b : List Int) (i : Nat) : (bothI a b i).length ≤ i := by
  rw [bothI, iL_length]
  exact Nat.le_trans (List.length_filter_le _ _) (by rw [List.length_range]; exact Nat.le_refl _)
theorem RwI.off {w : World} {B : Nat} {v : Value} {l : List Int} (h : RwI w B v l) (b j : Nat) (y : Value) (hb : b < B) : RwI (w.setCell ⟨b, j, none⟩ y) B v l := by
  refine ⟨h.1, h.2.imp id ?_⟩
  rintro ⟨g, cap, cur, h1, h2, h3, h4⟩
  exact ⟨g, cap, cur, h1, h2, (Below.heap_setCell w ⟨b, j, none⟩ y g (by show g ≠ b; omega)).trans h3, h4⟩
theorem RwI.below {w w' : World} {B : Nat} {v : Value} {l : List Int} (h : RwI w B v l) (hb : Below w.heap.size w w') : RwI w' B v l := by
  refine ⟨h.1, h.2.imp id ?_⟩
  rintro ⟨g, cap, cur, h1, h2, h3, h4⟩
  exact ⟨g, cap, cur, h1, h2, (hb.block g (Array.getElem?_eq_some_iff.1 h3).1).trans h3, h4⟩
theorem RwI.slv {w : World} {B : Nat} {v : Value} {l : List Int} (h : RwI w B v l) : SlV v := by
  obtain ⟨d, cd, e, _⟩ := h.ints
  exact ⟨d, _, cd, e⟩
/-- A table whose variables grow. -/
def VX (w0 V : World) (x : Value) (l : List Int) : Prop := Below w0.heap.size w0 V ∧ TBox V w0.heap.size x (.slice none 0 0) ∧ RwI V (w0.heap.size + 1) x l
theorem VX.step {w0 V V' : World} {x : Value} {l : List Int} (h : VX w0 V x l) (hb : Below V.heap.size V V') : VX w0 V' x l := ⟨h.1.trans (hb.mono h.1.size), h.2.1.below hb h.2.1.lt, h.2.2.below hb⟩
theorem VX.push {w0 V V' : World} {x x' : Value} {l l' : List Int} (h : VX w0 V x l) (hr : RwI V' (w0.heap.size + 1) x' l') (hg : V.grownBy V' x.ownBlock) : VX w0 (V'.setCell ⟨w0.heap.size, 0, none⟩ x') x' l' := by
  have hs : w0.heap.size + 1 ≤ V.heap.size := h.2.1.lt
  have hb : Below (w0.heap.size + 1) V V' := (Below.refl _ V).grown hg hs h.2.2.own
  have ht := h.2.1.below hb (by omega)
  refine ⟨(h.1.trans (hb.mono (by omega))).setCell (p := ⟨w0.heap.size, 0, none⟩) (Nat.le_refl _) _, heap_setCell_same _ _ 0 _ _ _ ht, hr.off _ 0 _ (by omega)⟩
theorem VX.mid {w0 V V' : World} {x : Value} {l : List Int} (h : VX w0 V x l) (hg : V.grownBy V' x.ownBlock) : TBox V' w0.heap.size x (.slice none 0 0) := by
  have hs : w0.heap.size + 1 ≤ V.heap.size := h.2.1.lt
  exact h.2.1.below ((Below.refl _ V).grown hg hs h.2.2.own) (by omega)
/-- A table whose variables lie behind it, and whose cells grow behind these. -/
def PX (w0 w1 V : World) (x y : Value) (L : List Fr) : Prop := Below w0.heap.size w0 V ∧ TBox V w0.heap.size x y ∧ RwF V w1.heap.size y L ∧ (∀ k, w0.heap.size < k → k < w1.heap.size → V.heap[k]? = w1.heap[k]?) ∧ w1.heap.size ≤ V.heap.size
theorem PX.step {w0 w1 V V' : World} {x y : Value} {L : List Fr} (h : PX w0 w1 V x y L) (hb : Below V.heap.size V V') : PX w0 w1 V' x y L := ⟨h.1.trans (hb.mono h.1.size), h.2.1.below hb h.2.1.lt, h.2.2.1.below hb, fun k h1 h2 => (hb.block k (by have := h.2.2.2.2; omega)).trans (h.2.2.2.1 k h1 h2), Nat.le_trans h.2.2.2.2 hb.size⟩
theorem PX.push {w0 w1 V V' : World} {x y y' : Value} {L L' : List Fr} (h : PX w0 w1 V x y L) (h01 : w0.heap.size < w1.heap.size) (hr : RwF V' w1.heap.size y' L') (hg : V.grownBy V' y.ownBlock) : PX w0 w1 (V'.setCell ⟨w0.heap.size, 1, none⟩ y') x y' L' := by
  have hb : Below w1.heap.size V V' := (Below.refl _ V).grown hg h.2.2.2.2 h.2.2.1.own
  have ht := h.2.1.below hb h01
  refine ⟨(h.1.trans (hb.mono (by omega))).setCell (p := ⟨w0.heap.size, 1, none⟩) (Nat.le_refl _) _, heap_setCell_same _ _ 1 _ _ _ ht, hr.off _ 1 _ h01, fun k h1 h2 => ?_, ?_⟩
  · rw [Below.heap_setCell V' ⟨w0.heap.size, 1, none⟩ y' k (by show k ≠ w0.heap.size; omega), hb.block k h2]
    exact h.2.2.2.1 k h1 h2
  · exact Nat.le_trans (Nat.le_trans h.2.2.2.2 hb.size) (KeepsOthers.setCell V' _ _).size
theorem PX.mid {w0 w1 V V' : World} {x y : Value} {L : List Fr} (h : PX w0 w1 V x y L) (h01 : w0.heap.size < w1.heap.size) (hg : V.grownBy V' y.ownBlock) : TBox V' w0.heap.size x y := h.2.1.below ((Below.refl _ V).grown hg h.2.2.2.2 h.2.2.1.own) h01
theorem PX.vars {w0 w1 V : World} {x y : Value} {L : List Fr} {d : Option Addr} {cd : Nat} {U : List Int} (h : PX w0 w1 V x y L) (hr : RwI w1 (w0.heap.size + 1) (.slice d U.length cd) U) : RwI V (w0.heap.size + 1) (.slice d U.length cd) U := by
  refine ⟨hr.1, hr.2.imp id ?_⟩
  rintro ⟨g, cap, cur, h1, h2, h3, h4⟩
  exact ⟨g, cap, cur, h1, h2, (h.2.2.2.1 g (by omega) (Array.getElem?_eq_some_iff.1 h3).1).trans h3, h4⟩
theorem RwI.intS {w : World} {B : Nat} {d : Option Addr} {cd : Nat} {U : List Int} (h : RwI w B (.slice d U.length cd) U) : IntS w d U := by
  obtain ⟨d', cd', e, hi⟩ := h.ints
  cases e
  exact hi

set_option maxRecDepth 100000 in
set_option maxHeartbeats 400000 in
theorem rProd_no (a b c b' c' : Option Addr) (ca cb cc cb' cc' ma mb : Nat) (sizes va vb : List Int) (w : World) (hs : IntS w a sizes) (hva : IntS w b va) (hvb : IntS w b' vb) (hn : sizes.length ≤ 140737488355328) (hma : va.length ≤ 140737488355328) (hmb : vb.length ≤ 140737488355328) (K : Int) (hK : (if checkA sizes va ma ≠ 0 then checkA sizes va ma else checkA sizes vb mb) = K) (hK0 : K ≠ 0) :
    Calls Tryz.prog 18 #[.slice a sizes.length ca, .agg #[.slice b va.length cb, .slice c ma cc], .agg #[.slice b' vb.length cb', .slice c' mb cc']] w fun e w' => TabA [] [] K e w' ∧ Below w.heap.size w w' := by
  have HCA := hid (fun V h1 h2 => rCheck_any a b c ca cb cc ma sizes va V h1 h2 hn hma)
  have HCB := hid (fun V h1 h2 => rCheck_any a b' c' ca cb' cc' mb sizes vb V h1 h2 hn hmb)
  generalize checkA sizes va ma = ra at *
  generalize checkA sizes vb mb = rb at *
  have HS := hid hs
  have HVA := hid hva
  have HVB := hid hvb
  clear hs hva hvb
  have hH := QH.new w (.slice b va.length cb) (.slice c ma cc) (.slice b' vb.length cb') (.slice c' mb cc')
  have c0 := hH.1.c0
  have c1 := hH.1.c1
  go_enter Tryz.func18, Tryz.ntmps18
  go_wp2_with fail
  generalize (((w.alloc (TC (.slice b va.length cb) (.slice c ma cc))).alloc (TC (.slice b' vb.length cb') (.slice c' mb cc'))).alloc (TC (.slice none 0 0) (.slice none 0 0))) = W at *
  refine (HCA.out _ (HS.out.below hH.2.2.2) (HVA.out.below hH.2.2.2)).mono ?_
  rintro e w1 ⟨rfl, hb1⟩
  replace hH := hH.step hb1
  clear c0 c1 hb1
  have c2 := hH.2.1.c0
  have c3 := hH.2.1.c1
  go_wp2_with fail
  refine (HCB.out _ (HS.out.below hH.2.2.2) (HVB.out.below hH.2.2.2)).mono ?_
  rintro e w2 ⟨rfl, hb2⟩
  replace hH := hH.step hb2
  clear c2 c3 hb2
  obtain ⟨k0, k1, f0, f1⟩ := hH.2.2.1.facts
  by_cases h : ra = 0
  · subst h
    rw [if_neg (fun h => h rfl)] at hK
    subst hK
    have hrb : (rb == 0) = false := by simp [hK0]
    go_wp2
    refine bodyPost_ret ((hH.2.2.1.put _ _).result2 rfl _ rfl) rfl ?_
    exact ⟨TabA.empty _ _, below_put2 hH.2.2.2 (by omega) _ _⟩
  · rw [if_pos h] at hK
    subst hK
    have hrb : (ra == 0) = false := by simp [h]
    go_wp2
    refine bodyPost_ret ((hH.2.2.1.put _ _).result2 rfl _ rfl) rfl ?_
    exact ⟨TabA.empty _ _, below_put2 hH.2.2.2 (by omega) _ _⟩

set_option maxRecDepth 100000 in
set_option maxHeartbeats 2000000 in
theorem rProd_yes (a b c b' c' : Option Addr) (ca cb cc cb' cc' : Nat) (sizes va vb : List Int) (la lb : List Fr) (w : World) (hs : IntS w a sizes) (hva : IntS w b va) (hvb : IntS w b' vb) (hfa : FrS w c la) (hfb : FrS w c' lb) (hn : sizes.length ≤ 140737488355328) (hma : va.length ≤ 140737488355328) (hmb : vb.length ≤ 140737488355328) (hka : checkA sizes va la.length = 0) (hkb : checkA sizes vb lb.length = 0) (hwa : fw la ≤ 8192) (hwb : fw lb ≤ 8192) :
    Calls Tryz.prog 18 #[.slice a sizes.length ca, .agg #[.slice b va.length cb, .slice c la.length cc], .agg #[.slice b' vb.length cb', .slice c' lb.length cc']] w fun e w' => TabA (togL va vb) (prodL (toN sizes) (toN va) (toN vb) (toN (togL va vb)) la lb) 0 e w' ∧ Below w.heap.size w w' := by
  obtain ⟨hfi, hua, -⟩ := checkA_parts hka
  obtain ⟨-, hub, -⟩ := checkA_parts hkb
  have hl8 := hfi.eight
  have HCKA := fun V h1 h2 => rCheck_any a b c ca cb cc la.length sizes va V h1 h2 hn hma
  rw [hka] at HCKA
  have HCA := hid HCKA
  have HCKB := fun V h1 h2 => rCheck_any a b' c' ca cb' cc' lb.length sizes vb V h1 h2 hn hmb
  rw [hkb] at HCKB
  have HCB := hid HCKB
  clear HCKA HCKB
  have HPA := hid (fun K (hK : K < cnt (toN sizes) (toN (togL va vb))) => stand_lt hka hK)
  have HPB := hid (fun K (hK : K < cnt (toN sizes) (toN (togL va vb))) => stand_lt hkb hK)
  have HAS := hid (fun K (hK : K < cnt (toN sizes) (toN (togL va vb))) u => asg_lt hfi.pos (toN (togL va vb)) K u hK)
  have HFL := hid (prodL_length (toN sizes) (toN va) (toN vb) (toN (togL va vb)) la lb)
  have HFG := hid (fun (k : Nat) (h : k < (prodL (toN sizes) (toN va) (toN vb) (toN (togL va vb)) la lb).length) => prodL_get (toN sizes) (toN va) (toN vb) (toN (togL va vb)) la lb h)
  have HUU := hid (togL_up hua hub)
  have hsm : cnt (toN sizes) (toN (togL va vb)) ≤ 65536 := cnt_small hfi.sz_le (by rw [toN_length]; have := HUU.out.length; omega)
  have HU : Hid (bothI va vb sizes.length = togL va vb) := (togL_both hua hub).symm
  generalize prodL (toN sizes) (toN va) (toN vb) (toN (togL va vb)) la lb = FL at *
  generalize togL va vb = U at *
  have HSUC := hid (bothI_succ va vb)
  have HLEN := hid (bothI_len va vb)
  have h0e : bothI va vb 0 = [] := rfl
  have HINA := hid (fun (k : Int) V h => rIn_any k b cb va V h hma)
  have HINB := hid (fun (k : Int) V h => rIn_any k b' cb' vb V h hmb)
  generalize bothI va vb = BI at *
  have HFI := hid hfi
  have HUA := hid hua
  have HUB := hid hub
  have HFA := hid hfa
  have HFB := hid hfb
  have HWA := hid hwa
  have HWB := hid hwb
  clear hka hkb hfi hua hub hfa hfb hwa hwb
  have HS := hid hs
  have HVA := hid hva
  have HVB := hid hvb
  clear hs hva hvb
  have hH := QH.new w (.slice b va.length cb) (.slice c la.length cc) (.slice b' vb.length cb') (.slice c' lb.length cc')
  have c0 := hH.1.c0
  have c1 := hH.1.c1
  go_enter Tryz.func18, Tryz.ntmps18
  go_wp2_with fail
  generalize (((w.alloc (TC (.slice b va.length cb) (.slice c la.length cc))).alloc (TC (.slice b' vb.length cb') (.slice c' lb.length cc'))).alloc (TC (.slice none 0 0) (.slice none 0 0))) = W at *
  refine (HCA.out _ (HS.out.below hH.2.2.2) (HVA.out.below hH.2.2.2)).mono ?_
  rintro e w1 ⟨rfl, hb1⟩
  replace hH := hH.step hb1
  clear c0 c1 hb1
  have c2 := hH.2.1.c0
  have c3 := hH.2.1.c1
  go_wp2_with fail
  refine (HCB.out _ (HS.out.below hH.2.2.2) (HVB.out.below hH.2.2.2)).mono ?_
  rintro e w2 ⟨rfl, hb2⟩
  replace hH := hH.step hb2
  clear c2 c3 hb2
  have hV0 : VX w2 (w2.alloc (TC (.slice none 0 0) (.slice none 0 0))) (.slice none 0 0) [] := ⟨(Below.refl _ w2).alloc (Nat.le_refl _) _, TBox.at rfl _ _, ⟨rfl, .inl ⟨rfl, rfl⟩⟩⟩
  go_wp2_with fail
  generalize (w2.alloc (TC (.slice none 0 0) (.slice none 0 0))) = w3 at *
  have HV0 := hid hV0
  clear hV0
  go_loopw [11] (fun iv wr => ∃ (i : Nat) (x : Value), i ≤ sizes.length ∧ iv = .int .i64 i ∧ Hid (VX w2 wr x (BI i))) (fun iv _ => sizes.length - (intOf iv).toNat)
  case atStart => exact ⟨0, _, Nat.zero_le _, rfl, by rw [h0e]; exact HV0⟩
  case round =>
    obtain ⟨i, x, hi, rfl, HX⟩ := hrel
    clear HV0
    have hHw := hH.step HX.out.1
    by_cases hlt : i < sizes.length
    · have c0 := hHw.1.c0
      have c2 := hHw.2.1.c0
      go_wp2_with fail
      refine (HINA.out (i : Int) _ (HVA.out.below hHw.2.2.2)).mono ?_
      rintro e u1 ⟨rfl, hu1⟩
      replace hu1 := hu1.symm
      subst hu1
      go_wp2_with fail
      refine (HINB.out (i : Int) _ (HVB.out.below hHw.2.2.2)).mono ?_
      rintro e u2 ⟨rfl, hu2⟩
      replace hu2 := hu2.symm
      subst hu2
      have hsu := HSUC.out i
      have hle := HLEN.out i
      generalize inB (i : Int) va = pa at *
      generalize inB (i : Int) vb = pb at *
      by_cases hp : (pa || pb) = true
      · rw [if_pos hp] at hsu
        have HSU := hid hsu
        clear hsu
        obtain ⟨d0, n0, e0, rfl⟩ := HX.out.2.2.slv
        have cx := HX.out.2.1.c0
        have hbA : Below wr.heap.size wr (wr.alloc (.cells #[.int .i64 (i : Int)] 3)) := (Below.refl _ wr).alloc (Nat.le_refl _) _
        have HXA := hid (HX.out.step hbA)
        have HIA : Hid (IntS (wr.alloc (.cells #[.int .i64 (i : Int)] 3)) (some ⟨wr.heap.size, 0, none⟩) [(i : Int)]) := fun k hk => by
          obtain rfl : k = 0 := by simp at hk; omega
          exact ⟨wr.heap.size, 0, rfl, by simp, (Boxed.new wr _ _).cell⟩
        have hbs : w2.heap.size + 1 ≤ (wr.alloc (.cells #[.int .i64 (i : Int)] 3)).heap.size := HXA.out.2.1.lt
        have HP := hid hp
        cases pa
        case true =>
          clear hbA hHw hp c0 c2
          go_wp2_with (at_builtin; refine wpList_append_ints rfl _ _ rfl (w2.heap.size + 1) _ (BI i) [(i : Int)] rfl HXA.out.2.2 (some ⟨wr.heap.size, 0, none⟩) 1 rfl HIA.out (fun e => by cases e) (by simp; omega) hbs ?_; intro v' u3 hr3 hg3; obtain ⟨d3, n3, cd3, rfl⟩ := hr3.slv; have hmid := HXA.out.mid hg3; have hm0 := hmid.c0; have hmf : u3.frozen? ⟨w2.heap.size, 0, none⟩ = false := frozen_of_row _ _ 0 _ _ hmid; have HPU := hid (HXA.out.push hr3 hg3); clear hmid hr3 hg3)
          go_roundw
          case rel => exact ⟨i + 1, _, by omega, by go_num, by rw [HSU.out]; exact HPU⟩
          case measure => simp [intOf]; omega
        case false =>
          have hpb : pb = true := by simpa using hp
          subst hpb
          clear hbA hHw hp c0 c2
          go_wp2_with (at_builtin; refine wpList_append_ints rfl _ _ rfl (w2.heap.size + 1) _ (BI i) [(i : Int)] rfl HXA.out.2.2 (some ⟨wr.heap.size, 0, none⟩) 1 rfl HIA.out (fun e => by cases e) (by simp; omega) hbs ?_; intro v' u3 hr3 hg3; obtain ⟨d3, n3, cd3, rfl⟩ := hr3.slv; have hmid := HXA.out.mid hg3; have hm0 := hmid.c0; have hmf : u3.frozen? ⟨w2.heap.size, 0, none⟩ = false := frozen_of_row _ _ 0 _ _ hmid; have HPU := hid (HXA.out.push hr3 hg3); clear hmid hr3 hg3)
          go_roundw
          case rel => exact ⟨i + 1, _, by omega, by go_num, by rw [HSU.out]; exact HPU⟩
          case measure => simp [intOf]; omega
      · rw [if_neg hp, List.append_nil] at hsu
        have HSU := hid hsu
        clear hsu
        have hpa : pa = false := by cases pa; rfl; exact absurd rfl hp
        have hpb : pb = false := by cases pb; rfl; rw [hpa] at hp; exact absurd rfl hp
        subst hpa hpb
        clear hp
        go_wp2
        go_roundw
        case rel => exact ⟨i + 1, _, by omega, by go_num, by rw [HSU.out]; exact HX⟩
        case measure => simp [intOf]; omega
    · obtain rfl : i = sizes.length := by omega
      clear hHw
      have hV := HX.out
      rw [HU.out] at hV
      obtain ⟨d, cd, rfl, -⟩ := hV.2.2.ints
      have HRU := hid hV.2.2
      have HP0 : Hid (PX w2 wr wr (.slice d U.length cd) (.slice none 0 0) []) := ⟨hV.1, hV.2.1, RwF.empty _ _, fun _ _ _ => rfl, Nat.le_refl _⟩
      have c0 := hV.2.1.c0
      have hH1 := hH.step hV.1
      have h21 : w2.heap.size < wr.heap.size := hV.2.1.lt
      have hUl := HUU.out.length
      clear HX hV
      go_wp2_with fail
      generalize wr = w4 at *
      refine (rCount_in a d ca cd sizes U _ (HS.out.below hH1.2.2.2) HRU.out.intS HFI.out HUU.out).mono ?_
      rintro e w5 ⟨rfl, hb5⟩
      have HP1 := hid (HP0.out.step hb5)
      clear c0 hb5 HP0 hH1
      go_wp2_with fail
      go_loopw [16] (fun iv wr => ∃ (i : Nat) (y : Value), i ≤ FL.length ∧ iv = .int .i64 i ∧ Hid (PX w2 w4 wr (.slice d U.length cd) y (FL.take i))) (fun iv _ => FL.length - (intOf iv).toNat)
      case atStart => exact ⟨0, _, Nat.zero_le _, rfl, HP1⟩
      case round =>
        obtain ⟨i, y, hile, rfl, HX⟩ := hrel
        clear HP1
        by_cases hlt2 : i < FL.length
        · have hiK : i < cnt (toN sizes) (toN U) := by rw [← HFL.out]; exact hlt2
          have hii : (i : Int) < (cnt (toN sizes) (toN U) : Int) := by omega
          have c0 := HX.out.2.1.c0
          have hH2 := hH.step HX.out.1
          have hIU := (HX.out.vars HRU.out).intS
          go_wp2_with fail
          refine (rWhere_in a d ca cd i sizes U _ (HS.out.below hH2.2.2.2) hIU HFI.out HUU.out hiK).mono ?_
          rintro e u1 ⟨d5, cd5, rfl, hi5, hb5⟩
          have c0' := (HX.out.step hb5).2.1.c0
          clear c0
          go_wp2_with fail
          refine (rSpread_any a d d5 ca cd cd5 i sizes U _ (hIU.below hb5) hi5 HFI.out HUU.out).mono ?_
          rintro e u2 ⟨G, rfl, hG, hrow, hb6⟩
          have hb06 := hb5.trans (hb6.mono hb5.size)
          have hHx := hH2.step hb06
          have t0 := hHx.1.c0
          have t1 := hHx.1.c1
          clear c0' hb5 hb6 hi5 hG
          go_wp2_with fail
          refine (rCell_any a b c (some ⟨G, 0, none⟩) ca cb cc sizes.length sizes va la (asg (toN sizes) (toN U) i) _ (HS.out.below hHx.2.2.2) (HVA.out.below hHx.2.2.2) (HFA.out.below hHx.2.2.2) hrow.ints HFI.out HUA.out (HAS.out i hiK) (HPA.out i hiK)).mono ?_
          rintro e u3 ⟨rfl, hb7⟩
          replace hb06 := hb06.trans (hb7.mono hb06.size)
          replace hHx := hHx.step hb7
          replace hrow := hrow.below hb7 hrow.lt
          clear t0 t1 hb7
          have hfg := HFG.out i hlt2
          have hsa := celF_size (HPA.out i hiK)
          have hsb := celF_size (HPB.out i hiK)
          have hwa' := HWA.out
          have hwb' := HWB.out
          generalize celF la (pos (toN sizes) (asg (toN sizes) (toN U) i) (toN va)) = fa at *
          obtain ⟨xn, xx, xy⟩ := fa
          replace hsa : xx.size + xy.size + 2 ≤ fw la := hsa
          have hbx := Box.new u3 xn xx xy
          have hb8 : Below u3.heap.size u3 (u3.alloc (FC xn xx xy)) := (Below.refl _ u3).alloc (Nat.le_refl _) _
          replace hb06 := hb06.trans (hb8.mono hb06.size)
          replace hHx := hHx.step hb8
          replace hrow := hrow.below hb8 hrow.lt
          have t2 := hHx.2.1.c0
          have t3 := hHx.2.1.c1
          clear hb8
          go_wp2_with fail
          generalize (u3.alloc (FC xn xx xy)) = u4 at *
          generalize u3.heap.size = B19 at *
          refine (rCell_any a b' c' (some ⟨G, 0, none⟩) ca cb' cc' sizes.length sizes vb lb (asg (toN sizes) (toN U) i) _ (HS.out.below hHx.2.2.2) (HVB.out.below hHx.2.2.2) (HFB.out.below hHx.2.2.2) hrow.ints HFI.out HUB.out (HAS.out i hiK) (HPB.out i hiK)).mono ?_
          rintro e u5 ⟨rfl, hb9⟩
          replace hb06 := hb06.trans (hb9.mono hb06.size)
          replace hbx := hbx.below hb9 hbx.lt
          clear t2 t3 hb9 hrow hHx
          generalize celF lb (pos (toN sizes) (asg (toN sizes) (toN U) i) (toN vb)) = fb at *
          obtain ⟨yn, yx, yy⟩ := fb
          replace hsb : yx.size + yy.size + 2 ≤ fw lb := hsb
          have hby := Box.new u5 yn yx yy
          have hb10 : Below u5.heap.size u5 (u5.alloc (FC yn yx yy)) := (Below.refl _ u5).alloc (Nat.le_refl _) _
          replace hb06 := hb06.trans (hb10.mono hb06.size)
          replace hbx := hbx.below hb10 hbx.lt
          obtain ⟨k0, k1, k2, -⟩ := hbx.facts
          obtain ⟨j0, j1, j2, -⟩ := hby.facts
          clear hb10
          go_wp2_with fail
          generalize (u5.alloc (FC yn yx yy)) = u6 at *
          refine (rMulF_any xn yn xx xy yx yy _ (by omega) (by omega)).mono ?_
          rintro e u7 ⟨rfl, hb11⟩
          replace hb06 := hb06.trans (hb11.mono hb06.size)
          clear k0 k1 k2 j0 j1 j2 hb11 hbx hby
          rw [C_eq]
          replace hfg : FL[i] = (sgn (val xn xx xy * val yn yx yy), nu (val xn xx xy * val yn yx yy), de (val xn xx xy * val yn yx yy)) := hfg
          generalize sgn (val xn xx xy * val yn yx yy) = qn at *
          generalize nu (val xn xx xy * val yn yx yy) = qx at *
          generalize de (val xn xx xy * val yn yx yy) = qy at *
          have hst : FL.take i ++ [(qn, qx, qy)] = FL.take (i + 1) := by rw [List.take_succ_eq_append_getElem hlt2, hfg]
          have HST := hid hst
          have htl : (FL.take i).length ≤ 65536 := by rw [List.length_take]; omega
          have hbq := Box.new u7 qn qx qy
          have hb12 := hb06.alloc hb06.size (FC qn qx qy)
          clear hst hfg hb06
          go_upto_region 24 with fail
          generalize (u7.alloc (FC qn qx qy)) = u8 at *
          have cy := (HX.out.step hb12).2.1.c1
          obtain ⟨p0, p1, p2, -⟩ := hbq.facts
          have hb13 := hb12.alloc hb12.size (FC qn qx qy)
          have HNB := hid (Box.new u8 qn qx qy)
          have HX12 := hid (HX.out.step hb13)
          have hbs : w4.heap.size ≤ (u8.alloc (FC qn qx qy)).heap.size := HX12.out.2.2.2.2
          clear hb12 hb13 hbq hH2
          go_wp2_with (at_builtin; refine wpList_append_fr rfl _ _ rfl w4.heap.size _ (FL.take i) (qn, qx, qy) rfl HX12.out.2.2.1 _ rfl HNB.out (by omega) hbs ?_; intro v' w13 hr13 hg13; obtain ⟨d13, n13, cd13, rfl⟩ := hr13.slv; have hmid := HX12.out.mid h21 hg13; have hm1 := hmid.c1; have hmf : w13.frozen? ⟨w2.heap.size, 1, none⟩ = false := frozen_of_row _ _ 1 _ _ hmid; have HPU := hid (HX12.out.push h21 hr13 hg13); clear hmid hr13 hg13)
          go_roundw
          case rel => exact ⟨i + 1, _, by omega, by go_num, by rw [← HST.out]; exact HPU⟩
          case measure => simp [intOf]; omega
        · obtain rfl : i = FL.length := by omega
          have hX := HX.out
          rw [List.take_length] at hX
          obtain ⟨dy, ny, cy, rfl⟩ := hX.2.2.1.slv
          have hR := (hH.step hX.1).2.2
          have hIU := (hX.vars HRU.out).intS
          obtain ⟨k0, k1, f0, f1⟩ := hR.1.facts
          have c0 := hX.2.1.c0
          have c1 := hX.2.1.c1
          have hlf : (FL.length : Int) = (cnt (toN sizes) (toN U) : Int) := by rw [HFL.out]
          have hRw := hH.2.2.1.lt
          obtain ⟨df, cdf, ef, hff⟩ := ((hX.2.2.1.off (w.heap.size + 1 + 1) 0 (.slice d U.length cd) (by omega)).off (w.heap.size + 1 + 1) 1 (.slice dy ny cy) (by omega)).fr
          cases ef
          go_wp2
          refine bodyPost_ret ((hR.1.put _ _).result2 rfl _ rfl) rfl ?_
          exact ⟨⟨d, dy, cd, cy, rfl, hIU.putT hR.1 (Go.Proofs.YtknlhejhnopnaaaGreatDoor.slv _ _ _) (Go.Proofs.YtknlhejhnopnaaaGreatDoor.slv _ _ _) (Go.Proofs.YtknlhejhnopnaaaGreatDoor.slv _ _ _) _, hff⟩, below_put2 hR.2 (by omega) _ _⟩
end Go.Proofs.YtknlhejhnopnaaaGreatDoor

/- The law's raw numbers: Pick, sizesOf, All, Some, Less. -/
namespace Go.Proofs.YtknlhejhnopnaaaGreatDoor
open Go.RowKit Go.Shelf

/-- A number below n, of any number. -/
def pickN (c : Int) (n : Nat) : Nat := (if c < 0 then (-(c + 1)).toNat else c.toNat) % n
theorem pickN_lt (c : Int) {n : Nat} (h : 1 ≤ n) : pickN c n < n := Nat.mod_lt _ h

set_option maxRecDepth 100000 in
set_option maxHeartbeats 1000000 in
theorem rPick_any (c : Int) (n : Nat) (w : World) (h1 : -9223372036854775808 ≤ c) (h2 : c ≤ 9223372036854775807) (hn : 1 ≤ n) (hn' : n ≤ 1000) :
    Calls Tryz.prog 30 #[.int .i64 c, .int .i64 (n : Nat)] w fun e w' => e = .returned (.int .i64 (pickN c n : Nat)) ∧ Below w.heap.size w w' := by
  have HP : Hid (pickN c n = (if c < 0 then (-(c + 1)).toNat else c.toNat) % n) := rfl
  have hlt := pickN_lt c hn
  generalize pickN c n = P at *
  by_cases hc : c < 0
  · rw [if_pos hc] at HP
    obtain ⟨d, hd⟩ : ∃ d : Nat, c = -((d : Int) + 1) := ⟨(-(c + 1)).toNat, by omega⟩
    subst hd
    have HE : Hid ((d : Int) % (n : Int) = (P : Int)) := by
      show _ = _
      rw [HP.out, show (-(-((d : Int) + 1) + 1)).toNat = d by omega, Int.natCast_emod]
    have hw : IntKind.i64.wrap (-((d : Int) + 1) + 1) = -(d : Int) := by rw [IntKind.wrap_i64]; omega
    have hw2 : IntKind.i64.wrap (- -(d : Int)) = (d : Int) := by rw [IntKind.wrap_i64]; omega
    go_enter Tryz.func30, Tryz.ntmps30
    go_wp2
    go_ret
    exact ⟨by rw [HE.out]; rfl, Below.refl _ _⟩
  · rw [if_neg hc] at HP
    obtain ⟨d, rfl⟩ : ∃ d : Nat, c = d := ⟨c.toNat, by omega⟩
    have HE : Hid ((d : Int) % (n : Int) = (P : Int)) := by
      show _ = _
      rw [HP.out, Int.toNat_natCast, Int.natCast_emod]
    go_enter Tryz.func30, Tryz.ntmps30
    go_wp2
    go_ret
    exact ⟨by rw [HE.out]; rfl, Below.refl _ _⟩

/-- Sizes so far. -/
def Each3 (L : List Int) : Prop := ∀ i (h : i < L.length), 1 ≤ L[i] ∧ L[i] ≤ 3
theorem Each3.snoc {L : List Int} {x : Int} (h : Each3 L) (h1 : 1 ≤ x) (h2 : x ≤ 3) : Each3 (L ++ [x]) := by
  intro i hi
  rw [List.getElem_append]
  by_cases e : i < L.length
  · rw [dif_pos e]; exact h i e
  · rw [dif_neg e, List.getElem_singleton]; exact ⟨h1, h2⟩
theorem Each3.sz {L : List Int} (h : Each3 L) (h1 : 3 ≤ L.length) (h2 : L.length ≤ 5) : Sz3 L := ⟨⟨by omega, by omega, fun i hi => ⟨(h i hi).1, by have := (h i hi).2; omega⟩⟩, fun i hi => (h i hi).2, h1, h2⟩
theorem new_int (w : World) (u : Int) : IntS (w.alloc (.cells #[.int .i64 u] 3)) (some ⟨w.heap.size, 0, none⟩) [u] := fun k hk => by
  obtain rfl : k = 0 := by simp at hk; omega
  exact ⟨w.heap.size, 0, rfl, by simp, (Boxed.new w _ _).cell⟩

set_option maxRecDepth 100000 in
set_option maxHeartbeats 1000000 in
theorem sizesOf_any (a : Option Addr) (ca : Nat) (raw : List Int) (w : World) (hv : IntS w a raw) (hr : ∀ x ∈ raw, -9223372036854775808 ≤ x ∧ x ≤ 9223372036854775807) (hn : raw.length ≤ 512) :
    Calls Tryz.prog 29 #[.slice a raw.length ca] w fun e w' => ∃ x L, e = .returned x ∧ RwI w' w.heap.size x L ∧ Sz3 L ∧ Below w.heap.size w w' := by
  obtain ⟨i0, hi0, hz0, hz1, hz2⟩ := info_parts Tryz.infoInt
  have HV := hid hv
  have HR := hid hr
  have HP := hid (fun V : World => rPick_any (raw.length : Int) 3 V (by omega) (by omega) (by omega) (by omega))
  have hp := pickN_lt (raw.length : Int) (n := 3) (by omega)
  generalize pickN (raw.length : Int) 3 = P at *
  clear hv hr
  go_enter Tryz.func29, Tryz.ntmps29
  go_wp2_with fail
  go_loopw [3, 4] (fun xv iv wr => ∃ (i : Nat) (L : List Int), i ≤ 3 + P ∧ iv = .int .i64 i ∧ Hid (L.length = i ∧ Each3 L) ∧ Hid (RwI wr w.heap.size xv L) ∧ Hid (Below w.heap.size w wr)) (fun _ iv _ => 3 + P - (intOf iv).toNat)
  case atStart => exact ⟨0, [], Nat.zero_le _, rfl, ⟨rfl, fun i hi => by cases hi⟩, ⟨rfl, .inl ⟨rfl, rfl⟩⟩, Below.refl _ _⟩
  case round =>
    obtain ⟨i, L, hi, rfl, HL, HI, HB⟩ := hrel
    go_wp2_with fail
    refine (HP.out _).mono ?_
    rintro e w1 ⟨rfl, hb1⟩
    have HI1 := hid (HI.out.below hb1)
    have HB1 := hid (HB.out.trans (hb1.mono HB.out.size))
    clear HI HB hb1
    have hLn := HL.out.1
    by_cases hlt : i < 3 + P
    · by_cases hlr : i < raw.length
      · obtain ⟨g, o, rfl, hg, c0⟩ := (HV.out.below HB1.out) i hlr
        have hrr := HR.out raw[i] (List.getElem_mem hlr)
        generalize raw[i] = u at *
        have HPU := hid (fun V : World => rPick_any u 3 V hrr.1 hrr.2 (by omega) (by omega))
        have hpu := pickN_lt u (n := 3) (by omega)
        generalize pickN u 3 = z at *
        clear hrr
        go_wp2_with fail
        refine (HPU.out _).mono ?_
        rintro e w2 ⟨rfl, hb2⟩
        have HI2 := hid (HI1.out.below hb2)
        have HB2 := hid (HB1.out.trans (hb2.mono HB1.out.size))
        clear HI1 HB1 hb2 c0
        have hw1 : IntKind.i64.wrap (1 + (z : Int)) = ((1 + z : Nat) : Int) := by rw [IntKind.wrap_i64]; omega
        have HOWN := hid HI2.out.own
        have HRA : Hid (RwI (w2.alloc (.cells #[.int .i64 ((1 + z : Nat) : Int)] 3)) w.heap.size _ L) := World.ownsRow.alloc HI2.out _
        have HBA := hid (HB2.out.alloc HB2.out.size (.cells #[.int .i64 ((1 + z : Nat) : Int)] 3))
        have HIA := hid (new_int w2 ((1 + z : Nat) : Int))
        generalize hz : 1 + z = y at *
        go_wp2_with (at_builtin; refine wpList_append_ints rfl _ _ rfl w.heap.size _ L [((y : Nat) : Int)] rfl HRA.out (some ⟨w2.heap.size, 0, none⟩) 1 rfl HIA.out (fun e => by cases e) (by simp; omega) HBA.out.size ?_; intro v' w3 hr3 hg3)
        have HR3 := hid hr3
        have HB3 := hid (HBA.out.grown hg3 HBA.out.size HOWN.out)
        clear hr3 hg3
        go_roundw
        case rel => exact ⟨i + 1, _, by omega, by go_num, ⟨by rw [List.length_append, HL.out.1]; rfl, HL.out.2.snoc (by omega) (by omega)⟩, HR3, HB3⟩
        case measure => simp [intOf]; omega
      · have HOWN := hid HI1.out.own
        have HRA : Hid (RwI (w1.alloc (.cells #[.int .i64 2] 3)) w.heap.size _ L) := World.ownsRow.alloc HI1.out _
        have HBA := hid (HB1.out.alloc HB1.out.size (.cells #[.int .i64 2] 3))
        have HIA := hid (new_int w1 2)
        go_wp2_with (at_builtin; refine wpList_append_ints rfl _ _ rfl w.heap.size _ L [2] rfl HRA.out (some ⟨w1.heap.size, 0, none⟩) 1 rfl HIA.out (fun e => by cases e) (by simp; omega) HBA.out.size ?_; intro v' w3 hr3 hg3)
        have HR3 := hid hr3
        have HB3 := hid (HBA.out.grown hg3 HBA.out.size HOWN.out)
        clear hr3 hg3
        go_roundw
        case rel => exact ⟨i + 1, _, by omega, by go_num, ⟨by rw [List.length_append, HL.out.1]; rfl, HL.out.2.snoc (by omega) (by omega)⟩, HR3, HB3⟩
        case measure => simp [intOf]; omega
    · obtain rfl : i = 3 + P := by omega
      go_wp2
      go_ret
      exact ⟨_, L, rfl, HI1.out, HL.out.2.sz (by rw [HL.out.1]; omega) (by rw [HL.out.1]; omega), HB1.out⟩

set_option maxRecDepth 100000 in
set_option maxHeartbeats 1000000 in
theorem rAll_any (a : Option Addr) (ca n : Nat) (w : World) (hn : n ≤ 1000) :
    Calls Tryz.prog 32 #[.slice a n ca] w fun e w' => ∃ x, e = .returned x ∧ RwI w' w.heap.size x (iL (List.range n)) ∧ Below w.heap.size w w' := by
  obtain ⟨i0, hi0, hz0, hz1, hz2⟩ := info_parts Tryz.infoInt
  have HT := hid (fun i : Nat => show iL (List.range (i + 1)) = iL (List.range i) ++ [(i : Int)] by rw [List.range_succ, iL, iL, List.map_append]; rfl)
  have HLE := hid (fun i : Nat => show (iL (List.range i)).length = i by simp [iL])
  have hnil : iL (List.range 0) = [] := rfl
  generalize hg : (fun i : Nat => iL (List.range i)) = F at *
  have hF : ∀ i : Nat, iL (List.range i) = F i := fun i => by rw [← hg]
  simp only [hF] at HT HLE hnil ⊢
  clear hg hF
  go_enter Tryz.func32, Tryz.ntmps32
  go_wp2_with fail
  go_loopw [3, 4] (fun xv iv wr => ∃ i : Nat, i ≤ n ∧ iv = .int .i64 i ∧ Hid (RwI wr w.heap.size xv (F i)) ∧ Hid (Below w.heap.size w wr)) (fun _ iv _ => n - (intOf iv).toNat)
  case atStart => exact ⟨0, Nat.zero_le _, rfl, by rw [hnil]; exact ⟨rfl, .inl ⟨rfl, rfl⟩⟩, Below.refl _ _⟩
  case round =>
    obtain ⟨i, hi, rfl, HR, HB⟩ := hrel
    by_cases hlt : i < n
    · have HLI := hid (HLE.out i)
      have HOWN := hid HR.out.own
      have HRA : Hid (RwI (wr.alloc (.cells #[.int .i64 (i : Nat)] 3)) w.heap.size _ (F i)) := World.ownsRow.alloc HR.out _
      have HBA := hid (HB.out.alloc HB.out.size (.cells #[.int .i64 (i : Nat)] 3))
      have HIA := hid (new_int wr (i : Nat))
      go_wp2_with (at_builtin; refine wpList_append_ints rfl _ _ rfl w.heap.size _ (F i) [((i : Nat) : Int)] rfl HRA.out (some ⟨wr.heap.size, 0, none⟩) 1 rfl HIA.out (fun e => by cases e) (by rw [HLI.out]; simp; omega) HBA.out.size ?_; intro v' w3 hr3 hg3)
      have HR3 := hid hr3
      have HB3 := hid (HBA.out.grown hg3 HBA.out.size HOWN.out)
      clear hr3 hg3
      go_roundw
      case rel => exact ⟨i + 1, by omega, by go_num, by rw [HT.out]; exact HR3, HB3⟩
      case measure => simp [intOf]; omega
    · obtain rfl : i = n := by omega
      go_wp2
      go_ret
      exact ⟨_, rfl, HR.out, HB.out⟩
end Go.Proofs.YtknlhejhnopnaaaGreatDoor
