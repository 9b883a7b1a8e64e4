/- Package table: Product. -/
import Derived.Test.YtknlhejhnopnaaaGreatDoorSliBToProdA
namespace Go.Proofs.YtknlhejhnopnaaaGreatDoor
open Go.RowKit Go.Shelf

/-- The four fields of two tables in a row. -/
def Row4 (w : World) (g : Nat) (x y z t : Value) : Prop := w.heap[g]? = some (.cells #[x, y, z, t] 25 (0, 0))
theorem Row4.lt {w : World} {g : Nat} {x y z t : Value} (h : Row4 w g x y z t) : g < w.heap.size := (Array.getElem?_eq_some_iff.1 h).1
/-- What Product holds. -/
def PH (w V : World) (x y z t : Value) : Prop := TBox V w.heap.size x y ∧ TBox V (w.heap.size + 1) z t ∧ TBox V (w.heap.size + 1 + 1) (.slice none 0 0) (.slice none 0 0) ∧ Row4 V (w.heap.size + 1 + 1 + 1) x y z t ∧ Below w.heap.size w V
theorem PH.step {w V V' : World} {x y z t : Value} (h : PH w V x y z t) (hb : Below V.heap.size V V') : PH w V' x y z t := ⟨h.1.below hb h.1.lt, h.2.1.below hb h.2.1.lt, h.2.2.1.below hb h.2.2.1.lt, (hb.block _ h.2.2.2.1.lt).trans h.2.2.2.1, h.2.2.2.2.trans (hb.mono h.2.2.2.2.size)⟩
theorem PH.drew {w V : World} {x y z t : Value} (h : PH w V x y z t) : PH w V.drew x y z t := ⟨h.1, h.2.1, h.2.2.1, h.2.2.2.1, h.2.2.2.2.drew⟩
theorem PH.new (w : World) (x y z t : Value) : PH w ((((w.alloc (TC x y)).alloc (TC z t)).alloc (TC (.slice none 0 0) (.slice none 0 0))).alloc (.cells #[x, y, z, t] 25)) x y z t := by
  refine ⟨((TBox.at rfl _ _).alloc _ |>.alloc _).alloc _, ((TBox.at (by simp) _ _).alloc _).alloc _, (TBox.at (by simp) _ _).alloc _, ?_, ((((Below.refl _ w).alloc (Nat.le_refl _) _).alloc (by simp) _).alloc (by simp; omega) _).alloc (by simp; omega) _⟩
  have h := heap_alloc_new (((w.alloc (TC x y)).alloc (TC z t)).alloc (TC (.slice none 0 0) (.slice none 0 0))) (.cells #[x, y, z, t] 25)
  rw [World.size_alloc, World.size_alloc, World.size_alloc] at h
  exact h
/-- The i-th table's fields. -/
theorem PH.row {w V : World} {x y z t : Value} (h : PH w V x y z t) : (V.cell? ⟨w.heap.size + 1 + 1 + 1, 0, none⟩ = some x ∧ V.cell? ⟨w.heap.size + 1 + 1 + 1, 1, none⟩ = some y) ∧ V.cell? ⟨w.heap.size + 1 + 1 + 1, 2, none⟩ = some z ∧ V.cell? ⟨w.heap.size + 1 + 1 + 1, 3, none⟩ = some t := by
  refine ⟨⟨?_, ?_⟩, ?_, ?_⟩ <;> (rw [cell_of_row _ _ _ _ _ (0, 0) h.2.2.2.1]; rfl)
/-- What is no nil function lies elsewhere. -/
theorem nil_far {V : World} {B b j : Nat} {t : TypeId} {x : Value} (h : Boxed V B t .nilFunc) (hx : V.cell? ⟨b, j, none⟩ = some x) (hn : x ≠ .nilFunc) : b ≠ B := fun e => by
  subst e
  rw [cell_of_row V b j _ _ (0, 0) h] at hx
  match j with
  | 0 => simp at hx; exact hn hx.symm
  | j + 1 => simp at hx
theorem intS_nil {V : World} {B : Nat} {t : TypeId} {c : Option Addr} {l : List Int} (h : Boxed V B t .nilFunc) (hi : IntS V c l) (y : Value) : IntS (V.setCell ⟨B, 0, none⟩ y) c l := fun k hk => by
  obtain ⟨g, o, rfl, hlt, hc⟩ := hi k hk
  have hne := nil_far h hc (by simp)
  exact ⟨g, o, rfl, Nat.lt_of_lt_of_le hlt (KeepsOthers.setCell V _ _).size, (World.cell?_setCell_other _ _ _ _ (fun e => hne (congrArg Addr.block e).symm)).trans hc⟩
theorem StandF.nil {V : World} {B n m : Nat} {t : TypeId} {f : Value} {a b : Option Addr} {ca cb : Nat} {sizes vars other : List Int} (h : StandF V n m f a b ca cb sizes vars other) (hb : Boxed V B t .nilFunc) (y : Value) : StandF (V.setCell ⟨B, 0, none⟩ y) n m f a b ca cb sizes vars other := by
  obtain ⟨Bv, Bs, Bt, g, ct, h0, hn, hm, hM, h4, h5, h6, h7⟩ := h
  have far : ∀ (b j : Nat) (x : Value), V.cell? ⟨b, j, none⟩ = some x → x ≠ .nilFunc → (V.setCell ⟨B, 0, none⟩ y).cell? ⟨b, j, none⟩ = some x := fun b j x hx hn => (World.cell?_setCell_other _ _ _ _ (fun e => nil_far hb hx hn (congrArg Addr.block e).symm)).trans hx
  exact ⟨Bv, Bs, Bt, g, ct, h0, hn, hm, Nat.le_trans hM (KeepsOthers.setCell V _ _).size, far _ _ _ h4 (by simp), far _ _ _ h5 (by simp), far _ _ _ h6 (by simp), intS_nil hb h7 y⟩
theorem PH.nil {w V : World} {x y z t : Value} {B : Nat} {ty : TypeId} (h : PH w V x y z t) (hx : SlV x) (hz : SlV z) (hb : Boxed V B ty .nilFunc) (hB : w.heap.size ≤ B) (u : Value) : PH w (V.setCell ⟨B, 0, none⟩ u) x y z t := by
  obtain ⟨a1, n1, c1, rfl⟩ := hx
  obtain ⟨a2, n2, c2, rfl⟩ := hz
  have h4 := h.row.1.1
  exact ⟨h.1.off B 0 u (nil_far hb h.1.c0 (by simp)), h.2.1.off B 0 u (nil_far hb h.2.1.c0 (by simp)), h.2.2.1.off B 0 u (nil_far hb h.2.2.1.c0 (by simp)), (Below.heap_setCell V ⟨B, 0, none⟩ u _ (nil_far hb h4 (by simp))).trans h.2.2.2.1, h.2.2.2.2.setCell (p := ⟨B, 0, none⟩) hB u⟩
theorem prodL_length (S va vb U : List Nat) (la lb : List Fr) : (prodL S va vb U la lb).length = cnt S U := by simp [prodL]
theorem prodL_get (S va vb U : List Nat) (la lb : List Fr) {k : Nat} (h : k < (prodL S va vb U la lb).length) : (prodL S va vb U la lb)[k] = qF (frQ (celF la (pos S (asg S U k) va)) * frQ (celF lb (pos S (asg S U k) vb))) := by simp [prodL]
theorem stand_lt {sizes vars U : List Int} {K m : Nat} (hk : checkA sizes vars m = 0) (hK : K < cnt (toN sizes) (toN U)) : pos (toN sizes) (asg (toN sizes) (toN U) K) (toN vars) < m := by
  obtain ⟨h1, h2, h3⟩ := checkA_parts hk
  rw [h3]
  exact pos_lt _ (fun u => asg_lt h1.pos _ _ u hK) _

set_option maxRecDepth 100000 in
set_option maxHeartbeats 400000 in
theorem tProd_no (a b c b' c' : Option Addr) (ca cb cc cb' cc' ma mb : Nat) (sizes va vb : List Int) (w : World) (hs : IntS w a sizes) (hva : IntS w b va) (hvb : IntS w b' vb) (hn : sizes.length ≤ 140737488355328) (hma : va.length ≤ 140737488355328) (hmb : vb.length ≤ 140737488355328) (K : Int) (hK : (if checkA sizes va ma ≠ 0 then checkA sizes va ma else checkA sizes vb mb) = K) (hK0 : K ≠ 0) :
    Calls Tryz.prog 17 #[.slice a sizes.length ca, .agg #[.slice b va.length cb, .slice c ma cc], .agg #[.slice b' vb.length cb', .slice c' mb cc']] w fun e w' => TabA [] [] K e w' ∧ Below w.heap.size w w' := by
  obtain ⟨R, hR0, hR1⟩ : ∃ R : Nat → Int, R 0 = checkA sizes va ma ∧ R 1 = checkA sizes vb mb := ⟨fun i => if i = 0 then checkA sizes va ma else checkA sizes vb mb, rfl, rfl⟩
  have HK : Hid (∀ i, i < 2 → (∀ j, j < i → R j = 0) → R i ≠ 0 → R i = K) := by
    intro i hi hz hne
    by_cases h : i = 0
    · subst h
      rw [hR0] at hne ⊢
      rw [if_pos hne] at hK
      exact hK
    · obtain rfl : i = 1 := by omega
      have h0 := hz 0 (by omega)
      rw [hR0] at h0
      rw [if_neg (fun h => h h0)] at hK
      rw [hR1]
      exact hK
  have HK0 : Hid ((∀ j, j < 2 → R j = 0) → False) := fun h => hK0 (by
    have h0 := h 0 (by omega)
    have h1 := h 1 (by omega)
    rw [hR0] at h0
    rw [hR1] at h1
    rw [if_neg (fun h => h h0), h1] at hK
    exact hK.symm)
  clear hK hK0
  have one : ∀ i, i < 2 → ∃ (p q : Option Addr) (n m cp cq : Nat) (r : Int), (∀ V, PH w V (.slice b va.length cb) (.slice c ma cc) (.slice b' vb.length cb') (.slice c' mb cc') → V.cell? ⟨w.heap.size + 1 + 1 + 1, i * 2, none⟩ = some (.slice p n cp) ∧ V.cell? ⟨w.heap.size + 1 + 1 + 1, i * 2 + 1, none⟩ = some (.slice q m cq)) ∧ (∀ V, Below w.heap.size w V → Calls Tryz.prog 10 #[.slice a sizes.length ca, .agg #[.slice p n cp, .slice q m cq]] V fun e w' => e = .returned (.int .i64 r) ∧ Below V.heap.size V w') ∧ R i = r := by
    intro i hi
    by_cases h : i = 0
    · subst h
      exact ⟨b, c, va.length, ma, cb, cc, _, fun V h => h.row.1, fun V h => tCheck_any a b c ca cb cc ma sizes va V (hs.below h) (hva.below h) hn hma, hR0⟩
    · obtain rfl : i = 1 := by omega
      exact ⟨b', c', vb.length, mb, cb', cc', _, fun V h => h.row.2, fun V h => tCheck_any a b' c' ca cb' cc' mb sizes vb V (hs.below h) (hvb.below h) hn hmb, hR1⟩
  have HONE := hid one
  have HS := hid hs
  have HVA := hid hva
  have HVB := hid hvb
  clear one hR0 hR1 hs hva hvb
  have hH := PH.new w (.slice b va.length cb) (.slice c ma cc) (.slice b' vb.length cb') (.slice c' mb cc')
  have c0 := hH.1.c0
  have c1 := hH.1.c1
  have c2 := hH.2.1.c0
  have c3 := hH.2.1.c1
  go_enter Tryz.func17, Tryz.ntmps17
  go_wp2_with fail
  generalize ((((w.alloc (TC (.slice b va.length cb) (.slice c ma cc))).alloc (TC (.slice b' vb.length cb') (.slice c' mb cc'))).alloc (TC (.slice none 0 0) (.slice none 0 0))).alloc (.cells #[.slice b va.length cb, .slice c ma cc, .slice b' vb.length cb', .slice c' mb cc'] 25)) = W at *
  have HPH := hid hH
  clear c0 c1 c2 c3 hH
  go_loopw [18] (fun iv wr => ∃ i : Nat, i ≤ 2 ∧ iv = .int .i64 i ∧ Hid (∀ j, j < i → R j = 0) ∧ Hid (PH w wr (.slice b va.length cb) (.slice c ma cc) (.slice b' vb.length cb') (.slice c' mb cc'))) (fun iv _ => 2 - (intOf iv).toNat)
  case atStart => exact ⟨0, by omega, rfl, fun j hj => absurd hj (by omega), HPH⟩
  case round =>
    obtain ⟨i, hi, rfl, HZ, HP⟩ := hrel
    clear HPH
    by_cases hlt : i < 2
    · obtain ⟨p, q, n, m, cp, cq, r, hcl, hck, hr⟩ := HONE.out i hlt
      obtain ⟨d0, d1⟩ := hcl _ HP.out
      have HCK := hid hck
      have HR := hid hr
      clear hcl hck hr
      have hb1 : Below wr.heap.size wr (wr.alloc (TC (.slice p n cp) (.slice q m cq))) := (Below.refl _ wr).alloc (Nat.le_refl _) _
      have hx := TBox.at (w := wr) rfl (.slice p n cp) (.slice q m cq)
      have e0 := hx.c0
      have e1 := hx.c1
      go_wp2_with fail
      replace HP := hid (HP.out.step hb1)
      clear d0 d1 e0 e1 hb1
      generalize (wr.alloc (TC (.slice p n cp) (.slice q m cq))) = w2 at *
      refine (HCK.out _ HP.out.2.2.2.2).mono ?_
      rintro e w3 ⟨rfl, hb3⟩
      replace HP := hid (HP.out.step hb3)
      clear hb3 hx
      by_cases hr0 : r = 0
      · subst hr0
        go_wp2
        go_roundw
        case rel => exact ⟨i + 1, by omega, by go_num, fun j hj => by
            by_cases e : j = i
            · rw [e]; exact HR.out
            · exact HZ.out j (by omega), HP⟩
        case measure => simp [intOf]; omega
      · have hrb : (r == 0) = false := by simp [hr0]
        have hKr : r = K := by rw [← HR.out]; exact HK.out i hlt HZ.out (by rw [HR.out]; exact hr0)
        obtain ⟨k0, k1, f0, f1⟩ := HP.out.2.2.1.facts
        go_wp2
        refine bodyPost_ret ((HP.out.2.2.1.put _ _).result2 rfl _ rfl) rfl ?_
        exact ⟨TabA.empty _ _, below_put2 HP.out.2.2.2.2 (by omega) _ _⟩
    · exact absurd (HK0.out (fun j hj => HZ.out j (by omega))) id

set_option maxRecDepth 100000 in
set_option maxHeartbeats 4000000 in
theorem tProd_yes (a b c b' c' : Option Addr) (ca cb cc cb' cc' : Nat) (sizes va vb : List Int) (la lb : List Fr) (w : World) (hs : IntS w a sizes) (hva : IntS w b va) (hvb : IntS w b' vb) (hfa : FrS w c la) (hfb : FrS w c' lb) (hn : sizes.length ≤ 140737488355328) (hma : va.length ≤ 140737488355328) (hmb : vb.length ≤ 140737488355328) (hb0 : b = none → cb = 0) (hb0' : b' = none → cb' = 0) (hka : checkA sizes va la.length = 0) (hkb : checkA sizes vb lb.length = 0) (hwa : fw la ≤ 10000) (hwb : fw lb ≤ 10000) :
    Calls Tryz.prog 17 #[.slice a sizes.length ca, .agg #[.slice b va.length cb, .slice c la.length cc], .agg #[.slice b' vb.length cb', .slice c' lb.length cc']] w fun e w' => TabA (togL va vb) (prodL (toN sizes) (toN va) (toN vb) (toN (togL va vb)) la lb) 0 e w' ∧ Below w.heap.size w w' := by
  obtain ⟨hfi, hua, -⟩ := checkA_parts hka
  obtain ⟨-, hub, -⟩ := checkA_parts hkb
  obtain ⟨R, hR0, hR1⟩ : ∃ R : Nat → Int, R 0 = checkA sizes va la.length ∧ R 1 = checkA sizes vb lb.length := ⟨fun i => if i = 0 then checkA sizes va la.length else checkA sizes vb lb.length, rfl, rfl⟩
  have HKZ : Hid (∀ i, i < 2 → R i = 0) := by
    intro i hi
    by_cases h : i = 0
    · subst h; rw [hR0]; exact hka
    · obtain rfl : i = 1 := by omega
      rw [hR1]; exact hkb
  have hl8 := hfi.eight
  have hla := hua.length
  have hlb := hub.length
  have HTO := hid (fun V h1 h2 => tTogether_any b b' cb cb' va vb V h1 h2 hb0 hb0' (by omega) (by omega))
  have HPA := hid (fun K (hK : K < cnt (toN sizes) (toN (togL va vb))) => stand_lt hka hK)
  have HPB := hid (fun K (hK : K < cnt (toN sizes) (toN (togL va vb))) => stand_lt hkb hK)
  have HFL := hid (prodL_length (toN sizes) (toN va) (toN vb) (toN (togL va vb)) la lb)
  have HFG := hid (fun (k : Nat) (h : k < (prodL (toN sizes) (toN va) (toN vb) (toN (togL va vb)) la lb).length) => prodL_get (toN sizes) (toN va) (toN vb) (toN (togL va vb)) la lb h)
  have HUU := hid (togL_up hua hub)
  generalize prodL (toN sizes) (toN va) (toN vb) (toN (togL va vb)) la lb = FL at *
  generalize togL va vb = U at *
  have HSTA := hid (fun V d cd h1 h2 => standing_any a d b ca cd cb sizes U va V h1 h2 hfi hua)
  have HSTB := hid (fun V d cd h1 h2 => standing_any a d b' ca cd cb' sizes U vb V h1 h2 hfi hub)
  have HFI := hid hfi
  have HUA := hid hua
  have HUB := hid hub
  have HFA := hid hfa
  have HFB := hid hfb
  have HWA := hid hwa
  have HWB := hid hwb
  clear hka hkb hfi hua hub hfa hfb hwa hwb hb0 hb0'
  have one : ∀ i, i < 2 → ∃ (p q : Option Addr) (n m cp cq : Nat) (r : Int), (∀ V, PH w V (.slice b va.length cb) (.slice c la.length cc) (.slice b' vb.length cb') (.slice c' lb.length cc') → V.cell? ⟨w.heap.size + 1 + 1 + 1, i * 2, none⟩ = some (.slice p n cp) ∧ V.cell? ⟨w.heap.size + 1 + 1 + 1, i * 2 + 1, none⟩ = some (.slice q m cq)) ∧ (∀ V, Below w.heap.size w V → Calls Tryz.prog 10 #[.slice a sizes.length ca, .agg #[.slice p n cp, .slice q m cq]] V fun e w' => e = .returned (.int .i64 r) ∧ Below V.heap.size V w') ∧ R i = r := by
    intro i hi
    by_cases h : i = 0
    · subst h
      exact ⟨b, c, va.length, la.length, cb, cc, _, fun V h => h.row.1, fun V h => tCheck_any a b c ca cb cc la.length sizes va V (hs.below h) (hva.below h) hn hma, hR0⟩
    · obtain rfl : i = 1 := by omega
      exact ⟨b', c', vb.length, lb.length, cb', cc', _, fun V h => h.row.2, fun V h => tCheck_any a b' c' ca cb' cc' lb.length sizes vb V (hs.below h) (hvb.below h) hn hmb, hR1⟩
  have HONE := hid one
  have HS := hid hs
  have HVA := hid hva
  have HVB := hid hvb
  clear one hR0 hR1 hs hva hvb
  have hH := PH.new w (.slice b va.length cb) (.slice c la.length cc) (.slice b' vb.length cb') (.slice c' lb.length cc')
  have c0 := hH.1.c0
  have c1 := hH.1.c1
  have c2 := hH.2.1.c0
  have c3 := hH.2.1.c1
  go_enter Tryz.func17, Tryz.ntmps17
  go_wp2_with fail
  generalize ((((w.alloc (TC (.slice b va.length cb) (.slice c la.length cc))).alloc (TC (.slice b' vb.length cb') (.slice c' lb.length cc'))).alloc (TC (.slice none 0 0) (.slice none 0 0))).alloc (.cells #[.slice b va.length cb, .slice c la.length cc, .slice b' vb.length cb', .slice c' lb.length cc'] 25)) = W at *
  have HPH := hid hH
  clear c0 c1 c2 c3 hH
  go_loopw [18] (fun iv wr => ∃ i : Nat, i ≤ 2 ∧ iv = .int .i64 i ∧ Hid (∀ j, j < i → R j = 0) ∧ Hid (PH w wr (.slice b va.length cb) (.slice c la.length cc) (.slice b' vb.length cb') (.slice c' lb.length cc'))) (fun iv _ => 2 - (intOf iv).toNat)
  case atStart => exact ⟨0, by omega, rfl, fun j hj => absurd hj (by omega), HPH⟩
  case round =>
    obtain ⟨i, hi, rfl, HZ, HP⟩ := hrel
    clear HPH
    by_cases hlt : i < 2
    · obtain ⟨p, q, n, m, cp, cq, r, hcl, hck, hr⟩ := HONE.out i hlt
      obtain ⟨d0, d1⟩ := hcl _ HP.out
      have HCK := hid hck
      have HR := hid hr
      clear hcl hck hr
      have hb1 : Below wr.heap.size wr (wr.alloc (TC (.slice p n cp) (.slice q m cq))) := (Below.refl _ wr).alloc (Nat.le_refl _) _
      have hx := TBox.at (w := wr) rfl (.slice p n cp) (.slice q m cq)
      have e0 := hx.c0
      have e1 := hx.c1
      go_wp2_with fail
      replace HP := hid (HP.out.step hb1)
      clear d0 d1 e0 e1 hb1
      generalize (wr.alloc (TC (.slice p n cp) (.slice q m cq))) = w2 at *
      refine (HCK.out _ HP.out.2.2.2.2).mono ?_
      rintro e w3 ⟨rfl, hb3⟩
      replace HP := hid (HP.out.step hb3)
      clear hb3 hx
      by_cases hr0 : r = 0
      · subst hr0
        go_wp2
        go_roundw
        case rel => exact ⟨i + 1, by omega, by go_num, fun j hj => by
            by_cases e : j = i
            · rw [e]; exact HR.out
            · exact HZ.out j (by omega), HP⟩
        case measure => simp [intOf]; omega
      · have hKr := HKZ.out i hlt
        rw [HR.out] at hKr
        exact absurd hKr hr0
    · obtain rfl : i = 2 := by omega
      have hH := HP.out
      have c0 := hH.1.c0
      have c2 := hH.2.1.c0
      clear HP HZ HONE
      go_wp2_with fail
      refine (HTO.out _ (HVA.out.below hH.2.2.2.2) (HVB.out.below hH.2.2.2.2)).mono ?_
      rintro e w1 ⟨d, cd, rfl, hi, hb1⟩
      replace hH := hH.step hb1
      clear c0 c2 hb1
      go_upto_region 9 with fail
      replace hH := hH.drew
      replace hi : IntS w1.drew d U := hi
      refine wp_region_held_drew (S := fun u => u.cell? ⟨w.heap.size, 0, none⟩ = some (.slice b va.length cb) ∧ u.cell? ⟨w.heap.size + 1, 0, none⟩ = some (.slice b' vb.length cb')) (by kernel_rfl) ⟨hH.1.c0, hH.2.1.c0⟩ (fun hSd => ?_)
      generalize w1.drew = u0 at *
      refine wpAnyH_take (i := 0) (oi := _) (v := .slice a sizes.length ca) rfl (by kernel_rfl) (by kernel_rfl) (by kernel_rfl) (fun _ _ _ h => h) (Or.inl ⟨by rfl, ?_⟩) (by assumption) ?_
      · intro u' hSu
        (try simp only [List.getElem_toArray, List.getElem_cons_zero])
        go_simp
      (try simp only [List.getElem_toArray, List.getElem_cons_zero])
      (try simp only [Act.put, List.setIfInBounds_toArray, List.set_cons_zero, List.set_cons_succ])
      refine wpAnyH_take (i := 1) (oi := _) (v := .slice d U.length cd) rfl (by kernel_rfl) (by kernel_rfl) (by kernel_rfl) (fun _ _ _ h => h) (Or.inl ⟨by rfl, ?_⟩) (by assumption) ?_
      · intro u' hSu
        (try simp only [List.getElem_toArray, List.getElem_cons_zero, List.getElem_cons_succ])
        go_simp
      (try simp only [List.getElem_toArray, List.getElem_cons_zero, List.getElem_cons_succ])
      (try simp only [Act.put, List.setIfInBounds_toArray, List.set_cons_zero, List.set_cons_succ])
      refine wpAnyH_take (i := 2) (oi := _) (v := .pointer (some ⟨w.heap.size, 0, none⟩)) rfl (by kernel_rfl) (by kernel_rfl) (by kernel_rfl) (fun _ _ _ h => h) (Or.inl ⟨by rfl, ?_⟩) (by assumption) ?_
      · intro u' hSu
        (try simp only [List.getElem_toArray, List.getElem_cons_zero, List.getElem_cons_succ])
        go_simp
      (try simp only [List.getElem_toArray, List.getElem_cons_zero, List.getElem_cons_succ])
      (try simp only [Act.put, List.setIfInBounds_toArray, List.set_cons_zero, List.set_cons_succ])
      refine wpAnyH_take (i := 3) (oi := _) (v := .slice b va.length cb) rfl (by kernel_rfl) (by kernel_rfl) (by kernel_rfl) (fun _ _ _ h => h) (Or.inl ⟨by rfl, ?_⟩) (by assumption) ?_
      · intro u' hSu
        (try simp only [List.getElem_toArray, List.getElem_cons_zero, List.getElem_cons_succ])
        obtain ⟨s1, s2⟩ := hSu
        go_simp
      (try simp only [List.getElem_toArray, List.getElem_cons_zero, List.getElem_cons_succ])
      (try simp only [Act.put, List.setIfInBounds_toArray, List.set_cons_zero, List.set_cons_succ])
      refine wpAnyH_take (i := 5) (oi := _) (v := .slice a sizes.length ca) rfl (by kernel_rfl) (by kernel_rfl) (by kernel_rfl) (fun _ _ _ h => h) (Or.inl ⟨by rfl, ?_⟩) (by assumption) ?_
      · intro u' hSu
        (try simp only [List.getElem_toArray, List.getElem_cons_zero, List.getElem_cons_succ])
        go_simp
      (try simp only [List.getElem_toArray, List.getElem_cons_zero, List.getElem_cons_succ])
      (try simp only [Act.put, List.setIfInBounds_toArray, List.set_cons_zero, List.set_cons_succ])
      refine wpAnyH_take (i := 6) (oi := _) (v := .slice d U.length cd) rfl (by kernel_rfl) (by kernel_rfl) (by kernel_rfl) (fun _ _ _ h => h) (Or.inl ⟨by rfl, ?_⟩) (by assumption) ?_
      · intro u' hSu
        (try simp only [List.getElem_toArray, List.getElem_cons_zero, List.getElem_cons_succ])
        go_simp
      (try simp only [List.getElem_toArray, List.getElem_cons_zero, List.getElem_cons_succ])
      (try simp only [Act.put, List.setIfInBounds_toArray, List.set_cons_zero, List.set_cons_succ])
      refine wpAnyH_take (i := 7) (oi := _) (v := .pointer (some ⟨w.heap.size + 1, 0, none⟩)) rfl (by kernel_rfl) (by kernel_rfl) (by kernel_rfl) (fun _ _ _ h => h) (Or.inl ⟨by rfl, ?_⟩) (by assumption) ?_
      · intro u' hSu
        (try simp only [List.getElem_toArray, List.getElem_cons_zero, List.getElem_cons_succ])
        go_simp
      (try simp only [List.getElem_toArray, List.getElem_cons_zero, List.getElem_cons_succ])
      (try simp only [Act.put, List.setIfInBounds_toArray, List.set_cons_zero, List.set_cons_succ])
      refine wpAnyH_take (i := 8) (oi := _) (v := .slice b' vb.length cb') rfl (by kernel_rfl) (by kernel_rfl) (by kernel_rfl) (fun _ _ _ h => h) (Or.inl ⟨by rfl, ?_⟩) (by assumption) ?_
      · intro u' hSu
        (try simp only [List.getElem_toArray, List.getElem_cons_zero, List.getElem_cons_succ])
        obtain ⟨s1, s2⟩ := hSu
        go_simp
      (try simp only [List.getElem_toArray, List.getElem_cons_zero, List.getElem_cons_succ])
      (try simp only [Act.put, List.setIfInBounds_toArray, List.set_cons_zero, List.set_cons_succ])
      refine wpAnyH_ready (rs := [4, 10, 11]) (by kernel_rfl) (by simp) (AllReadyH.cons rfl ?_ (AllReadyH.cons rfl ?_ (AllReadyH.cons rfl ?_ (AllReadyH.nil))))
      · intro K' hK'
        (try simp only [List.getElem_toArray, List.getElem_cons_zero, List.getElem_cons_succ])
        go_simp
        refine (HSTA.out _ d cd (HS.out.below hH.2.2.2.2) (HVA.out.below hH.2.2.2.2)).mono ?_
        rintro e u1 ⟨f, rfl, hFa, hb⟩
        obtain ⟨fa, rfl⟩ := hFa.shape
        replace hH := hH.step hb
        replace hi := hi.below hb
        refine hK'.out _ _ ⟨hH.1.c0, hH.2.1.c0⟩ (fun hSe => ?_)
        clear hK' K' hSd
        have hSd := hSe
        clear hSe hb
        generalize u0.heap.size = na at hFa
        generalize u1.heap.size = ma at hFa
        (try simp only [List.getElem_toArray, List.getElem_cons_zero, List.getElem_cons_succ])
        (try simp only [Act.put, List.setIfInBounds_toArray, List.set_cons_zero, List.set_cons_succ])
        refine wpAnyH_ready (rs := [9, 10, 11]) (by kernel_rfl) (by simp) (AllReadyH.cons rfl ?_ (AllReadyH.cons rfl ?_ (AllReadyH.cons rfl ?_ (AllReadyH.nil))))
        · intro K' hK'
          (try simp only [List.getElem_toArray, List.getElem_cons_zero, List.getElem_cons_succ])
          go_simp
          refine (HSTB.out _ d cd (HS.out.below hH.2.2.2.2) (HVB.out.below hH.2.2.2.2)).mono ?_
          rintro e u2 ⟨f, rfl, hFb, hb⟩
          obtain ⟨fb, rfl⟩ := hFb.shape
          replace hH := hH.step hb
          replace hi := hi.below hb
          replace hFa := hFa.below hb
          refine hK'.out _ _ ⟨hH.1.c0, hH.2.1.c0⟩ (fun hSe => ?_)
          clear hK' K' hSd
          have hSd := hSe
          clear hSe hb
          generalize u1.heap.size = nb at hFb
          generalize u2.heap.size = mb at hFb
          (try simp only [List.getElem_toArray, List.getElem_cons_zero, List.getElem_cons_succ])
          (try simp only [Act.put, List.setIfInBounds_toArray, List.set_cons_zero, List.set_cons_succ])
          refine wpAnyH_ready (rs := [10, 11]) (by kernel_rfl) (by simp) (AllReadyH.cons rfl ?_ (AllReadyH.cons rfl ?_ (AllReadyH.nil)))
          · intro K' hK'
            (try simp only [List.getElem_toArray, List.getElem_cons_zero, List.getElem_cons_succ])
            go_simp
            have hb : Below u2.heap.size u2 (u2.alloc (.cells #[.nilFunc] 73)) := (Below.refl _ u2).alloc (Nat.le_refl _) _
            have h10 : Boxed (u2.alloc (.cells #[.nilFunc] 73)) u2.heap.size 73 .nilFunc := Boxed.new u2 _ _
            have w10 := hH.2.2.2.2.size
            replace hH := hH.step hb
            replace hi := hi.below hb
            replace hFa := hFa.below hb
            replace hFb := hFb.below hb
            refine hK'.out _ _ ⟨hH.1.c0, hH.2.1.c0⟩ (fun hSe => ?_)
            clear hK' K' hSd
            have hSd := hSe
            clear hSe hb
            generalize (u2.alloc (.cells #[.nilFunc] 73)) = u3 at *
            generalize u2.heap.size = B10 at *
            (try simp only [List.getElem_toArray, List.getElem_cons_zero, List.getElem_cons_succ])
            (try simp only [Act.put, List.setIfInBounds_toArray, List.set_cons_zero, List.set_cons_succ])
            refine wpAnyH_ready (rs := [11]) (by kernel_rfl) (by simp) (AllReadyH.cons rfl ?_ (AllReadyH.nil))
            · intro K' hK'
              (try simp only [List.getElem_toArray, List.getElem_cons_zero, List.getElem_cons_succ])
              go_simp
              have hb : Below u3.heap.size u3 (u3.alloc (.cells #[.nilFunc] 73)) := (Below.refl _ u3).alloc (Nat.le_refl _) _
              have h11 : Boxed (u3.alloc (.cells #[.nilFunc] 73)) u3.heap.size 73 .nilFunc := Boxed.new u3 _ _
              have w11 := hH.2.2.2.2.size
              have ne : B10 ≠ u3.heap.size := by have := h10.lt; omega
              replace hH := hH.step hb
              replace hi := hi.below hb
              replace hFa := hFa.below hb
              replace hFb := hFb.below hb
              replace h10 := boxed_keep h10 hb
              refine hK'.out _ _ ⟨hH.1.c0, hH.2.1.c0⟩ (fun hSe => ?_)
              clear hK' K' hSd
              have hSd := hSe
              clear hSe hb
              generalize (u3.alloc (.cells #[.nilFunc] 73)) = u4 at *
              generalize u3.heap.size = B11 at *
              (try simp only [List.getElem_toArray, List.getElem_cons_zero, List.getElem_cons_succ])
              (try simp only [Act.put, List.setIfInBounds_toArray, List.set_cons_zero, List.set_cons_succ])
              have c10 := h10.cell
              have f10 := h10.frozen
              refine wpAnyH_ready (rs := [12]) (by kernel_rfl) (by simp) (AllReadyH.cons rfl ?_ (AllReadyH.nil))
              · intro K' hK'
                (try simp only [List.getElem_toArray, List.getElem_cons_zero, List.getElem_cons_succ])
                go_simp
                replace hH := hH.nil (slv _ _ _) (slv _ _ _) h10 w10 (.func (.func 103) #[] fa)
                replace hi := intS_nil h10 hi (.func (.func 103) #[] fa)
                replace hFa := hFa.nil h10 (.func (.func 103) #[] fa)
                replace hFb := hFb.nil h10 (.func (.func 103) #[] fa)
                replace h11 := boxed_off h11 B10 0 (.func (.func 103) #[] fa) (by omega)
                replace h10 := h10.set (.func (.func 103) #[] fa)
                clear c10 f10
                generalize (u4.setCell ⟨B10, 0, none⟩ (.func (.func 103) #[] fa)) = v1 at *
                refine hK'.out _ _ ⟨hH.1.c0, hH.2.1.c0⟩ (fun hSe => ?_)
                clear hK' K' hSd
                have hSd := hSe
                clear hSe
                (try simp only [List.getElem_toArray, List.getElem_cons_zero, List.getElem_cons_succ])
                (try simp only [Act.put, List.setIfInBounds_toArray, List.set_cons_zero, List.set_cons_succ])
                have c11 := h11.cell
                have f11 := h11.frozen
                refine wpAnyH_ready (rs := [13]) (by kernel_rfl) (by simp) (AllReadyH.cons rfl ?_ (AllReadyH.nil))
                · intro K' hK'
                  (try simp only [List.getElem_toArray, List.getElem_cons_zero, List.getElem_cons_succ])
                  go_simp
                  replace hH := hH.nil (slv _ _ _) (slv _ _ _) h11 w11 (.func (.func 103) #[] fb)
                  replace hi := intS_nil h11 hi (.func (.func 103) #[] fb)
                  replace hFa := hFa.nil h11 (.func (.func 103) #[] fb)
                  replace hFb := hFb.nil h11 (.func (.func 103) #[] fb)
                  replace h10 := boxed_off h10 B11 0 (.func (.func 103) #[] fb) (by omega)
                  replace h11 := h11.set (.func (.func 103) #[] fb)
                  clear c11 f11
                  generalize (v1.setCell ⟨B11, 0, none⟩ (.func (.func 103) #[] fb)) = v2 at *
                  refine hK'.out _ _ ⟨hH.1.c0, hH.2.1.c0⟩ (fun _ => wpAnyH_done (by kernel_rfl) ?_ _)
                  clear hK' K' hSd
                  go_wp2_with fail
                  have hfill := fill_any a d ca cd sizes U 54 #[.pointer (some ⟨w.heap.size, 0, none⟩), .pointer (some ⟨B10, 0, none⟩), .pointer (some ⟨w.heap.size + 1, 0, none⟩), .pointer (some ⟨B11, 0, none⟩)] (enters_of Tryz.func54 (by kernel_rfl) rfl) FL v2 (HS.out.below hH.2.2.2.2) hi HFI.out HUU.out HFL.out (fun k hk V hb => by
                    rw [HFG.out k hk]
                    have hk' : k < cnt (toN sizes) (toN U) := by rw [← HFL.out]; exact hk
                    have hB := hH.2.2.2.2.trans (hb.mono hH.2.2.2.2.size)
                    refine prod1_any w.heap.size B10 (w.heap.size + 1) B11 c c' cc cc' fa fb la lb k _ _ (HPA.out k hk') (HPB.out k hk') V (Nat.lt_of_lt_of_le hH.1.lt hb.size) ((hb.cell (p := ⟨w.heap.size, 1, none⟩) hH.1.lt).trans hH.1.c1) (Nat.lt_of_lt_of_le h10.lt hb.size) (boxed_keep h10 hb).cell (Nat.lt_of_lt_of_le hH.2.1.lt hb.size) ((hb.cell (p := ⟨w.heap.size + 1, 1, none⟩) hH.2.1.lt).trans hH.2.1.c1) (Nat.lt_of_lt_of_le h11.lt hb.size) (boxed_keep h11 hb).cell (HFA.out.below hB) (HFB.out.below hB) HWA.out HWB.out ?_ ?_
                    · intro V' hb'
                      have hb2 := hb.trans (hb'.mono hb.size)
                      exact (hFa.below hb2).calls (HS.out.below (hB.trans (hb'.mono hB.size))) (hi.below hb2) HFI.out HUU.out HUA.out hk'
                    · intro V' hb'
                      have hb2 := hb.trans (hb'.mono hb.size)
                      exact (hFb.below hb2).calls (HS.out.below (hB.trans (hb'.mono hB.size))) (hi.below hb2) HFI.out HUU.out HUB.out hk')
                  have HFILL := hid hfill
                  clear hfill
                  refine HFILL.out.mono ?_
                  rintro e w9 ⟨G, rfl, hG, hrow, hb9⟩
                  have hl9 := hH.2.2.1.lt
                  replace hH := hH.step hb9
                  replace hi := hi.below hb9
                  have hNR : NR w w9 w.heap.size (w.heap.size + 1 + 1) (.slice b va.length cb) (.slice c la.length cc) := ⟨hH.1, hH.2.2.1, hH.2.2.2.2⟩
                  obtain ⟨k0, k1, f0, f1⟩ := hH.2.2.1.facts
                  obtain ⟨e1, e2, e3⟩ := hNR.fin (by omega) (cb := cd) (cc := FL.length) hi hrow (by omega) (.slice d U.length cd) (.slice (some ⟨G, 0, none⟩) FL.length FL.length) rfl rfl
                  go_wp2
                  refine bodyPost_ret (e1.result2 rfl _ rfl) rfl ?_
                  exact ⟨e2, e3⟩
          · intro K' hK'
            (try simp only [List.getElem_toArray, List.getElem_cons_zero, List.getElem_cons_succ])
            go_simp
            have hb : Below u2.heap.size u2 (u2.alloc (.cells #[.nilFunc] 73)) := (Below.refl _ u2).alloc (Nat.le_refl _) _
            have h11 : Boxed (u2.alloc (.cells #[.nilFunc] 73)) u2.heap.size 73 .nilFunc := Boxed.new u2 _ _
            have w11 := hH.2.2.2.2.size
            replace hH := hH.step hb
            replace hi := hi.below hb
            replace hFa := hFa.below hb
            replace hFb := hFb.below hb
            refine hK'.out _ _ ⟨hH.1.c0, hH.2.1.c0⟩ (fun hSe => ?_)
            clear hK' K' hSd
            have hSd := hSe
            clear hSe hb
            generalize (u2.alloc (.cells #[.nilFunc] 73)) = u3 at *
            generalize u2.heap.size = B11 at *
            (try simp only [List.getElem_toArray, List.getElem_cons_zero, List.getElem_cons_succ])
            (try simp only [Act.put, List.setIfInBounds_toArray, List.set_cons_zero, List.set_cons_succ])
            refine wpAnyH_ready (rs := [10]) (by kernel_rfl) (by simp) (AllReadyH.cons rfl ?_ (AllReadyH.nil))
            · intro K' hK'
              (try simp only [List.getElem_toArray, List.getElem_cons_zero, List.getElem_cons_succ])
              go_simp
              have hb : Below u3.heap.size u3 (u3.alloc (.cells #[.nilFunc] 73)) := (Below.refl _ u3).alloc (Nat.le_refl _) _
              have h10 : Boxed (u3.alloc (.cells #[.nilFunc] 73)) u3.heap.size 73 .nilFunc := Boxed.new u3 _ _
              have w10 := hH.2.2.2.2.size
              have ne : B11 ≠ u3.heap.size := by have := h11.lt; omega
              replace hH := hH.step hb
              replace hi := hi.below hb
              replace hFa := hFa.below hb
              replace hFb := hFb.below hb
              replace h11 := boxed_keep h11 hb
              refine hK'.out _ _ ⟨hH.1.c0, hH.2.1.c0⟩ (fun hSe => ?_)
              clear hK' K' hSd
              have hSd := hSe
              clear hSe hb
              generalize (u3.alloc (.cells #[.nilFunc] 73)) = u4 at *
              generalize u3.heap.size = B10 at *
              (try simp only [List.getElem_toArray, List.getElem_cons_zero, List.getElem_cons_succ])
              (try simp only [Act.put, List.setIfInBounds_toArray, List.set_cons_zero, List.set_cons_succ])
              have c10 := h10.cell
              have f10 := h10.frozen
              refine wpAnyH_ready (rs := [12]) (by kernel_rfl) (by simp) (AllReadyH.cons rfl ?_ (AllReadyH.nil))
              · intro K' hK'
                (try simp only [List.getElem_toArray, List.getElem_cons_zero, List.getElem_cons_succ])
                go_simp
                replace hH := hH.nil (slv _ _ _) (slv _ _ _) h10 w10 (.func (.func 103) #[] fa)
                replace hi := intS_nil h10 hi (.func (.func 103) #[] fa)
                replace hFa := hFa.nil h10 (.func (.func 103) #[] fa)
                replace hFb := hFb.nil h10 (.func (.func 103) #[] fa)
                replace h11 := boxed_off h11 B10 0 (.func (.func 103) #[] fa) (by omega)
                replace h10 := h10.set (.func (.func 103) #[] fa)
                clear c10 f10
                generalize (u4.setCell ⟨B10, 0, none⟩ (.func (.func 103) #[] fa)) = v1 at *
                refine hK'.out _ _ ⟨hH.1.c0, hH.2.1.c0⟩ (fun hSe => ?_)
                clear hK' K' hSd
                have hSd := hSe
                clear hSe
                (try simp only [List.getElem_toArray, List.getElem_cons_zero, List.getElem_cons_succ])
                (try simp only [Act.put, List.setIfInBounds_toArray, List.set_cons_zero, List.set_cons_succ])
                have c11 := h11.cell
                have f11 := h11.frozen
                refine wpAnyH_ready (rs := [13]) (by kernel_rfl) (by simp) (AllReadyH.cons rfl ?_ (AllReadyH.nil))
                · intro K' hK'
                  (try simp only [List.getElem_toArray, List.getElem_cons_zero, List.getElem_cons_succ])
                  go_simp
                  replace hH := hH.nil (slv _ _ _) (slv _ _ _) h11 w11 (.func (.func 103) #[] fb)
                  replace hi := intS_nil h11 hi (.func (.func 103) #[] fb)
                  replace hFa := hFa.nil h11 (.func (.func 103) #[] fb)
                  replace hFb := hFb.nil h11 (.func (.func 103) #[] fb)
                  replace h10 := boxed_off h10 B11 0 (.func (.func 103) #[] fb) (by omega)
                  replace h11 := h11.set (.func (.func 103) #[] fb)
                  clear c11 f11
                  generalize (v1.setCell ⟨B11, 0, none⟩ (.func (.func 103) #[] fb)) = v2 at *
                  refine hK'.out _ _ ⟨hH.1.c0, hH.2.1.c0⟩ (fun _ => wpAnyH_done (by kernel_rfl) ?_ _)
                  clear hK' K' hSd
                  go_wp2_with fail
                  have hfill := fill_any a d ca cd sizes U 54 #[.pointer (some ⟨w.heap.size, 0, none⟩), .pointer (some ⟨B10, 0, none⟩), .pointer (some ⟨w.heap.size + 1, 0, none⟩), .pointer (some ⟨B11, 0, none⟩)] (enters_of Tryz.func54 (by kernel_rfl) rfl) FL v2 (HS.out.below hH.2.2.2.2) hi HFI.out HUU.out HFL.out (fun k hk V hb => by
                    rw [HFG.out k hk]
                    have hk' : k < cnt (toN sizes) (toN U) := by rw [← HFL.out]; exact hk
                    have hB := hH.2.2.2.2.trans (hb.mono hH.2.2.2.2.size)
                    refine prod1_any w.heap.size B10 (w.heap.size + 1) B11 c c' cc cc' fa fb la lb k _ _ (HPA.out k hk') (HPB.out k hk') V (Nat.lt_of_lt_of_le hH.1.lt hb.size) ((hb.cell (p := ⟨w.heap.size, 1, none⟩) hH.1.lt).trans hH.1.c1) (Nat.lt_of_lt_of_le h10.lt hb.size) (boxed_keep h10 hb).cell (Nat.lt_of_lt_of_le hH.2.1.lt hb.size) ((hb.cell (p := ⟨w.heap.size + 1, 1, none⟩) hH.2.1.lt).trans hH.2.1.c1) (Nat.lt_of_lt_of_le h11.lt hb.size) (boxed_keep h11 hb).cell (HFA.out.below hB) (HFB.out.below hB) HWA.out HWB.out ?_ ?_
                    · intro V' hb'
                      have hb2 := hb.trans (hb'.mono hb.size)
                      exact (hFa.below hb2).calls (HS.out.below (hB.trans (hb'.mono hB.size))) (hi.below hb2) HFI.out HUU.out HUA.out hk'
                    · intro V' hb'
                      have hb2 := hb.trans (hb'.mono hb.size)
                      exact (hFb.below hb2).calls (HS.out.below (hB.trans (hb'.mono hB.size))) (hi.below hb2) HFI.out HUU.out HUB.out hk')
                  have HFILL := hid hfill
                  clear hfill
                  refine HFILL.out.mono ?_
                  rintro e w9 ⟨G, rfl, hG, hrow, hb9⟩
                  have hl9 := hH.2.2.1.lt
                  replace hH := hH.step hb9
                  replace hi := hi.below hb9
                  have hNR : NR w w9 w.heap.size (w.heap.size + 1 + 1) (.slice b va.length cb) (.slice c la.length cc) := ⟨hH.1, hH.2.2.1, hH.2.2.2.2⟩
                  obtain ⟨k0, k1, f0, f1⟩ := hH.2.2.1.facts
                  obtain ⟨e1, e2, e3⟩ := hNR.fin (by omega) (cb := cd) (cc := FL.length) hi hrow (by omega) (.slice d U.length cd) (.slice (some ⟨G, 0, none⟩) FL.length FL.length) rfl rfl
                  go_wp2
                  refine bodyPost_ret (e1.result2 rfl _ rfl) rfl ?_
                  exact ⟨e2, e3⟩
        · intro K' hK'
          (try simp only [List.getElem_toArray, List.getElem_cons_zero, List.getElem_cons_succ])
          go_simp
          have hb : Below u1.heap.size u1 (u1.alloc (.cells #[.nilFunc] 73)) := (Below.refl _ u1).alloc (Nat.le_refl _) _
          have h10 : Boxed (u1.alloc (.cells #[.nilFunc] 73)) u1.heap.size 73 .nilFunc := Boxed.new u1 _ _
          have w10 := hH.2.2.2.2.size
          replace hH := hH.step hb
          replace hi := hi.below hb
          replace hFa := hFa.below hb
          refine hK'.out _ _ ⟨hH.1.c0, hH.2.1.c0⟩ (fun hSe => ?_)
          clear hK' K' hSd
          have hSd := hSe
          clear hSe hb
          generalize (u1.alloc (.cells #[.nilFunc] 73)) = u2 at *
          generalize u1.heap.size = B10 at *
          (try simp only [List.getElem_toArray, List.getElem_cons_zero, List.getElem_cons_succ])
          (try simp only [Act.put, List.setIfInBounds_toArray, List.set_cons_zero, List.set_cons_succ])
          refine wpAnyH_ready (rs := [9, 11]) (by kernel_rfl) (by simp) (AllReadyH.cons rfl ?_ (AllReadyH.cons rfl ?_ (AllReadyH.nil)))
          · intro K' hK'
            (try simp only [List.getElem_toArray, List.getElem_cons_zero, List.getElem_cons_succ])
            go_simp
            refine (HSTB.out _ d cd (HS.out.below hH.2.2.2.2) (HVB.out.below hH.2.2.2.2)).mono ?_
            rintro e u3 ⟨f, rfl, hFb, hb⟩
            obtain ⟨fb, rfl⟩ := hFb.shape
            replace hH := hH.step hb
            replace hi := hi.below hb
            replace hFa := hFa.below hb
            replace h10 := boxed_keep h10 hb
            refine hK'.out _ _ ⟨hH.1.c0, hH.2.1.c0⟩ (fun hSe => ?_)
            clear hK' K' hSd
            have hSd := hSe
            clear hSe hb
            generalize u2.heap.size = nb at hFb
            generalize u3.heap.size = mb at hFb
            (try simp only [List.getElem_toArray, List.getElem_cons_zero, List.getElem_cons_succ])
            (try simp only [Act.put, List.setIfInBounds_toArray, List.set_cons_zero, List.set_cons_succ])
            refine wpAnyH_ready (rs := [11]) (by kernel_rfl) (by simp) (AllReadyH.cons rfl ?_ (AllReadyH.nil))
            · intro K' hK'
              (try simp only [List.getElem_toArray, List.getElem_cons_zero, List.getElem_cons_succ])
              go_simp
              have hb : Below u3.heap.size u3 (u3.alloc (.cells #[.nilFunc] 73)) := (Below.refl _ u3).alloc (Nat.le_refl _) _
              have h11 : Boxed (u3.alloc (.cells #[.nilFunc] 73)) u3.heap.size 73 .nilFunc := Boxed.new u3 _ _
              have w11 := hH.2.2.2.2.size
              have ne : B10 ≠ u3.heap.size := by have := h10.lt; omega
              replace hH := hH.step hb
              replace hi := hi.below hb
              replace hFa := hFa.below hb
              replace hFb := hFb.below hb
              replace h10 := boxed_keep h10 hb
              refine hK'.out _ _ ⟨hH.1.c0, hH.2.1.c0⟩ (fun hSe => ?_)
              clear hK' K' hSd
              have hSd := hSe
              clear hSe hb
              generalize (u3.alloc (.cells #[.nilFunc] 73)) = u4 at *
              generalize u3.heap.size = B11 at *
              (try simp only [List.getElem_toArray, List.getElem_cons_zero, List.getElem_cons_succ])
              (try simp only [Act.put, List.setIfInBounds_toArray, List.set_cons_zero, List.set_cons_succ])
              have c10 := h10.cell
              have f10 := h10.frozen
              refine wpAnyH_ready (rs := [12]) (by kernel_rfl) (by simp) (AllReadyH.cons rfl ?_ (AllReadyH.nil))
              · intro K' hK'
                (try simp only [List.getElem_toArray, List.getElem_cons_zero, List.getElem_cons_succ])
                go_simp
                replace hH := hH.nil (slv _ _ _) (slv _ _ _) h10 w10 (.func (.func 103) #[] fa)
                replace hi := intS_nil h10 hi (.func (.func 103) #[] fa)
                replace hFa := hFa.nil h10 (.func (.func 103) #[] fa)
                replace hFb := hFb.nil h10 (.func (.func 103) #[] fa)
                replace h11 := boxed_off h11 B10 0 (.func (.func 103) #[] fa) (by omega)
                replace h10 := h10.set (.func (.func 103) #[] fa)
                clear c10 f10
                generalize (u4.setCell ⟨B10, 0, none⟩ (.func (.func 103) #[] fa)) = v1 at *
                refine hK'.out _ _ ⟨hH.1.c0, hH.2.1.c0⟩ (fun hSe => ?_)
                clear hK' K' hSd
                have hSd := hSe
                clear hSe
                (try simp only [List.getElem_toArray, List.getElem_cons_zero, List.getElem_cons_succ])
                (try simp only [Act.put, List.setIfInBounds_toArray, List.set_cons_zero, List.set_cons_succ])
                have c11 := h11.cell
                have f11 := h11.frozen
                refine wpAnyH_ready (rs := [13]) (by kernel_rfl) (by simp) (AllReadyH.cons rfl ?_ (AllReadyH.nil))
                · intro K' hK'
                  (try simp only [List.getElem_toArray, List.getElem_cons_zero, List.getElem_cons_succ])
                  go_simp
                  replace hH := hH.nil (slv _ _ _) (slv _ _ _) h11 w11 (.func (.func 103) #[] fb)
                  replace hi := intS_nil h11 hi (.func (.func 103) #[] fb)
                  replace hFa := hFa.nil h11 (.func (.func 103) #[] fb)
                  replace hFb := hFb.nil h11 (.func (.func 103) #[] fb)
                  replace h10 := boxed_off h10 B11 0 (.func (.func 103) #[] fb) (by omega)
                  replace h11 := h11.set (.func (.func 103) #[] fb)
                  clear c11 f11
                  generalize (v1.setCell ⟨B11, 0, none⟩ (.func (.func 103) #[] fb)) = v2 at *
                  refine hK'.out _ _ ⟨hH.1.c0, hH.2.1.c0⟩ (fun _ => wpAnyH_done (by kernel_rfl) ?_ _)
                  clear hK' K' hSd
                  go_wp2_with fail
                  have hfill := fill_any a d ca cd sizes U 54 #[.pointer (some ⟨w.heap.size, 0, none⟩), .pointer (some ⟨B10, 0, none⟩), .pointer (some ⟨w.heap.size + 1, 0, none⟩), .pointer (some ⟨B11, 0, none⟩)] (enters_of Tryz.func54 (by kernel_rfl) rfl) FL v2 (HS.out.below hH.2.2.2.2) hi HFI.out HUU.out HFL.out (fun k hk V hb => by
                    rw [HFG.out k hk]
                    have hk' : k < cnt (toN sizes) (toN U) := by rw [← HFL.out]; exact hk
                    have hB := hH.2.2.2.2.trans (hb.mono hH.2.2.2.2.size)
                    refine prod1_any w.heap.size B10 (w.heap.size + 1) B11 c c' cc cc' fa fb la lb k _ _ (HPA.out k hk') (HPB.out k hk') V (Nat.lt_of_lt_of_le hH.1.lt hb.size) ((hb.cell (p := ⟨w.heap.size, 1, none⟩) hH.1.lt).trans hH.1.c1) (Nat.lt_of_lt_of_le h10.lt hb.size) (boxed_keep h10 hb).cell (Nat.lt_of_lt_of_le hH.2.1.lt hb.size) ((hb.cell (p := ⟨w.heap.size + 1, 1, none⟩) hH.2.1.lt).trans hH.2.1.c1) (Nat.lt_of_lt_of_le h11.lt hb.size) (boxed_keep h11 hb).cell (HFA.out.below hB) (HFB.out.below hB) HWA.out HWB.out ?_ ?_
                    · intro V' hb'
                      have hb2 := hb.trans (hb'.mono hb.size)
                      exact (hFa.below hb2).calls (HS.out.below (hB.trans (hb'.mono hB.size))) (hi.below hb2) HFI.out HUU.out HUA.out hk'
                    · intro V' hb'
                      have hb2 := hb.trans (hb'.mono hb.size)
                      exact (hFb.below hb2).calls (HS.out.below (hB.trans (hb'.mono hB.size))) (hi.below hb2) HFI.out HUU.out HUB.out hk')
                  have HFILL := hid hfill
                  clear hfill
                  refine HFILL.out.mono ?_
                  rintro e w9 ⟨G, rfl, hG, hrow, hb9⟩
                  have hl9 := hH.2.2.1.lt
                  replace hH := hH.step hb9
                  replace hi := hi.below hb9
                  have hNR : NR w w9 w.heap.size (w.heap.size + 1 + 1) (.slice b va.length cb) (.slice c la.length cc) := ⟨hH.1, hH.2.2.1, hH.2.2.2.2⟩
                  obtain ⟨k0, k1, f0, f1⟩ := hH.2.2.1.facts
                  obtain ⟨e1, e2, e3⟩ := hNR.fin (by omega) (cb := cd) (cc := FL.length) hi hrow (by omega) (.slice d U.length cd) (.slice (some ⟨G, 0, none⟩) FL.length FL.length) rfl rfl
                  go_wp2
                  refine bodyPost_ret (e1.result2 rfl _ rfl) rfl ?_
                  exact ⟨e2, e3⟩
          · intro K' hK'
            (try simp only [List.getElem_toArray, List.getElem_cons_zero, List.getElem_cons_succ])
            go_simp
            have hb : Below u2.heap.size u2 (u2.alloc (.cells #[.nilFunc] 73)) := (Below.refl _ u2).alloc (Nat.le_refl _) _
            have h11 : Boxed (u2.alloc (.cells #[.nilFunc] 73)) u2.heap.size 73 .nilFunc := Boxed.new u2 _ _
            have w11 := hH.2.2.2.2.size
            have ne : B10 ≠ u2.heap.size := by have := h10.lt; omega
            replace hH := hH.step hb
            replace hi := hi.below hb
            replace hFa := hFa.below hb
            replace h10 := boxed_keep h10 hb
            refine hK'.out _ _ ⟨hH.1.c0, hH.2.1.c0⟩ (fun hSe => ?_)
            clear hK' K' hSd
            have hSd := hSe
            clear hSe hb
            generalize (u2.alloc (.cells #[.nilFunc] 73)) = u3 at *
            generalize u2.heap.size = B11 at *
            (try simp only [List.getElem_toArray, List.getElem_cons_zero, List.getElem_cons_succ])
            (try simp only [Act.put, List.setIfInBounds_toArray, List.set_cons_zero, List.set_cons_succ])
            refine wpAnyH_ready (rs := [9]) (by kernel_rfl) (by simp) (AllReadyH.cons rfl ?_ (AllReadyH.nil))
            · intro K' hK'
              (try simp only [List.getElem_toArray, List.getElem_cons_zero, List.getElem_cons_succ])
              go_simp
              refine (HSTB.out _ d cd (HS.out.below hH.2.2.2.2) (HVB.out.below hH.2.2.2.2)).mono ?_
              rintro e u4 ⟨f, rfl, hFb, hb⟩
              obtain ⟨fb, rfl⟩ := hFb.shape
              replace hH := hH.step hb
              replace hi := hi.below hb
              replace hFa := hFa.below hb
              replace h10 := boxed_keep h10 hb
              replace h11 := boxed_keep h11 hb
              refine hK'.out _ _ ⟨hH.1.c0, hH.2.1.c0⟩ (fun hSe => ?_)
              clear hK' K' hSd
              have hSd := hSe
              clear hSe hb
              generalize u3.heap.size = nb at hFb
              generalize u4.heap.size = mb at hFb
              (try simp only [List.getElem_toArray, List.getElem_cons_zero, List.getElem_cons_succ])
              (try simp only [Act.put, List.setIfInBounds_toArray, List.set_cons_zero, List.set_cons_succ])
              have c10 := h10.cell
              have f10 := h10.frozen
              refine wpAnyH_ready (rs := [12]) (by kernel_rfl) (by simp) (AllReadyH.cons rfl ?_ (AllReadyH.nil))
              · intro K' hK'
                (try simp only [List.getElem_toArray, List.getElem_cons_zero, List.getElem_cons_succ])
                go_simp
                replace hH := hH.nil (slv _ _ _) (slv _ _ _) h10 w10 (.func (.func 103) #[] fa)
                replace hi := intS_nil h10 hi (.func (.func 103) #[] fa)
                replace hFa := hFa.nil h10 (.func (.func 103) #[] fa)
                replace hFb := hFb.nil h10 (.func (.func 103) #[] fa)
                replace h11 := boxed_off h11 B10 0 (.func (.func 103) #[] fa) (by omega)
                replace h10 := h10.set (.func (.func 103) #[] fa)
                clear c10 f10
                generalize (u4.setCell ⟨B10, 0, none⟩ (.func (.func 103) #[] fa)) = v1 at *
                refine hK'.out _ _ ⟨hH.1.c0, hH.2.1.c0⟩ (fun hSe => ?_)
                clear hK' K' hSd
                have hSd := hSe
                clear hSe
                (try simp only [List.getElem_toArray, List.getElem_cons_zero, List.getElem_cons_succ])
                (try simp only [Act.put, List.setIfInBounds_toArray, List.set_cons_zero, List.set_cons_succ])
                have c11 := h11.cell
                have f11 := h11.frozen
                refine wpAnyH_ready (rs := [13]) (by kernel_rfl) (by simp) (AllReadyH.cons rfl ?_ (AllReadyH.nil))
                · intro K' hK'
                  (try simp only [List.getElem_toArray, List.getElem_cons_zero, List.getElem_cons_succ])
                  go_simp
                  replace hH := hH.nil (slv _ _ _) (slv _ _ _) h11 w11 (.func (.func 103) #[] fb)
                  replace hi := intS_nil h11 hi (.func (.func 103) #[] fb)
                  replace hFa := hFa.nil h11 (.func (.func 103) #[] fb)
                  replace hFb := hFb.nil h11 (.func (.func 103) #[] fb)
                  replace h10 := boxed_off h10 B11 0 (.func (.func 103) #[] fb) (by omega)
                  replace h11 := h11.set (.func (.func 103) #[] fb)
                  clear c11 f11
                  generalize (v1.setCell ⟨B11, 0, none⟩ (.func (.func 103) #[] fb)) = v2 at *
                  refine hK'.out _ _ ⟨hH.1.c0, hH.2.1.c0⟩ (fun _ => wpAnyH_done (by kernel_rfl) ?_ _)
                  clear hK' K' hSd
                  go_wp2_with fail
                  have hfill := fill_any a d ca cd sizes U 54 #[.pointer (some ⟨w.heap.size, 0, none⟩), .pointer (some ⟨B10, 0, none⟩), .pointer (some ⟨w.heap.size + 1, 0, none⟩), .pointer (some ⟨B11, 0, none⟩)] (enters_of Tryz.func54 (by kernel_rfl) rfl) FL v2 (HS.out.below hH.2.2.2.2) hi HFI.out HUU.out HFL.out (fun k hk V hb => by
                    rw [HFG.out k hk]
                    have hk' : k < cnt (toN sizes) (toN U) := by rw [← HFL.out]; exact hk
                    have hB := hH.2.2.2.2.trans (hb.mono hH.2.2.2.2.size)
                    refine prod1_any w.heap.size B10 (w.heap.size + 1) B11 c c' cc cc' fa fb la lb k _ _ (HPA.out k hk') (HPB.out k hk') V (Nat.lt_of_lt_of_le hH.1.lt hb.size) ((hb.cell (p := ⟨w.heap.size, 1, none⟩) hH.1.lt).trans hH.1.c1) (Nat.lt_of_lt_of_le h10.lt hb.size) (boxed_keep h10 hb).cell (Nat.lt_of_lt_of_le hH.2.1.lt hb.size) ((hb.cell (p := ⟨w.heap.size + 1, 1, none⟩) hH.2.1.lt).trans hH.2.1.c1) (Nat.lt_of_lt_of_le h11.lt hb.size) (boxed_keep h11 hb).cell (HFA.out.below hB) (HFB.out.below hB) HWA.out HWB.out ?_ ?_
                    · intro V' hb'
                      have hb2 := hb.trans (hb'.mono hb.size)
                      exact (hFa.below hb2).calls (HS.out.below (hB.trans (hb'.mono hB.size))) (hi.below hb2) HFI.out HUU.out HUA.out hk'
                    · intro V' hb'
                      have hb2 := hb.trans (hb'.mono hb.size)
                      exact (hFb.below hb2).calls (HS.out.below (hB.trans (hb'.mono hB.size))) (hi.below hb2) HFI.out HUU.out HUB.out hk')
                  have HFILL := hid hfill
                  clear hfill
                  refine HFILL.out.mono ?_
                  rintro e w9 ⟨G, rfl, hG, hrow, hb9⟩
                  have hl9 := hH.2.2.1.lt
                  replace hH := hH.step hb9
                  replace hi := hi.below hb9
                  have hNR : NR w w9 w.heap.size (w.heap.size + 1 + 1) (.slice b va.length cb) (.slice c la.length cc) := ⟨hH.1, hH.2.2.1, hH.2.2.2.2⟩
                  obtain ⟨k0, k1, f0, f1⟩ := hH.2.2.1.facts
                  obtain ⟨e1, e2, e3⟩ := hNR.fin (by omega) (cb := cd) (cc := FL.length) hi hrow (by omega) (.slice d U.length cd) (.slice (some ⟨G, 0, none⟩) FL.length FL.length) rfl rfl
                  go_wp2
                  refine bodyPost_ret (e1.result2 rfl _ rfl) rfl ?_
                  exact ⟨e2, e3⟩
        · intro K' hK'
          (try simp only [List.getElem_toArray, List.getElem_cons_zero, List.getElem_cons_succ])
          go_simp
          have hb : Below u1.heap.size u1 (u1.alloc (.cells #[.nilFunc] 73)) := (Below.refl _ u1).alloc (Nat.le_refl _) _
          have h11 : Boxed (u1.alloc (.cells #[.nilFunc] 73)) u1.heap.size 73 .nilFunc := Boxed.new u1 _ _
          have w11 := hH.2.2.2.2.size
          replace hH := hH.step hb
          replace hi := hi.below hb
          replace hFa := hFa.below hb
          refine hK'.out _ _ ⟨hH.1.c0, hH.2.1.c0⟩ (fun hSe => ?_)
          clear hK' K' hSd
          have hSd := hSe
          clear hSe hb
          generalize (u1.alloc (.cells #[.nilFunc] 73)) = u2 at *
          generalize u1.heap.size = B11 at *
          (try simp only [List.getElem_toArray, List.getElem_cons_zero, List.getElem_cons_succ])
          (try simp only [Act.put, List.setIfInBounds_toArray, List.set_cons_zero, List.set_cons_succ])
          refine wpAnyH_ready (rs := [9, 10]) (by kernel_rfl) (by simp) (AllReadyH.cons rfl ?_ (AllReadyH.cons rfl ?_ (AllReadyH.nil)))
          · intro K' hK'
            (try simp only [List.getElem_toArray, List.getElem_cons_zero, List.getElem_cons_succ])
            go_simp
            refine (HSTB.out _ d cd (HS.out.below hH.2.2.2.2) (HVB.out.below hH.2.2.2.2)).mono ?_
            rintro e u3 ⟨f, rfl, hFb, hb⟩
            obtain ⟨fb, rfl⟩ := hFb.shape
            replace hH := hH.step hb
            replace hi := hi.below hb
            replace hFa := hFa.below hb
            replace h11 := boxed_keep h11 hb
            refine hK'.out _ _ ⟨hH.1.c0, hH.2.1.c0⟩ (fun hSe => ?_)
            clear hK' K' hSd
            have hSd := hSe
            clear hSe hb
            generalize u2.heap.size = nb at hFb
            generalize u3.heap.size = mb at hFb
            (try simp only [List.getElem_toArray, List.getElem_cons_zero, List.getElem_cons_succ])
            (try simp only [Act.put, List.setIfInBounds_toArray, List.set_cons_zero, List.set_cons_succ])
            refine wpAnyH_ready (rs := [10]) (by kernel_rfl) (by simp) (AllReadyH.cons rfl ?_ (AllReadyH.nil))
            · intro K' hK'
              (try simp only [List.getElem_toArray, List.getElem_cons_zero, List.getElem_cons_succ])
              go_simp
              have hb : Below u3.heap.size u3 (u3.alloc (.cells #[.nilFunc] 73)) := (Below.refl _ u3).alloc (Nat.le_refl _) _
              have h10 : Boxed (u3.alloc (.cells #[.nilFunc] 73)) u3.heap.size 73 .nilFunc := Boxed.new u3 _ _
              have w10 := hH.2.2.2.2.size
              have ne : B11 ≠ u3.heap.size := by have := h11.lt; omega
              replace hH := hH.step hb
              replace hi := hi.below hb
              replace hFa := hFa.below hb
              replace hFb := hFb.below hb
              replace h11 := boxed_keep h11 hb
              refine hK'.out _ _ ⟨hH.1.c0, hH.2.1.c0⟩ (fun hSe => ?_)
              clear hK' K' hSd
              have hSd := hSe
              clear hSe hb
              generalize (u3.alloc (.cells #[.nilFunc] 73)) = u4 at *
              generalize u3.heap.size = B10 at *
              (try simp only [List.getElem_toArray, List.getElem_cons_zero, List.getElem_cons_succ])
              (try simp only [Act.put, List.setIfInBounds_toArray, List.set_cons_zero, List.set_cons_succ])
              have c10 := h10.cell
              have f10 := h10.frozen
              refine wpAnyH_ready (rs := [12]) (by kernel_rfl) (by simp) (AllReadyH.cons rfl ?_ (AllReadyH.nil))
              · intro K' hK'
                (try simp only [List.getElem_toArray, List.getElem_cons_zero, List.getElem_cons_succ])
                go_simp
                replace hH := hH.nil (slv _ _ _) (slv _ _ _) h10 w10 (.func (.func 103) #[] fa)
                replace hi := intS_nil h10 hi (.func (.func 103) #[] fa)
                replace hFa := hFa.nil h10 (.func (.func 103) #[] fa)
                replace hFb := hFb.nil h10 (.func (.func 103) #[] fa)
                replace h11 := boxed_off h11 B10 0 (.func (.func 103) #[] fa) (by omega)
                replace h10 := h10.set (.func (.func 103) #[] fa)
                clear c10 f10
                generalize (u4.setCell ⟨B10, 0, none⟩ (.func (.func 103) #[] fa)) = v1 at *
                refine hK'.out _ _ ⟨hH.1.c0, hH.2.1.c0⟩ (fun hSe => ?_)
                clear hK' K' hSd
                have hSd := hSe
                clear hSe
                (try simp only [List.getElem_toArray, List.getElem_cons_zero, List.getElem_cons_succ])
                (try simp only [Act.put, List.setIfInBounds_toArray, List.set_cons_zero, List.set_cons_succ])
                have c11 := h11.cell
                have f11 := h11.frozen
                refine wpAnyH_ready (rs := [13]) (by kernel_rfl) (by simp) (AllReadyH.cons rfl ?_ (AllReadyH.nil))
                · intro K' hK'
                  (try simp only [List.getElem_toArray, List.getElem_cons_zero, List.getElem_cons_succ])
                  go_simp
                  replace hH := hH.nil (slv _ _ _) (slv _ _ _) h11 w11 (.func (.func 103) #[] fb)
                  replace hi := intS_nil h11 hi (.func (.func 103) #[] fb)
                  replace hFa := hFa.nil h11 (.func (.func 103) #[] fb)
                  replace hFb := hFb.nil h11 (.func (.func 103) #[] fb)
                  replace h10 := boxed_off h10 B11 0 (.func (.func 103) #[] fb) (by omega)
                  replace h11 := h11.set (.func (.func 103) #[] fb)
                  clear c11 f11
                  generalize (v1.setCell ⟨B11, 0, none⟩ (.func (.func 103) #[] fb)) = v2 at *
                  refine hK'.out _ _ ⟨hH.1.c0, hH.2.1.c0⟩ (fun _ => wpAnyH_done (by kernel_rfl) ?_ _)
                  clear hK' K' hSd
                  go_wp2_with fail
                  have hfill := fill_any a d ca cd sizes U 54 #[.pointer (some ⟨w.heap.size, 0, none⟩), .pointer (some ⟨B10, 0, none⟩), .pointer (some ⟨w.heap.size + 1, 0, none⟩), .pointer (some ⟨B11, 0, none⟩)] (enters_of Tryz.func54 (by kernel_rfl) rfl) FL v2 (HS.out.below hH.2.2.2.2) hi HFI.out HUU.out HFL.out (fun k hk V hb => by
                    rw [HFG.out k hk]
                    have hk' : k < cnt (toN sizes) (toN U) := by rw [← HFL.out]; exact hk
                    have hB := hH.2.2.2.2.trans (hb.mono hH.2.2.2.2.size)
                    refine prod1_any w.heap.size B10 (w.heap.size + 1) B11 c c' cc cc' fa fb la lb k _ _ (HPA.out k hk') (HPB.out k hk') V (Nat.lt_of_lt_of_le hH.1.lt hb.size) ((hb.cell (p := ⟨w.heap.size, 1, none⟩) hH.1.lt).trans hH.1.c1) (Nat.lt_of_lt_of_le h10.lt hb.size) (boxed_keep h10 hb).cell (Nat.lt_of_lt_of_le hH.2.1.lt hb.size) ((hb.cell (p := ⟨w.heap.size + 1, 1, none⟩) hH.2.1.lt).trans hH.2.1.c1) (Nat.lt_of_lt_of_le h11.lt hb.size) (boxed_keep h11 hb).cell (HFA.out.below hB) (HFB.out.below hB) HWA.out HWB.out ?_ ?_
                    · intro V' hb'
                      have hb2 := hb.trans (hb'.mono hb.size)
                      exact (hFa.below hb2).calls (HS.out.below (hB.trans (hb'.mono hB.size))) (hi.below hb2) HFI.out HUU.out HUA.out hk'
                    · intro V' hb'
                      have hb2 := hb.trans (hb'.mono hb.size)
                      exact (hFb.below hb2).calls (HS.out.below (hB.trans (hb'.mono hB.size))) (hi.below hb2) HFI.out HUU.out HUB.out hk')
                  have HFILL := hid hfill
                  clear hfill
                  refine HFILL.out.mono ?_
                  rintro e w9 ⟨G, rfl, hG, hrow, hb9⟩
                  have hl9 := hH.2.2.1.lt
                  replace hH := hH.step hb9
                  replace hi := hi.below hb9
                  have hNR : NR w w9 w.heap.size (w.heap.size + 1 + 1) (.slice b va.length cb) (.slice c la.length cc) := ⟨hH.1, hH.2.2.1, hH.2.2.2.2⟩
                  obtain ⟨k0, k1, f0, f1⟩ := hH.2.2.1.facts
                  obtain ⟨e1, e2, e3⟩ := hNR.fin (by omega) (cb := cd) (cc := FL.length) hi hrow (by omega) (.slice d U.length cd) (.slice (some ⟨G, 0, none⟩) FL.length FL.length) rfl rfl
                  go_wp2
                  refine bodyPost_ret (e1.result2 rfl _ rfl) rfl ?_
                  exact ⟨e2, e3⟩
          · intro K' hK'
            (try simp only [List.getElem_toArray, List.getElem_cons_zero, List.getElem_cons_succ])
            go_simp
            have hb : Below u2.heap.size u2 (u2.alloc (.cells #[.nilFunc] 73)) := (Below.refl _ u2).alloc (Nat.le_refl _) _
            have h10 : Boxed (u2.alloc (.cells #[.nilFunc] 73)) u2.heap.size 73 .nilFunc := Boxed.new u2 _ _
            have w10 := hH.2.2.2.2.size
            have ne : B11 ≠ u2.heap.size := by have := h11.lt; omega
            replace hH := hH.step hb
            replace hi := hi.below hb
            replace hFa := hFa.below hb
            replace h11 := boxed_keep h11 hb
            refine hK'.out _ _ ⟨hH.1.c0, hH.2.1.c0⟩ (fun hSe => ?_)
            clear hK' K' hSd
            have hSd := hSe
            clear hSe hb
            generalize (u2.alloc (.cells #[.nilFunc] 73)) = u3 at *
            generalize u2.heap.size = B10 at *
            (try simp only [List.getElem_toArray, List.getElem_cons_zero, List.getElem_cons_succ])
            (try simp only [Act.put, List.setIfInBounds_toArray, List.set_cons_zero, List.set_cons_succ])
            refine wpAnyH_ready (rs := [9]) (by kernel_rfl) (by simp) (AllReadyH.cons rfl ?_ (AllReadyH.nil))
            · intro K' hK'
              (try simp only [List.getElem_toArray, List.getElem_cons_zero, List.getElem_cons_succ])
              go_simp
              refine (HSTB.out _ d cd (HS.out.below hH.2.2.2.2) (HVB.out.below hH.2.2.2.2)).mono ?_
              rintro e u4 ⟨f, rfl, hFb, hb⟩
              obtain ⟨fb, rfl⟩ := hFb.shape
              replace hH := hH.step hb
              replace hi := hi.below hb
              replace hFa := hFa.below hb
              replace h10 := boxed_keep h10 hb
              replace h11 := boxed_keep h11 hb
              refine hK'.out _ _ ⟨hH.1.c0, hH.2.1.c0⟩ (fun hSe => ?_)
              clear hK' K' hSd
              have hSd := hSe
              clear hSe hb
              generalize u3.heap.size = nb at hFb
              generalize u4.heap.size = mb at hFb
              (try simp only [List.getElem_toArray, List.getElem_cons_zero, List.getElem_cons_succ])
              (try simp only [Act.put, List.setIfInBounds_toArray, List.set_cons_zero, List.set_cons_succ])
              have c10 := h10.cell
              have f10 := h10.frozen
              refine wpAnyH_ready (rs := [12]) (by kernel_rfl) (by simp) (AllReadyH.cons rfl ?_ (AllReadyH.nil))
              · intro K' hK'
                (try simp only [List.getElem_toArray, List.getElem_cons_zero, List.getElem_cons_succ])
                go_simp
                replace hH := hH.nil (slv _ _ _) (slv _ _ _) h10 w10 (.func (.func 103) #[] fa)
                replace hi := intS_nil h10 hi (.func (.func 103) #[] fa)
                replace hFa := hFa.nil h10 (.func (.func 103) #[] fa)
                replace hFb := hFb.nil h10 (.func (.func 103) #[] fa)
                replace h11 := boxed_off h11 B10 0 (.func (.func 103) #[] fa) (by omega)
                replace h10 := h10.set (.func (.func 103) #[] fa)
                clear c10 f10
                generalize (u4.setCell ⟨B10, 0, none⟩ (.func (.func 103) #[] fa)) = v1 at *
                refine hK'.out _ _ ⟨hH.1.c0, hH.2.1.c0⟩ (fun hSe => ?_)
                clear hK' K' hSd
                have hSd := hSe
                clear hSe
                (try simp only [List.getElem_toArray, List.getElem_cons_zero, List.getElem_cons_succ])
                (try simp only [Act.put, List.setIfInBounds_toArray, List.set_cons_zero, List.set_cons_succ])
                have c11 := h11.cell
                have f11 := h11.frozen
                refine wpAnyH_ready (rs := [13]) (by kernel_rfl) (by simp) (AllReadyH.cons rfl ?_ (AllReadyH.nil))
                · intro K' hK'
                  (try simp only [List.getElem_toArray, List.getElem_cons_zero, List.getElem_cons_succ])
                  go_simp
                  replace hH := hH.nil (slv _ _ _) (slv _ _ _) h11 w11 (.func (.func 103) #[] fb)
                  replace hi := intS_nil h11 hi (.func (.func 103) #[] fb)
                  replace hFa := hFa.nil h11 (.func (.func 103) #[] fb)
                  replace hFb := hFb.nil h11 (.func (.func 103) #[] fb)
                  replace h10 := boxed_off h10 B11 0 (.func (.func 103) #[] fb) (by omega)
                  replace h11 := h11.set (.func (.func 103) #[] fb)
                  clear c11 f11
                  generalize (v1.setCell ⟨B11, 0, none⟩ (.func (.func 103) #[] fb)) = v2 at *
                  refine hK'.out _ _ ⟨hH.1.c0, hH.2.1.c0⟩ (fun _ => wpAnyH_done (by kernel_rfl) ?_ _)
                  clear hK' K' hSd
                  go_wp2_with fail
                  have hfill := fill_any a d ca cd sizes U 54 #[.pointer (some ⟨w.heap.size, 0, none⟩), .pointer (some ⟨B10, 0, none⟩), .pointer (some ⟨w.heap.size + 1, 0, none⟩), .pointer (some ⟨B11, 0, none⟩)] (enters_of Tryz.func54 (by kernel_rfl) rfl) FL v2 (HS.out.below hH.2.2.2.2) hi HFI.out HUU.out HFL.out (fun k hk V hb => by
                    rw [HFG.out k hk]
                    have hk' : k < cnt (toN sizes) (toN U) := by rw [← HFL.out]; exact hk
                    have hB := hH.2.2.2.2.trans (hb.mono hH.2.2.2.2.size)
                    refine prod1_any w.heap.size B10 (w.heap.size + 1) B11 c c' cc cc' fa fb la lb k _ _ (HPA.out k hk') (HPB.out k hk') V (Nat.lt_of_lt_of_le hH.1.lt hb.size) ((hb.cell (p := ⟨w.heap.size, 1, none⟩) hH.1.lt).trans hH.1.c1) (Nat.lt_of_lt_of_le h10.lt hb.size) (boxed_keep h10 hb).cell (Nat.lt_of_lt_of_le hH.2.1.lt hb.size) ((hb.cell (p := ⟨w.heap.size + 1, 1, none⟩) hH.2.1.lt).trans hH.2.1.c1) (Nat.lt_of_lt_of_le h11.lt hb.size) (boxed_keep h11 hb).cell (HFA.out.below hB) (HFB.out.below hB) HWA.out HWB.out ?_ ?_
                    · intro V' hb'
                      have hb2 := hb.trans (hb'.mono hb.size)
                      exact (hFa.below hb2).calls (HS.out.below (hB.trans (hb'.mono hB.size))) (hi.below hb2) HFI.out HUU.out HUA.out hk'
                    · intro V' hb'
                      have hb2 := hb.trans (hb'.mono hb.size)
                      exact (hFb.below hb2).calls (HS.out.below (hB.trans (hb'.mono hB.size))) (hi.below hb2) HFI.out HUU.out HUB.out hk')
                  have HFILL := hid hfill
                  clear hfill
                  refine HFILL.out.mono ?_
                  rintro e w9 ⟨G, rfl, hG, hrow, hb9⟩
                  have hl9 := hH.2.2.1.lt
                  replace hH := hH.step hb9
                  replace hi := hi.below hb9
                  have hNR : NR w w9 w.heap.size (w.heap.size + 1 + 1) (.slice b va.length cb) (.slice c la.length cc) := ⟨hH.1, hH.2.2.1, hH.2.2.2.2⟩
                  obtain ⟨k0, k1, f0, f1⟩ := hH.2.2.1.facts
                  obtain ⟨e1, e2, e3⟩ := hNR.fin (by omega) (cb := cd) (cc := FL.length) hi hrow (by omega) (.slice d U.length cd) (.slice (some ⟨G, 0, none⟩) FL.length FL.length) rfl rfl
                  go_wp2
                  refine bodyPost_ret (e1.result2 rfl _ rfl) rfl ?_
                  exact ⟨e2, e3⟩
      · intro K' hK'
        (try simp only [List.getElem_toArray, List.getElem_cons_zero, List.getElem_cons_succ])
        go_simp
        have hb : Below u0.heap.size u0 (u0.alloc (.cells #[.nilFunc] 73)) := (Below.refl _ u0).alloc (Nat.le_refl _) _
        have h10 : Boxed (u0.alloc (.cells #[.nilFunc] 73)) u0.heap.size 73 .nilFunc := Boxed.new u0 _ _
        have w10 := hH.2.2.2.2.size
        replace hH := hH.step hb
        replace hi := hi.below hb
        refine hK'.out _ _ ⟨hH.1.c0, hH.2.1.c0⟩ (fun hSe => ?_)
        clear hK' K' hSd
        have hSd := hSe
        clear hSe hb
        generalize (u0.alloc (.cells #[.nilFunc] 73)) = u1 at *
        generalize u0.heap.size = B10 at *
        (try simp only [List.getElem_toArray, List.getElem_cons_zero, List.getElem_cons_succ])
        (try simp only [Act.put, List.setIfInBounds_toArray, List.set_cons_zero, List.set_cons_succ])
        refine wpAnyH_ready (rs := [4, 11]) (by kernel_rfl) (by simp) (AllReadyH.cons rfl ?_ (AllReadyH.cons rfl ?_ (AllReadyH.nil)))
        · intro K' hK'
          (try simp only [List.getElem_toArray, List.getElem_cons_zero, List.getElem_cons_succ])
          go_simp
          refine (HSTA.out _ d cd (HS.out.below hH.2.2.2.2) (HVA.out.below hH.2.2.2.2)).mono ?_
          rintro e u2 ⟨f, rfl, hFa, hb⟩
          obtain ⟨fa, rfl⟩ := hFa.shape
          replace hH := hH.step hb
          replace hi := hi.below hb
          replace h10 := boxed_keep h10 hb
          refine hK'.out _ _ ⟨hH.1.c0, hH.2.1.c0⟩ (fun hSe => ?_)
          clear hK' K' hSd
          have hSd := hSe
          clear hSe hb
          generalize u1.heap.size = na at hFa
          generalize u2.heap.size = ma at hFa
          (try simp only [List.getElem_toArray, List.getElem_cons_zero, List.getElem_cons_succ])
          (try simp only [Act.put, List.setIfInBounds_toArray, List.set_cons_zero, List.set_cons_succ])
          refine wpAnyH_ready (rs := [9, 11]) (by kernel_rfl) (by simp) (AllReadyH.cons rfl ?_ (AllReadyH.cons rfl ?_ (AllReadyH.nil)))
          · intro K' hK'
            (try simp only [List.getElem_toArray, List.getElem_cons_zero, List.getElem_cons_succ])
            go_simp
            refine (HSTB.out _ d cd (HS.out.below hH.2.2.2.2) (HVB.out.below hH.2.2.2.2)).mono ?_
            rintro e u3 ⟨f, rfl, hFb, hb⟩
            obtain ⟨fb, rfl⟩ := hFb.shape
            replace hH := hH.step hb
            replace hi := hi.below hb
            replace hFa := hFa.below hb
            replace h10 := boxed_keep h10 hb
            refine hK'.out _ _ ⟨hH.1.c0, hH.2.1.c0⟩ (fun hSe => ?_)
            clear hK' K' hSd
            have hSd := hSe
            clear hSe hb
            generalize u2.heap.size = nb at hFb
            generalize u3.heap.size = mb at hFb
            (try simp only [List.getElem_toArray, List.getElem_cons_zero, List.getElem_cons_succ])
            (try simp only [Act.put, List.setIfInBounds_toArray, List.set_cons_zero, List.set_cons_succ])
            refine wpAnyH_ready (rs := [11]) (by kernel_rfl) (by simp) (AllReadyH.cons rfl ?_ (AllReadyH.nil))
            · intro K' hK'
              (try simp only [List.getElem_toArray, List.getElem_cons_zero, List.getElem_cons_succ])
              go_simp
              have hb : Below u3.heap.size u3 (u3.alloc (.cells #[.nilFunc] 73)) := (Below.refl _ u3).alloc (Nat.le_refl _) _
              have h11 : Boxed (u3.alloc (.cells #[.nilFunc] 73)) u3.heap.size 73 .nilFunc := Boxed.new u3 _ _
              have w11 := hH.2.2.2.2.size
              have ne : B10 ≠ u3.heap.size := by have := h10.lt; omega
              replace hH := hH.step hb
              replace hi := hi.below hb
              replace hFa := hFa.below hb
              replace hFb := hFb.below hb
              replace h10 := boxed_keep h10 hb
              refine hK'.out _ _ ⟨hH.1.c0, hH.2.1.c0⟩ (fun hSe => ?_)
              clear hK' K' hSd
              have hSd := hSe
              clear hSe hb
              generalize (u3.alloc (.cells #[.nilFunc] 73)) = u4 at *
              generalize u3.heap.size = B11 at *
              (try simp only [List.getElem_toArray, List.getElem_cons_zero, List.getElem_cons_succ])
              (try simp only [Act.put, List.setIfInBounds_toArray, List.set_cons_zero, List.set_cons_succ])
              have c10 := h10.cell
              have f10 := h10.frozen
              refine wpAnyH_ready (rs := [12]) (by kernel_rfl) (by simp) (AllReadyH.cons rfl ?_ (AllReadyH.nil))
              · intro K' hK'
                (try simp only [List.getElem_toArray, List.getElem_cons_zero, List.getElem_cons_succ])
                go_simp
                replace hH := hH.nil (slv _ _ _) (slv _ _ _) h10 w10 (.func (.func 103) #[] fa)
                replace hi := intS_nil h10 hi (.func (.func 103) #[] fa)
                replace hFa := hFa.nil h10 (.func (.func 103) #[] fa)
                replace hFb := hFb.nil h10 (.func (.func 103) #[] fa)
                replace h11 := boxed_off h11 B10 0 (.func (.func 103) #[] fa) (by omega)
                replace h10 := h10.set (.func (.func 103) #[] fa)
                clear c10 f10
                generalize (u4.setCell ⟨B10, 0, none⟩ (.func (.func 103) #[] fa)) = v1 at *
                refine hK'.out _ _ ⟨hH.1.c0, hH.2.1.c0⟩ (fun hSe => ?_)
                clear hK' K' hSd
                have hSd := hSe
                clear hSe
                (try simp only [List.getElem_toArray, List.getElem_cons_zero, List.getElem_cons_succ])
                (try simp only [Act.put, List.setIfInBounds_toArray, List.set_cons_zero, List.set_cons_succ])
                have c11 := h11.cell
                have f11 := h11.frozen
                refine wpAnyH_ready (rs := [13]) (by kernel_rfl) (by simp) (AllReadyH.cons rfl ?_ (AllReadyH.nil))
                · intro K' hK'
                  (try simp only [List.getElem_toArray, List.getElem_cons_zero, List.getElem_cons_succ])
                  go_simp
                  replace hH := hH.nil (slv _ _ _) (slv _ _ _) h11 w11 (.func (.func 103) #[] fb)
                  replace hi := intS_nil h11 hi (.func (.func 103) #[] fb)
                  replace hFa := hFa.nil h11 (.func (.func 103) #[] fb)
                  replace hFb := hFb.nil h11 (.func (.func 103) #[] fb)
                  replace h10 := boxed_off h10 B11 0 (.func (.func 103) #[] fb) (by omega)
                  replace h11 := h11.set (.func (.func 103) #[] fb)
                  clear c11 f11
                  generalize (v1.setCell ⟨B11, 0, none⟩ (.func (.func 103) #[] fb)) = v2 at *
                  refine hK'.out _ _ ⟨hH.1.c0, hH.2.1.c0⟩ (fun _ => wpAnyH_done (by kernel_rfl) ?_ _)
                  clear hK' K' hSd
                  go_wp2_with fail
                  have hfill := fill_any a d ca cd sizes U 54 #[.pointer (some ⟨w.heap.size, 0, none⟩), .pointer (some ⟨B10, 0, none⟩), .pointer (some ⟨w.heap.size + 1, 0, none⟩), .pointer (some ⟨B11, 0, none⟩)] (enters_of Tryz.func54 (by kernel_rfl) rfl) FL v2 (HS.out.below hH.2.2.2.2) hi HFI.out HUU.out HFL.out (fun k hk V hb => by
                    rw [HFG.out k hk]
                    have hk' : k < cnt (toN sizes) (toN U) := by rw [← HFL.out]; exact hk
                    have hB := hH.2.2.2.2.trans (hb.mono hH.2.2.2.2.size)
                    refine prod1_any w.heap.size B10 (w.heap.size + 1) B11 c c' cc cc' fa fb la lb k _ _ (HPA.out k hk') (HPB.out k hk') V (Nat.lt_of_lt_of_le hH.1.lt hb.size) ((hb.cell (p := ⟨w.heap.size, 1, none⟩) hH.1.lt).trans hH.1.c1) (Nat.lt_of_lt_of_le h10.lt hb.size) (boxed_keep h10 hb).cell (Nat.lt_of_lt_of_le hH.2.1.lt hb.size) ((hb.cell (p := ⟨w.heap.size + 1, 1, none⟩) hH.2.1.lt).trans hH.2.1.c1) (Nat.lt_of_lt_of_le h11.lt hb.size) (boxed_keep h11 hb).cell (HFA.out.below hB) (HFB.out.below hB) HWA.out HWB.out ?_ ?_
                    · intro V' hb'
                      have hb2 := hb.trans (hb'.mono hb.size)
                      exact (hFa.below hb2).calls (HS.out.below (hB.trans (hb'.mono hB.size))) (hi.below hb2) HFI.out HUU.out HUA.out hk'
                    · intro V' hb'
                      have hb2 := hb.trans (hb'.mono hb.size)
                      exact (hFb.below hb2).calls (HS.out.below (hB.trans (hb'.mono hB.size))) (hi.below hb2) HFI.out HUU.out HUB.out hk')
                  have HFILL := hid hfill
                  clear hfill
                  refine HFILL.out.mono ?_
                  rintro e w9 ⟨G, rfl, hG, hrow, hb9⟩
                  have hl9 := hH.2.2.1.lt
                  replace hH := hH.step hb9
                  replace hi := hi.below hb9
                  have hNR : NR w w9 w.heap.size (w.heap.size + 1 + 1) (.slice b va.length cb) (.slice c la.length cc) := ⟨hH.1, hH.2.2.1, hH.2.2.2.2⟩
                  obtain ⟨k0, k1, f0, f1⟩ := hH.2.2.1.facts
                  obtain ⟨e1, e2, e3⟩ := hNR.fin (by omega) (cb := cd) (cc := FL.length) hi hrow (by omega) (.slice d U.length cd) (.slice (some ⟨G, 0, none⟩) FL.length FL.length) rfl rfl
                  go_wp2
                  refine bodyPost_ret (e1.result2 rfl _ rfl) rfl ?_
                  exact ⟨e2, e3⟩
          · intro K' hK'
            (try simp only [List.getElem_toArray, List.getElem_cons_zero, List.getElem_cons_succ])
            go_simp
            have hb : Below u2.heap.size u2 (u2.alloc (.cells #[.nilFunc] 73)) := (Below.refl _ u2).alloc (Nat.le_refl _) _
            have h11 : Boxed (u2.alloc (.cells #[.nilFunc] 73)) u2.heap.size 73 .nilFunc := Boxed.new u2 _ _
            have w11 := hH.2.2.2.2.size
            have ne : B10 ≠ u2.heap.size := by have := h10.lt; omega
            replace hH := hH.step hb
            replace hi := hi.below hb
            replace hFa := hFa.below hb
            replace h10 := boxed_keep h10 hb
            refine hK'.out _ _ ⟨hH.1.c0, hH.2.1.c0⟩ (fun hSe => ?_)
            clear hK' K' hSd
            have hSd := hSe
            clear hSe hb
            generalize (u2.alloc (.cells #[.nilFunc] 73)) = u3 at *
            generalize u2.heap.size = B11 at *
            (try simp only [List.getElem_toArray, List.getElem_cons_zero, List.getElem_cons_succ])
            (try simp only [Act.put, List.setIfInBounds_toArray, List.set_cons_zero, List.set_cons_succ])
            refine wpAnyH_ready (rs := [9]) (by kernel_rfl) (by simp) (AllReadyH.cons rfl ?_ (AllReadyH.nil))
            · intro K' hK'
              (try simp only [List.getElem_toArray, List.getElem_cons_zero, List.getElem_cons_succ])
              go_simp
              refine (HSTB.out _ d cd (HS.out.below hH.2.2.2.2) (HVB.out.below hH.2.2.2.2)).mono ?_
              rintro e u4 ⟨f, rfl, hFb, hb⟩
              obtain ⟨fb, rfl⟩ := hFb.shape
              replace hH := hH.step hb
              replace hi := hi.below hb
              replace hFa := hFa.below hb
              replace h10 := boxed_keep h10 hb
              replace h11 := boxed_keep h11 hb
              refine hK'.out _ _ ⟨hH.1.c0, hH.2.1.c0⟩ (fun hSe => ?_)
              clear hK' K' hSd
              have hSd := hSe
              clear hSe hb
              generalize u3.heap.size = nb at hFb
              generalize u4.heap.size = mb at hFb
              (try simp only [List.getElem_toArray, List.getElem_cons_zero, List.getElem_cons_succ])
              (try simp only [Act.put, List.setIfInBounds_toArray, List.set_cons_zero, List.set_cons_succ])
              have c10 := h10.cell
              have f10 := h10.frozen
              refine wpAnyH_ready (rs := [12]) (by kernel_rfl) (by simp) (AllReadyH.cons rfl ?_ (AllReadyH.nil))
              · intro K' hK'
                (try simp only [List.getElem_toArray, List.getElem_cons_zero, List.getElem_cons_succ])
                go_simp
                replace hH := hH.nil (slv _ _ _) (slv _ _ _) h10 w10 (.func (.func 103) #[] fa)
                replace hi := intS_nil h10 hi (.func (.func 103) #[] fa)
                replace hFa := hFa.nil h10 (.func (.func 103) #[] fa)
                replace hFb := hFb.nil h10 (.func (.func 103) #[] fa)
                replace h11 := boxed_off h11 B10 0 (.func (.func 103) #[] fa) (by omega)
                replace h10 := h10.set (.func (.func 103) #[] fa)
                clear c10 f10
                generalize (u4.setCell ⟨B10, 0, none⟩ (.func (.func 103) #[] fa)) = v1 at *
                refine hK'.out _ _ ⟨hH.1.c0, hH.2.1.c0⟩ (fun hSe => ?_)
                clear hK' K' hSd
                have hSd := hSe
                clear hSe
                (try simp only [List.getElem_toArray, List.getElem_cons_zero, List.getElem_cons_succ])
                (try simp only [Act.put, List.setIfInBounds_toArray, List.set_cons_zero, List.set_cons_succ])
                have c11 := h11.cell
                have f11 := h11.frozen
                refine wpAnyH_ready (rs := [13]) (by kernel_rfl) (by simp) (AllReadyH.cons rfl ?_ (AllReadyH.nil))
                · intro K' hK'
                  (try simp only [List.getElem_toArray, List.getElem_cons_zero, List.getElem_cons_succ])
                  go_simp
                  replace hH := hH.nil (slv _ _ _) (slv _ _ _) h11 w11 (.func (.func 103) #[] fb)
                  replace hi := intS_nil h11 hi (.func (.func 103) #[] fb)
                  replace hFa := hFa.nil h11 (.func (.func 103) #[] fb)
                  replace hFb := hFb.nil h11 (.func (.func 103) #[] fb)
                  replace h10 := boxed_off h10 B11 0 (.func (.func 103) #[] fb) (by omega)
                  replace h11 := h11.set (.func (.func 103) #[] fb)
                  clear c11 f11
                  generalize (v1.setCell ⟨B11, 0, none⟩ (.func (.func 103) #[] fb)) = v2 at *
                  refine hK'.out _ _ ⟨hH.1.c0, hH.2.1.c0⟩ (fun _ => wpAnyH_done (by kernel_rfl) ?_ _)
                  clear hK' K' hSd
                  go_wp2_with fail
                  have hfill := fill_any a d ca cd sizes U 54 #[.pointer (some ⟨w.heap.size, 0, none⟩), .pointer (some ⟨B10, 0, none⟩), .pointer (some ⟨w.heap.size + 1, 0, none⟩), .pointer (some ⟨B11, 0, none⟩)] (enters_of Tryz.func54 (by kernel_rfl) rfl) FL v2 (HS.out.below hH.2.2.2.2) hi HFI.out HUU.out HFL.out (fun k hk V hb => by
                    rw [HFG.out k hk]
                    have hk' : k < cnt (toN sizes) (toN U) := by rw [← HFL.out]; exact hk
                    have hB := hH.2.2.2.2.trans (hb.mono hH.2.2.2.2.size)
                    refine prod1_any w.heap.size B10 (w.heap.size + 1) B11 c c' cc cc' fa fb la lb k _ _ (HPA.out k hk') (HPB.out k hk') V (Nat.lt_of_lt_of_le hH.1.lt hb.size) ((hb.cell (p := ⟨w.heap.size, 1, none⟩) hH.1.lt).trans hH.1.c1) (Nat.lt_of_lt_of_le h10.lt hb.size) (boxed_keep h10 hb).cell (Nat.lt_of_lt_of_le hH.2.1.lt hb.size) ((hb.cell (p := ⟨w.heap.size + 1, 1, none⟩) hH.2.1.lt).trans hH.2.1.c1) (Nat.lt_of_lt_of_le h11.lt hb.size) (boxed_keep h11 hb).cell (HFA.out.below hB) (HFB.out.below hB) HWA.out HWB.out ?_ ?_
                    · intro V' hb'
                      have hb2 := hb.trans (hb'.mono hb.size)
                      exact (hFa.below hb2).calls (HS.out.below (hB.trans (hb'.mono hB.size))) (hi.below hb2) HFI.out HUU.out HUA.out hk'
                    · intro V' hb'
                      have hb2 := hb.trans (hb'.mono hb.size)
                      exact (hFb.below hb2).calls (HS.out.below (hB.trans (hb'.mono hB.size))) (hi.below hb2) HFI.out HUU.out HUB.out hk')
                  have HFILL := hid hfill
                  clear hfill
                  refine HFILL.out.mono ?_
                  rintro e w9 ⟨G, rfl, hG, hrow, hb9⟩
                  have hl9 := hH.2.2.1.lt
                  replace hH := hH.step hb9
                  replace hi := hi.below hb9
                  have hNR : NR w w9 w.heap.size (w.heap.size + 1 + 1) (.slice b va.length cb) (.slice c la.length cc) := ⟨hH.1, hH.2.2.1, hH.2.2.2.2⟩
                  obtain ⟨k0, k1, f0, f1⟩ := hH.2.2.1.facts
                  obtain ⟨e1, e2, e3⟩ := hNR.fin (by omega) (cb := cd) (cc := FL.length) hi hrow (by omega) (.slice d U.length cd) (.slice (some ⟨G, 0, none⟩) FL.length FL.length) rfl rfl
                  go_wp2
                  refine bodyPost_ret (e1.result2 rfl _ rfl) rfl ?_
                  exact ⟨e2, e3⟩
        · intro K' hK'
          (try simp only [List.getElem_toArray, List.getElem_cons_zero, List.getElem_cons_succ])
          go_simp
          have hb : Below u1.heap.size u1 (u1.alloc (.cells #[.nilFunc] 73)) := (Below.refl _ u1).alloc (Nat.le_refl _) _
          have h11 : Boxed (u1.alloc (.cells #[.nilFunc] 73)) u1.heap.size 73 .nilFunc := Boxed.new u1 _ _
          have w11 := hH.2.2.2.2.size
          have ne : B10 ≠ u1.heap.size := by have := h10.lt; omega
          replace hH := hH.step hb
          replace hi := hi.below hb
          replace h10 := boxed_keep h10 hb
          refine hK'.out _ _ ⟨hH.1.c0, hH.2.1.c0⟩ (fun hSe => ?_)
          clear hK' K' hSd
          have hSd := hSe
          clear hSe hb
          generalize (u1.alloc (.cells #[.nilFunc] 73)) = u2 at *
          generalize u1.heap.size = B11 at *
          (try simp only [List.getElem_toArray, List.getElem_cons_zero, List.getElem_cons_succ])
          (try simp only [Act.put, List.setIfInBounds_toArray, List.set_cons_zero, List.set_cons_succ])
          refine wpAnyH_ready (rs := [4]) (by kernel_rfl) (by simp) (AllReadyH.cons rfl ?_ (AllReadyH.nil))
          · intro K' hK'
            (try simp only [List.getElem_toArray, List.getElem_cons_zero, List.getElem_cons_succ])
            go_simp
            refine (HSTA.out _ d cd (HS.out.below hH.2.2.2.2) (HVA.out.below hH.2.2.2.2)).mono ?_
            rintro e u3 ⟨f, rfl, hFa, hb⟩
            obtain ⟨fa, rfl⟩ := hFa.shape
            replace hH := hH.step hb
            replace hi := hi.below hb
            replace h10 := boxed_keep h10 hb
            replace h11 := boxed_keep h11 hb
            refine hK'.out _ _ ⟨hH.1.c0, hH.2.1.c0⟩ (fun hSe => ?_)
            clear hK' K' hSd
            have hSd := hSe
            clear hSe hb
            generalize u2.heap.size = na at hFa
            generalize u3.heap.size = ma at hFa
            (try simp only [List.getElem_toArray, List.getElem_cons_zero, List.getElem_cons_succ])
            (try simp only [Act.put, List.setIfInBounds_toArray, List.set_cons_zero, List.set_cons_succ])
            refine wpAnyH_ready (rs := [9]) (by kernel_rfl) (by simp) (AllReadyH.cons rfl ?_ (AllReadyH.nil))
            · intro K' hK'
              (try simp only [List.getElem_toArray, List.getElem_cons_zero, List.getElem_cons_succ])
              go_simp
              refine (HSTB.out _ d cd (HS.out.below hH.2.2.2.2) (HVB.out.below hH.2.2.2.2)).mono ?_
              rintro e u4 ⟨f, rfl, hFb, hb⟩
              obtain ⟨fb, rfl⟩ := hFb.shape
              replace hH := hH.step hb
              replace hi := hi.below hb
              replace hFa := hFa.below hb
              replace h10 := boxed_keep h10 hb
              replace h11 := boxed_keep h11 hb
              refine hK'.out _ _ ⟨hH.1.c0, hH.2.1.c0⟩ (fun hSe => ?_)
              clear hK' K' hSd
              have hSd := hSe
              clear hSe hb
              generalize u3.heap.size = nb at hFb
              generalize u4.heap.size = mb at hFb
              (try simp only [List.getElem_toArray, List.getElem_cons_zero, List.getElem_cons_succ])
              (try simp only [Act.put, List.setIfInBounds_toArray, List.set_cons_zero, List.set_cons_succ])
              have c10 := h10.cell
              have f10 := h10.frozen
              refine wpAnyH_ready (rs := [12]) (by kernel_rfl) (by simp) (AllReadyH.cons rfl ?_ (AllReadyH.nil))
              · intro K' hK'
                (try simp only [List.getElem_toArray, List.getElem_cons_zero, List.getElem_cons_succ])
                go_simp
                replace hH := hH.nil (slv _ _ _) (slv _ _ _) h10 w10 (.func (.func 103) #[] fa)
                replace hi := intS_nil h10 hi (.func (.func 103) #[] fa)
                replace hFa := hFa.nil h10 (.func (.func 103) #[] fa)
                replace hFb := hFb.nil h10 (.func (.func 103) #[] fa)
                replace h11 := boxed_off h11 B10 0 (.func (.func 103) #[] fa) (by omega)
                replace h10 := h10.set (.func (.func 103) #[] fa)
                clear c10 f10
                generalize (u4.setCell ⟨B10, 0, none⟩ (.func (.func 103) #[] fa)) = v1 at *
                refine hK'.out _ _ ⟨hH.1.c0, hH.2.1.c0⟩ (fun hSe => ?_)
                clear hK' K' hSd
                have hSd := hSe
                clear hSe
                (try simp only [List.getElem_toArray, List.getElem_cons_zero, List.getElem_cons_succ])
                (try simp only [Act.put, List.setIfInBounds_toArray, List.set_cons_zero, List.set_cons_succ])
                have c11 := h11.cell
                have f11 := h11.frozen
                refine wpAnyH_ready (rs := [13]) (by kernel_rfl) (by simp) (AllReadyH.cons rfl ?_ (AllReadyH.nil))
                · intro K' hK'
                  (try simp only [List.getElem_toArray, List.getElem_cons_zero, List.getElem_cons_succ])
                  go_simp
                  replace hH := hH.nil (slv _ _ _) (slv _ _ _) h11 w11 (.func (.func 103) #[] fb)
                  replace hi := intS_nil h11 hi (.func (.func 103) #[] fb)
                  replace hFa := hFa.nil h11 (.func (.func 103) #[] fb)
                  replace hFb := hFb.nil h11 (.func (.func 103) #[] fb)
                  replace h10 := boxed_off h10 B11 0 (.func (.func 103) #[] fb) (by omega)
                  replace h11 := h11.set (.func (.func 103) #[] fb)
                  clear c11 f11
                  generalize (v1.setCell ⟨B11, 0, none⟩ (.func (.func 103) #[] fb)) = v2 at *
                  refine hK'.out _ _ ⟨hH.1.c0, hH.2.1.c0⟩ (fun _ => wpAnyH_done (by kernel_rfl) ?_ _)
                  clear hK' K' hSd
                  go_wp2_with fail
                  have hfill := fill_any a d ca cd sizes U 54 #[.pointer (some ⟨w.heap.size, 0, none⟩), .pointer (some ⟨B10, 0, none⟩), .pointer (some ⟨w.heap.size + 1, 0, none⟩), .pointer (some ⟨B11, 0, none⟩)] (enters_of Tryz.func54 (by kernel_rfl) rfl) FL v2 (HS.out.below hH.2.2.2.2) hi HFI.out HUU.out HFL.out (fun k hk V hb => by
                    rw [HFG.out k hk]
                    have hk' : k < cnt (toN sizes) (toN U) := by rw [← HFL.out]; exact hk
                    have hB := hH.2.2.2.2.trans (hb.mono hH.2.2.2.2.size)
                    refine prod1_any w.heap.size B10 (w.heap.size + 1) B11 c c' cc cc' fa fb la lb k _ _ (HPA.out k hk') (HPB.out k hk') V (Nat.lt_of_lt_of_le hH.1.lt hb.size) ((hb.cell (p := ⟨w.heap.size, 1, none⟩) hH.1.lt).trans hH.1.c1) (Nat.lt_of_lt_of_le h10.lt hb.size) (boxed_keep h10 hb).cell (Nat.lt_of_lt_of_le hH.2.1.lt hb.size) ((hb.cell (p := ⟨w.heap.size + 1, 1, none⟩) hH.2.1.lt).trans hH.2.1.c1) (Nat.lt_of_lt_of_le h11.lt hb.size) (boxed_keep h11 hb).cell (HFA.out.below hB) (HFB.out.below hB) HWA.out HWB.out ?_ ?_
                    · intro V' hb'
                      have hb2 := hb.trans (hb'.mono hb.size)
                      exact (hFa.below hb2).calls (HS.out.below (hB.trans (hb'.mono hB.size))) (hi.below hb2) HFI.out HUU.out HUA.out hk'
                    · intro V' hb'
                      have hb2 := hb.trans (hb'.mono hb.size)
                      exact (hFb.below hb2).calls (HS.out.below (hB.trans (hb'.mono hB.size))) (hi.below hb2) HFI.out HUU.out HUB.out hk')
                  have HFILL := hid hfill
                  clear hfill
                  refine HFILL.out.mono ?_
                  rintro e w9 ⟨G, rfl, hG, hrow, hb9⟩
                  have hl9 := hH.2.2.1.lt
                  replace hH := hH.step hb9
                  replace hi := hi.below hb9
                  have hNR : NR w w9 w.heap.size (w.heap.size + 1 + 1) (.slice b va.length cb) (.slice c la.length cc) := ⟨hH.1, hH.2.2.1, hH.2.2.2.2⟩
                  obtain ⟨k0, k1, f0, f1⟩ := hH.2.2.1.facts
                  obtain ⟨e1, e2, e3⟩ := hNR.fin (by omega) (cb := cd) (cc := FL.length) hi hrow (by omega) (.slice d U.length cd) (.slice (some ⟨G, 0, none⟩) FL.length FL.length) rfl rfl
                  go_wp2
                  refine bodyPost_ret (e1.result2 rfl _ rfl) rfl ?_
                  exact ⟨e2, e3⟩
      · intro K' hK'
        (try simp only [List.getElem_toArray, List.getElem_cons_zero, List.getElem_cons_succ])
        go_simp
        have hb : Below u0.heap.size u0 (u0.alloc (.cells #[.nilFunc] 73)) := (Below.refl _ u0).alloc (Nat.le_refl _) _
        have h11 : Boxed (u0.alloc (.cells #[.nilFunc] 73)) u0.heap.size 73 .nilFunc := Boxed.new u0 _ _
        have w11 := hH.2.2.2.2.size
        replace hH := hH.step hb
        replace hi := hi.below hb
        refine hK'.out _ _ ⟨hH.1.c0, hH.2.1.c0⟩ (fun hSe => ?_)
        clear hK' K' hSd
        have hSd := hSe
        clear hSe hb
        generalize (u0.alloc (.cells #[.nilFunc] 73)) = u1 at *
        generalize u0.heap.size = B11 at *
        (try simp only [List.getElem_toArray, List.getElem_cons_zero, List.getElem_cons_succ])
        (try simp only [Act.put, List.setIfInBounds_toArray, List.set_cons_zero, List.set_cons_succ])
        refine wpAnyH_ready (rs := [4, 10]) (by kernel_rfl) (by simp) (AllReadyH.cons rfl ?_ (AllReadyH.cons rfl ?_ (AllReadyH.nil)))
        · intro K' hK'
          (try simp only [List.getElem_toArray, List.getElem_cons_zero, List.getElem_cons_succ])
          go_simp
          refine (HSTA.out _ d cd (HS.out.below hH.2.2.2.2) (HVA.out.below hH.2.2.2.2)).mono ?_
          rintro e u2 ⟨f, rfl, hFa, hb⟩
          obtain ⟨fa, rfl⟩ := hFa.shape
          replace hH := hH.step hb
          replace hi := hi.below hb
          replace h11 := boxed_keep h11 hb
          refine hK'.out _ _ ⟨hH.1.c0, hH.2.1.c0⟩ (fun hSe => ?_)
          clear hK' K' hSd
          have hSd := hSe
          clear hSe hb
          generalize u1.heap.size = na at hFa
          generalize u2.heap.size = ma at hFa
          (try simp only [List.getElem_toArray, List.getElem_cons_zero, List.getElem_cons_succ])
          (try simp only [Act.put, List.setIfInBounds_toArray, List.set_cons_zero, List.set_cons_succ])
          refine wpAnyH_ready (rs := [9, 10]) (by kernel_rfl) (by simp) (AllReadyH.cons rfl ?_ (AllReadyH.cons rfl ?_ (AllReadyH.nil)))
          · intro K' hK'
            (try simp only [List.getElem_toArray, List.getElem_cons_zero, List.getElem_cons_succ])
            go_simp
            refine (HSTB.out _ d cd (HS.out.below hH.2.2.2.2) (HVB.out.below hH.2.2.2.2)).mono ?_
            rintro e u3 ⟨f, rfl, hFb, hb⟩
            obtain ⟨fb, rfl⟩ := hFb.shape
            replace hH := hH.step hb
            replace hi := hi.below hb
            replace hFa := hFa.below hb
            replace h11 := boxed_keep h11 hb
            refine hK'.out _ _ ⟨hH.1.c0, hH.2.1.c0⟩ (fun hSe => ?_)
            clear hK' K' hSd
            have hSd := hSe
            clear hSe hb
            generalize u2.heap.size = nb at hFb
            generalize u3.heap.size = mb at hFb
            (try simp only [List.getElem_toArray, List.getElem_cons_zero, List.getElem_cons_succ])
            (try simp only [Act.put, List.setIfInBounds_toArray, List.set_cons_zero, List.set_cons_succ])
            refine wpAnyH_ready (rs := [10]) (by kernel_rfl) (by simp) (AllReadyH.cons rfl ?_ (AllReadyH.nil))
            · intro K' hK'
              (try simp only [List.getElem_toArray, List.getElem_cons_zero, List.getElem_cons_succ])
              go_simp
              have hb : Below u3.heap.size u3 (u3.alloc (.cells #[.nilFunc] 73)) := (Below.refl _ u3).alloc (Nat.le_refl _) _
              have h10 : Boxed (u3.alloc (.cells #[.nilFunc] 73)) u3.heap.size 73 .nilFunc := Boxed.new u3 _ _
              have w10 := hH.2.2.2.2.size
              have ne : B11 ≠ u3.heap.size := by have := h11.lt; omega
              replace hH := hH.step hb
              replace hi := hi.below hb
              replace hFa := hFa.below hb
              replace hFb := hFb.below hb
              replace h11 := boxed_keep h11 hb
              refine hK'.out _ _ ⟨hH.1.c0, hH.2.1.c0⟩ (fun hSe => ?_)
              clear hK' K' hSd
              have hSd := hSe
              clear hSe hb
              generalize (u3.alloc (.cells #[.nilFunc] 73)) = u4 at *
              generalize u3.heap.size = B10 at *
              (try simp only [List.getElem_toArray, List.getElem_cons_zero, List.getElem_cons_succ])
              (try simp only [Act.put, List.setIfInBounds_toArray, List.set_cons_zero, List.set_cons_succ])
              have c10 := h10.cell
              have f10 := h10.frozen
              refine wpAnyH_ready (rs := [12]) (by kernel_rfl) (by simp) (AllReadyH.cons rfl ?_ (AllReadyH.nil))
              · intro K' hK'
                (try simp only [List.getElem_toArray, List.getElem_cons_zero, List.getElem_cons_succ])
                go_simp
                replace hH := hH.nil (slv _ _ _) (slv _ _ _) h10 w10 (.func (.func 103) #[] fa)
                replace hi := intS_nil h10 hi (.func (.func 103) #[] fa)
                replace hFa := hFa.nil h10 (.func (.func 103) #[] fa)
                replace hFb := hFb.nil h10 (.func (.func 103) #[] fa)
                replace h11 := boxed_off h11 B10 0 (.func (.func 103) #[] fa) (by omega)
                replace h10 := h10.set (.func (.func 103) #[] fa)
                clear c10 f10
                generalize (u4.setCell ⟨B10, 0, none⟩ (.func (.func 103) #[] fa)) = v1 at *
                refine hK'.out _ _ ⟨hH.1.c0, hH.2.1.c0⟩ (fun hSe => ?_)
                clear hK' K' hSd
                have hSd := hSe
                clear hSe
                (try simp only [List.getElem_toArray, List.getElem_cons_zero, List.getElem_cons_succ])
                (try simp only [Act.put, List.setIfInBounds_toArray, List.set_cons_zero, List.set_cons_succ])
                have c11 := h11.cell
                have f11 := h11.frozen
                refine wpAnyH_ready (rs := [13]) (by kernel_rfl) (by simp) (AllReadyH.cons rfl ?_ (AllReadyH.nil))
                · intro K' hK'
                  (try simp only [List.getElem_toArray, List.getElem_cons_zero, List.getElem_cons_succ])
                  go_simp
                  replace hH := hH.nil (slv _ _ _) (slv _ _ _) h11 w11 (.func (.func 103) #[] fb)
                  replace hi := intS_nil h11 hi (.func (.func 103) #[] fb)
                  replace hFa := hFa.nil h11 (.func (.func 103) #[] fb)
                  replace hFb := hFb.nil h11 (.func (.func 103) #[] fb)
                  replace h10 := boxed_off h10 B11 0 (.func (.func 103) #[] fb) (by omega)
                  replace h11 := h11.set (.func (.func 103) #[] fb)
                  clear c11 f11
                  generalize (v1.setCell ⟨B11, 0, none⟩ (.func (.func 103) #[] fb)) = v2 at *
                  refine hK'.out _ _ ⟨hH.1.c0, hH.2.1.c0⟩ (fun _ => wpAnyH_done (by kernel_rfl) ?_ _)
                  clear hK' K' hSd
                  go_wp2_with fail
                  have hfill := fill_any a d ca cd sizes U 54 #[.pointer (some ⟨w.heap.size, 0, none⟩), .pointer (some ⟨B10, 0, none⟩), .pointer (some ⟨w.heap.size + 1, 0, none⟩), .pointer (some ⟨B11, 0, none⟩)] (enters_of Tryz.func54 (by kernel_rfl) rfl) FL v2 (HS.out.below hH.2.2.2.2) hi HFI.out HUU.out HFL.out (fun k hk V hb => by
                    rw [HFG.out k hk]
                    have hk' : k < cnt (toN sizes) (toN U) := by rw [← HFL.out]; exact hk
                    have hB := hH.2.2.2.2.trans (hb.mono hH.2.2.2.2.size)
                    refine prod1_any w.heap.size B10 (w.heap.size + 1) B11 c c' cc cc' fa fb la lb k _ _ (HPA.out k hk') (HPB.out k hk') V (Nat.lt_of_lt_of_le hH.1.lt hb.size) ((hb.cell (p := ⟨w.heap.size, 1, none⟩) hH.1.lt).trans hH.1.c1) (Nat.lt_of_lt_of_le h10.lt hb.size) (boxed_keep h10 hb).cell (Nat.lt_of_lt_of_le hH.2.1.lt hb.size) ((hb.cell (p := ⟨w.heap.size + 1, 1, none⟩) hH.2.1.lt).trans hH.2.1.c1) (Nat.lt_of_lt_of_le h11.lt hb.size) (boxed_keep h11 hb).cell (HFA.out.below hB) (HFB.out.below hB) HWA.out HWB.out ?_ ?_
                    · intro V' hb'
                      have hb2 := hb.trans (hb'.mono hb.size)
                      exact (hFa.below hb2).calls (HS.out.below (hB.trans (hb'.mono hB.size))) (hi.below hb2) HFI.out HUU.out HUA.out hk'
                    · intro V' hb'
                      have hb2 := hb.trans (hb'.mono hb.size)
                      exact (hFb.below hb2).calls (HS.out.below (hB.trans (hb'.mono hB.size))) (hi.below hb2) HFI.out HUU.out HUB.out hk')
                  have HFILL := hid hfill
                  clear hfill
                  refine HFILL.out.mono ?_
                  rintro e w9 ⟨G, rfl, hG, hrow, hb9⟩
                  have hl9 := hH.2.2.1.lt
                  replace hH := hH.step hb9
                  replace hi := hi.below hb9
                  have hNR : NR w w9 w.heap.size (w.heap.size + 1 + 1) (.slice b va.length cb) (.slice c la.length cc) := ⟨hH.1, hH.2.2.1, hH.2.2.2.2⟩
                  obtain ⟨k0, k1, f0, f1⟩ := hH.2.2.1.facts
                  obtain ⟨e1, e2, e3⟩ := hNR.fin (by omega) (cb := cd) (cc := FL.length) hi hrow (by omega) (.slice d U.length cd) (.slice (some ⟨G, 0, none⟩) FL.length FL.length) rfl rfl
                  go_wp2
                  refine bodyPost_ret (e1.result2 rfl _ rfl) rfl ?_
                  exact ⟨e2, e3⟩
          · intro K' hK'
            (try simp only [List.getElem_toArray, List.getElem_cons_zero, List.getElem_cons_succ])
            go_simp
            have hb : Below u2.heap.size u2 (u2.alloc (.cells #[.nilFunc] 73)) := (Below.refl _ u2).alloc (Nat.le_refl _) _
            have h10 : Boxed (u2.alloc (.cells #[.nilFunc] 73)) u2.heap.size 73 .nilFunc := Boxed.new u2 _ _
            have w10 := hH.2.2.2.2.size
            have ne : B11 ≠ u2.heap.size := by have := h11.lt; omega
            replace hH := hH.step hb
            replace hi := hi.below hb
            replace hFa := hFa.below hb
            replace h11 := boxed_keep h11 hb
            refine hK'.out _ _ ⟨hH.1.c0, hH.2.1.c0⟩ (fun hSe => ?_)
            clear hK' K' hSd
            have hSd := hSe
            clear hSe hb
            generalize (u2.alloc (.cells #[.nilFunc] 73)) = u3 at *
            generalize u2.heap.size = B10 at *
            (try simp only [List.getElem_toArray, List.getElem_cons_zero, List.getElem_cons_succ])
            (try simp only [Act.put, List.setIfInBounds_toArray, List.set_cons_zero, List.set_cons_succ])
            refine wpAnyH_ready (rs := [9]) (by kernel_rfl) (by simp) (AllReadyH.cons rfl ?_ (AllReadyH.nil))
            · intro K' hK'
              (try simp only [List.getElem_toArray, List.getElem_cons_zero, List.getElem_cons_succ])
              go_simp
              refine (HSTB.out _ d cd (HS.out.below hH.2.2.2.2) (HVB.out.below hH.2.2.2.2)).mono ?_
              rintro e u4 ⟨f, rfl, hFb, hb⟩
              obtain ⟨fb, rfl⟩ := hFb.shape
              replace hH := hH.step hb
              replace hi := hi.below hb
              replace hFa := hFa.below hb
              replace h10 := boxed_keep h10 hb
              replace h11 := boxed_keep h11 hb
              refine hK'.out _ _ ⟨hH.1.c0, hH.2.1.c0⟩ (fun hSe => ?_)
              clear hK' K' hSd
              have hSd := hSe
              clear hSe hb
              generalize u3.heap.size = nb at hFb
              generalize u4.heap.size = mb at hFb
              (try simp only [List.getElem_toArray, List.getElem_cons_zero, List.getElem_cons_succ])
              (try simp only [Act.put, List.setIfInBounds_toArray, List.set_cons_zero, List.set_cons_succ])
              have c10 := h10.cell
              have f10 := h10.frozen
              refine wpAnyH_ready (rs := [12]) (by kernel_rfl) (by simp) (AllReadyH.cons rfl ?_ (AllReadyH.nil))
              · intro K' hK'
                (try simp only [List.getElem_toArray, List.getElem_cons_zero, List.getElem_cons_succ])
                go_simp
                replace hH := hH.nil (slv _ _ _) (slv _ _ _) h10 w10 (.func (.func 103) #[] fa)
                replace hi := intS_nil h10 hi (.func (.func 103) #[] fa)
                replace hFa := hFa.nil h10 (.func (.func 103) #[] fa)
                replace hFb := hFb.nil h10 (.func (.func 103) #[] fa)
                replace h11 := boxed_off h11 B10 0 (.func (.func 103) #[] fa) (by omega)
                replace h10 := h10.set (.func (.func 103) #[] fa)
                clear c10 f10
                generalize (u4.setCell ⟨B10, 0, none⟩ (.func (.func 103) #[] fa)) = v1 at *
                refine hK'.out _ _ ⟨hH.1.c0, hH.2.1.c0⟩ (fun hSe => ?_)
                clear hK' K' hSd
                have hSd := hSe
                clear hSe
                (try simp only [List.getElem_toArray, List.getElem_cons_zero, List.getElem_cons_succ])
                (try simp only [Act.put, List.setIfInBounds_toArray, List.set_cons_zero, List.set_cons_succ])
                have c11 := h11.cell
                have f11 := h11.frozen
                refine wpAnyH_ready (rs := [13]) (by kernel_rfl) (by simp) (AllReadyH.cons rfl ?_ (AllReadyH.nil))
                · intro K' hK'
                  (try simp only [List.getElem_toArray, List.getElem_cons_zero, List.getElem_cons_succ])
                  go_simp
                  replace hH := hH.nil (slv _ _ _) (slv _ _ _) h11 w11 (.func (.func 103) #[] fb)
                  replace hi := intS_nil h11 hi (.func (.func 103) #[] fb)
                  replace hFa := hFa.nil h11 (.func (.func 103) #[] fb)
                  replace hFb := hFb.nil h11 (.func (.func 103) #[] fb)
                  replace h10 := boxed_off h10 B11 0 (.func (.func 103) #[] fb) (by omega)
                  replace h11 := h11.set (.func (.func 103) #[] fb)
                  clear c11 f11
                  generalize (v1.setCell ⟨B11, 0, none⟩ (.func (.func 103) #[] fb)) = v2 at *
                  refine hK'.out _ _ ⟨hH.1.c0, hH.2.1.c0⟩ (fun _ => wpAnyH_done (by kernel_rfl) ?_ _)
                  clear hK' K' hSd
                  go_wp2_with fail
                  have hfill := fill_any a d ca cd sizes U 54 #[.pointer (some ⟨w.heap.size, 0, none⟩), .pointer (some ⟨B10, 0, none⟩), .pointer (some ⟨w.heap.size + 1, 0, none⟩), .pointer (some ⟨B11, 0, none⟩)] (enters_of Tryz.func54 (by kernel_rfl) rfl) FL v2 (HS.out.below hH.2.2.2.2) hi HFI.out HUU.out HFL.out (fun k hk V hb => by
                    rw [HFG.out k hk]
                    have hk' : k < cnt (toN sizes) (toN U) := by rw [← HFL.out]; exact hk
                    have hB := hH.2.2.2.2.trans (hb.mono hH.2.2.2.2.size)
                    refine prod1_any w.heap.size B10 (w.heap.size + 1) B11 c c' cc cc' fa fb la lb k _ _ (HPA.out k hk') (HPB.out k hk') V (Nat.lt_of_lt_of_le hH.1.lt hb.size) ((hb.cell (p := ⟨w.heap.size, 1, none⟩) hH.1.lt).trans hH.1.c1) (Nat.lt_of_lt_of_le h10.lt hb.size) (boxed_keep h10 hb).cell (Nat.lt_of_lt_of_le hH.2.1.lt hb.size) ((hb.cell (p := ⟨w.heap.size + 1, 1, none⟩) hH.2.1.lt).trans hH.2.1.c1) (Nat.lt_of_lt_of_le h11.lt hb.size) (boxed_keep h11 hb).cell (HFA.out.below hB) (HFB.out.below hB) HWA.out HWB.out ?_ ?_
                    · intro V' hb'
                      have hb2 := hb.trans (hb'.mono hb.size)
                      exact (hFa.below hb2).calls (HS.out.below (hB.trans (hb'.mono hB.size))) (hi.below hb2) HFI.out HUU.out HUA.out hk'
                    · intro V' hb'
                      have hb2 := hb.trans (hb'.mono hb.size)
                      exact (hFb.below hb2).calls (HS.out.below (hB.trans (hb'.mono hB.size))) (hi.below hb2) HFI.out HUU.out HUB.out hk')
                  have HFILL := hid hfill
                  clear hfill
                  refine HFILL.out.mono ?_
                  rintro e w9 ⟨G, rfl, hG, hrow, hb9⟩
                  have hl9 := hH.2.2.1.lt
                  replace hH := hH.step hb9
                  replace hi := hi.below hb9
                  have hNR : NR w w9 w.heap.size (w.heap.size + 1 + 1) (.slice b va.length cb) (.slice c la.length cc) := ⟨hH.1, hH.2.2.1, hH.2.2.2.2⟩
                  obtain ⟨k0, k1, f0, f1⟩ := hH.2.2.1.facts
                  obtain ⟨e1, e2, e3⟩ := hNR.fin (by omega) (cb := cd) (cc := FL.length) hi hrow (by omega) (.slice d U.length cd) (.slice (some ⟨G, 0, none⟩) FL.length FL.length) rfl rfl
                  go_wp2
                  refine bodyPost_ret (e1.result2 rfl _ rfl) rfl ?_
                  exact ⟨e2, e3⟩
        · intro K' hK'
          (try simp only [List.getElem_toArray, List.getElem_cons_zero, List.getElem_cons_succ])
          go_simp
          have hb : Below u1.heap.size u1 (u1.alloc (.cells #[.nilFunc] 73)) := (Below.refl _ u1).alloc (Nat.le_refl _) _
          have h10 : Boxed (u1.alloc (.cells #[.nilFunc] 73)) u1.heap.size 73 .nilFunc := Boxed.new u1 _ _
          have w10 := hH.2.2.2.2.size
          have ne : B11 ≠ u1.heap.size := by have := h11.lt; omega
          replace hH := hH.step hb
          replace hi := hi.below hb
          replace h11 := boxed_keep h11 hb
          refine hK'.out _ _ ⟨hH.1.c0, hH.2.1.c0⟩ (fun hSe => ?_)
          clear hK' K' hSd
          have hSd := hSe
          clear hSe hb
          generalize (u1.alloc (.cells #[.nilFunc] 73)) = u2 at *
          generalize u1.heap.size = B10 at *
          (try simp only [List.getElem_toArray, List.getElem_cons_zero, List.getElem_cons_succ])
          (try simp only [Act.put, List.setIfInBounds_toArray, List.set_cons_zero, List.set_cons_succ])
          refine wpAnyH_ready (rs := [4]) (by kernel_rfl) (by simp) (AllReadyH.cons rfl ?_ (AllReadyH.nil))
          · intro K' hK'
            (try simp only [List.getElem_toArray, List.getElem_cons_zero, List.getElem_cons_succ])
            go_simp
            refine (HSTA.out _ d cd (HS.out.below hH.2.2.2.2) (HVA.out.below hH.2.2.2.2)).mono ?_
            rintro e u3 ⟨f, rfl, hFa, hb⟩
            obtain ⟨fa, rfl⟩ := hFa.shape
            replace hH := hH.step hb
            replace hi := hi.below hb
            replace h10 := boxed_keep h10 hb
            replace h11 := boxed_keep h11 hb
            refine hK'.out _ _ ⟨hH.1.c0, hH.2.1.c0⟩ (fun hSe => ?_)
            clear hK' K' hSd
            have hSd := hSe
            clear hSe hb
            generalize u2.heap.size = na at hFa
            generalize u3.heap.size = ma at hFa
            (try simp only [List.getElem_toArray, List.getElem_cons_zero, List.getElem_cons_succ])
            (try simp only [Act.put, List.setIfInBounds_toArray, List.set_cons_zero, List.set_cons_succ])
            refine wpAnyH_ready (rs := [9]) (by kernel_rfl) (by simp) (AllReadyH.cons rfl ?_ (AllReadyH.nil))
            · intro K' hK'
              (try simp only [List.getElem_toArray, List.getElem_cons_zero, List.getElem_cons_succ])
              go_simp
              refine (HSTB.out _ d cd (HS.out.below hH.2.2.2.2) (HVB.out.below hH.2.2.2.2)).mono ?_
              rintro e u4 ⟨f, rfl, hFb, hb⟩
              obtain ⟨fb, rfl⟩ := hFb.shape
              replace hH := hH.step hb
              replace hi := hi.below hb
              replace hFa := hFa.below hb
              replace h10 := boxed_keep h10 hb
              replace h11 := boxed_keep h11 hb
              refine hK'.out _ _ ⟨hH.1.c0, hH.2.1.c0⟩ (fun hSe => ?_)
              clear hK' K' hSd
              have hSd := hSe
              clear hSe hb
              generalize u3.heap.size = nb at hFb
              generalize u4.heap.size = mb at hFb
              (try simp only [List.getElem_toArray, List.getElem_cons_zero, List.getElem_cons_succ])
              (try simp only [Act.put, List.setIfInBounds_toArray, List.set_cons_zero, List.set_cons_succ])
              have c10 := h10.cell
              have f10 := h10.frozen
              refine wpAnyH_ready (rs := [12]) (by kernel_rfl) (by simp) (AllReadyH.cons rfl ?_ (AllReadyH.nil))
              · intro K' hK'
                (try simp only [List.getElem_toArray, List.getElem_cons_zero, List.getElem_cons_succ])
                go_simp
                replace hH := hH.nil (slv _ _ _) (slv _ _ _) h10 w10 (.func (.func 103) #[] fa)
                replace hi := intS_nil h10 hi (.func (.func 103) #[] fa)
                replace hFa := hFa.nil h10 (.func (.func 103) #[] fa)
                replace hFb := hFb.nil h10 (.func (.func 103) #[] fa)
                replace h11 := boxed_off h11 B10 0 (.func (.func 103) #[] fa) (by omega)
                replace h10 := h10.set (.func (.func 103) #[] fa)
                clear c10 f10
                generalize (u4.setCell ⟨B10, 0, none⟩ (.func (.func 103) #[] fa)) = v1 at *
                refine hK'.out _ _ ⟨hH.1.c0, hH.2.1.c0⟩ (fun hSe => ?_)
                clear hK' K' hSd
                have hSd := hSe
                clear hSe
                (try simp only [List.getElem_toArray, List.getElem_cons_zero, List.getElem_cons_succ])
                (try simp only [Act.put, List.setIfInBounds_toArray, List.set_cons_zero, List.set_cons_succ])
                have c11 := h11.cell
                have f11 := h11.frozen
                refine wpAnyH_ready (rs := [13]) (by kernel_rfl) (by simp) (AllReadyH.cons rfl ?_ (AllReadyH.nil))
                · intro K' hK'
                  (try simp only [List.getElem_toArray, List.getElem_cons_zero, List.getElem_cons_succ])
                  go_simp
                  replace hH := hH.nil (slv _ _ _) (slv _ _ _) h11 w11 (.func (.func 103) #[] fb)
                  replace hi := intS_nil h11 hi (.func (.func 103) #[] fb)
                  replace hFa := hFa.nil h11 (.func (.func 103) #[] fb)
                  replace hFb := hFb.nil h11 (.func (.func 103) #[] fb)
                  replace h10 := boxed_off h10 B11 0 (.func (.func 103) #[] fb) (by omega)
                  replace h11 := h11.set (.func (.func 103) #[] fb)
                  clear c11 f11
                  generalize (v1.setCell ⟨B11, 0, none⟩ (.func (.func 103) #[] fb)) = v2 at *
                  refine hK'.out _ _ ⟨hH.1.c0, hH.2.1.c0⟩ (fun _ => wpAnyH_done (by kernel_rfl) ?_ _)
                  clear hK' K' hSd
                  go_wp2_with fail
                  have hfill := fill_any a d ca cd sizes U 54 #[.pointer (some ⟨w.heap.size, 0, none⟩), .pointer (some ⟨B10, 0, none⟩), .pointer (some ⟨w.heap.size + 1, 0, none⟩), .pointer (some ⟨B11, 0, none⟩)] (enters_of Tryz.func54 (by kernel_rfl) rfl) FL v2 (HS.out.below hH.2.2.2.2) hi HFI.out HUU.out HFL.out (fun k hk V hb => by
                    rw [HFG.out k hk]
                    have hk' : k < cnt (toN sizes) (toN U) := by rw [← HFL.out]; exact hk
                    have hB := hH.2.2.2.2.trans (hb.mono hH.2.2.2.2.size)
                    refine prod1_any w.heap.size B10 (w.heap.size + 1) B11 c c' cc cc' fa fb la lb k _ _ (HPA.out k hk') (HPB.out k hk') V (Nat.lt_of_lt_of_le hH.1.lt hb.size) ((hb.cell (p := ⟨w.heap.size, 1, none⟩) hH.1.lt).trans hH.1.c1) (Nat.lt_of_lt_of_le h10.lt hb.size) (boxed_keep h10 hb).cell (Nat.lt_of_lt_of_le hH.2.1.lt hb.size) ((hb.cell (p := ⟨w.heap.size + 1, 1, none⟩) hH.2.1.lt).trans hH.2.1.c1) (Nat.lt_of_lt_of_le h11.lt hb.size) (boxed_keep h11 hb).cell (HFA.out.below hB) (HFB.out.below hB) HWA.out HWB.out ?_ ?_
                    · intro V' hb'
                      have hb2 := hb.trans (hb'.mono hb.size)
                      exact (hFa.below hb2).calls (HS.out.below (hB.trans (hb'.mono hB.size))) (hi.below hb2) HFI.out HUU.out HUA.out hk'
                    · intro V' hb'
                      have hb2 := hb.trans (hb'.mono hb.size)
                      exact (hFb.below hb2).calls (HS.out.below (hB.trans (hb'.mono hB.size))) (hi.below hb2) HFI.out HUU.out HUB.out hk')
                  have HFILL := hid hfill
                  clear hfill
                  refine HFILL.out.mono ?_
                  rintro e w9 ⟨G, rfl, hG, hrow, hb9⟩
                  have hl9 := hH.2.2.1.lt
                  replace hH := hH.step hb9
                  replace hi := hi.below hb9
                  have hNR : NR w w9 w.heap.size (w.heap.size + 1 + 1) (.slice b va.length cb) (.slice c la.length cc) := ⟨hH.1, hH.2.2.1, hH.2.2.2.2⟩
                  obtain ⟨k0, k1, f0, f1⟩ := hH.2.2.1.facts
                  obtain ⟨e1, e2, e3⟩ := hNR.fin (by omega) (cb := cd) (cc := FL.length) hi hrow (by omega) (.slice d U.length cd) (.slice (some ⟨G, 0, none⟩) FL.length FL.length) rfl rfl
                  go_wp2
                  refine bodyPost_ret (e1.result2 rfl _ rfl) rfl ?_
                  exact ⟨e2, e3⟩
end Go.Proofs.YtknlhejhnopnaaaGreatDoor
