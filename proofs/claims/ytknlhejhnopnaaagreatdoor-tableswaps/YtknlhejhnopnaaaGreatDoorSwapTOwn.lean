/- The law's tables: what Out and Product answer there, and that the orders agree. -/
import Derived.Test.YtknlhejhnopnaaaGreatDoorSwapNToRtA
import Derived.Test.YtknlhejhnopnaaaGreatDoorRtDOwn
import Derived.Test.YtknlhejhnopnaaaGreatDoorSliBToTogB
namespace Go.Proofs.YtknlhejhnopnaaaGreatDoor
open Go.RowKit Go.Shelf

/-- Sizes of the law. -/
structure Sz3 (sizes : List Int) : Prop where
  fine : Fine sizes
  three : ∀ i (h : i < sizes.length), sizes[i] ≤ 3
  many : 3 ≤ sizes.length
  few : sizes.length ≤ 5
theorem Sz3.sz {sizes : List Int} (h : Sz3 sizes) (v : Nat) : sz (toN sizes) v ≤ 3 := by
  by_cases hv : v < sizes.length
  · have := h.fine.sz_eq hv
    have := h.three v hv
    omega
  · rw [Go.Proofs.YtknlhejhnopnaaaGreatDoor.sz, List.getElem?_eq_none (by rw [toN_length]; omega)]; simp
/-- A table of the law. -/
structure TL (sizes vars : List Int) (l : List Fr) (s : Nat) : Prop where
  up : Up vars sizes.length
  len : l.length = cnt (toN sizes) (toN vars)
  sml : Sml s l
theorem TL.check {sizes vars : List Int} {l : List Fr} {s : Nat} (h : TL sizes vars l s) (hs : Sz3 sizes) : checkA sizes vars l.length = 0 := checkA_yes (countB_of hs.fine h.up) h.len
theorem cnt_few {sizes vars : List Int} (hs : Sz3 sizes) (h : Up vars sizes.length) : cnt (toN sizes) (toN vars) ≤ 243 := by
  have h1 := cnt_three hs.sz (toN vars)
  have h2 := h.length
  have h3 := hs.few
  rw [toN_length] at h1
  exact Nat.le_trans h1 (Nat.pow_le_pow_right (by decide) (show vars.length ≤ 5 by omega))
theorem TL.few {sizes vars : List Int} {l : List Fr} {s : Nat} (h : TL sizes vars l s) (hs : Sz3 sizes) : l.length ≤ 243 := by rw [h.len]; exact cnt_few hs h.up
theorem TL.fw {sizes vars : List Int} {l : List Fr} {s : Nat} (h : TL sizes vars l s) (hs : Sz3 sizes) (hS : s ≤ 30) : fw l ≤ 8192 := by
  have h1 := h.sml.fw
  have h2 := Nat.mul_le_mul (show s + 2 ≤ 32 by omega) (h.few hs)
  omega
theorem TL.out {sizes vars : List Int} {l : List Fr} {s : Nat} (h : TL sizes vars l s) (hs : Sz3 sizes) (v : Nat) (most : Bool) : TL sizes (lessN vars v) (outL (toN sizes) (toN vars) (toN (lessN vars (v : Int))) v most l) (10 * s + 3) :=
  ⟨lessN_up h.up _, outL_length _ _ _ _ _ _, h.sml.out hs.fine.pos h.len (hs.sz v) most⟩
theorem TL.prod {sizes va vb : List Int} {la lb : List Fr} {s t : Nat} (ha : TL sizes va la s) (hb : TL sizes vb lb t) (hs : Sz3 sizes) : TL sizes (togL va vb) (prodL (toN sizes) (toN va) (toN vb) (toN (togL va vb)) la lb) (s + t) :=
  ⟨togL_up ha.up hb.up, prodL_length _ _ _ _ _ _, ha.sml.prod hb.sml hs.fine.pos ha.len hb.len⟩
/-- What Out answers. -/
def OC (a : Option Addr) (ca : Nat) (sizes V : List Int) (L : List Fr) (v : Int) (most : Bool) (V' : List Int) (L' : List Fr) (k : Int) : Prop :=
  ∀ (W : World) (b c : Option Addr) (cb cc : Nat), IntS W a sizes → IntS W b V → FrS W c L → Calls Tryz.prog 20 #[.slice a sizes.length ca, .agg #[.slice b V.length cb, .slice c L.length cc], .int .i64 v, .bool most] W fun e w' => TabA V' L' k e w' ∧ Below W.heap.size W w'
/-- What Product answers. -/
def PC (a : Option Addr) (ca : Nat) (sizes V : List Int) (L : List Fr) (U : List Int) (M : List Fr) (V' : List Int) (L' : List Fr) : Prop :=
  ∀ (W : World) (b c b' c' : Option Addr) (cb cc cb' cc' : Nat), IntS W a sizes → IntS W b V → FrS W c L → IntS W b' U → FrS W c' M → (b = none → cb = 0) → (b' = none → cb' = 0) →
    Calls Tryz.prog 17 #[.slice a sizes.length ca, .agg #[.slice b V.length cb, .slice c L.length cc], .agg #[.slice b' U.length cb', .slice c' M.length cc']] W fun e w' => TabA V' L' 0 e w' ∧ Below W.heap.size W w'
theorem up_len {vars sizes : List Int} (h : Up vars sizes.length) (hs : Sz3 sizes) : vars.length ≤ 140737488355328 := by have := h.length; have := hs.few; omega
theorem sz_len {sizes : List Int} (hs : Sz3 sizes) : sizes.length ≤ 140737488355328 := by have := hs.few; omega
theorem oc_yes {sizes vars : List Int} {l : List Fr} {s : Nat} (h : TL sizes vars l s) (hs : Sz3 sizes) (hS : s ≤ 30) (a : Option Addr) (ca : Nat) {v : Nat} (hv : (v : Int) ∈ vars) (most : Bool) :
    OC a ca sizes vars l v most (lessN vars v) (outL (toN sizes) (toN vars) (toN (lessN vars (v : Int))) v most l) 0 := by
  intro W b c cb cc h1 h2 h3
  have hc : vars.contains (v : Int) = true := by simpa using hv
  have hlt : v < sizes.length := by have := (up_iff.1 h.up).1 _ hv; omega
  cases most with
  | false => exact tOut_sums a b c ca cb cc sizes vars l v W h1 h2 h3 (sz_len hs) (up_len h.up hs) (h.check hs) (h.fw hs hS) hc hlt
  | true => exact tOut_most a b c ca cb cc sizes vars l v W h1 h2 h3 (sz_len hs) (up_len h.up hs) (h.check hs) (h.fw hs hS) hc hlt
theorem oc_no {sizes vars : List Int} {l : List Fr} {s : Nat} (h : TL sizes vars l s) (hs : Sz3 sizes) (a : Option Addr) (ca : Nat) {v : Int} (hv : ¬ v ∈ vars) (most : Bool) : OC a ca sizes vars l v most [] [] 11 := by
  intro W b c cb cc h1 h2 h3
  exact tOut_var a b c ca cb cc l.length sizes vars v most W h1 h2 (sz_len hs) (up_len h.up hs) (h.check hs) (by simpa using hv)
theorem pc_yes {sizes va vb : List Int} {la lb : List Fr} {s t : Nat} (ha : TL sizes va la s) (hb : TL sizes vb lb t) (hs : Sz3 sizes) (hS : s ≤ 30) (hT : t ≤ 30) (a : Option Addr) (ca : Nat) :
    PC a ca sizes va la vb lb (togL va vb) (prodL (toN sizes) (toN va) (toN vb) (toN (togL va vb)) la lb) := by
  intro W b c b' c' cb cc cb' cc' h1 h2 h3 h4 h5 h6 h7
  exact tProd_yes a b c b' c' ca cb cc cb' cc' sizes va vb la lb W h1 h2 h4 h3 h5 (sz_len hs) (up_len ha.up hs) (up_len hb.up hs) h6 h7 (ha.check hs) (hb.check hs) (Nat.le_trans (ha.fw hs hS) (by decide)) (Nat.le_trans (hb.fw hs hT) (by decide))

theorem lessN_comm (l : List Int) (u v : Int) : lessN (lessN l u) v = lessN (lessN l v) u := by
  rw [lessN, lessN, lessN, lessN, List.filter_filter, List.filter_filter]
  exact List.filter_congr fun x _ => Bool.and_comm _ _
theorem mem_less {l : List Int} {x v : Int} : x ∈ lessN l v ↔ x ∈ l ∧ x ≠ v := by simp [lessN]
theorem less_in {vars : List Int} {n : Nat} (h : Up vars n) (u : Nat) : ∀ x ∈ toN vars, x = u ∨ x ∈ toN (lessN vars (u : Int)) := by
  intro x hx
  obtain ⟨y, hy, rfl⟩ := List.mem_map.1 hx
  have h1 := (up_iff.1 h).1 y hy
  by_cases e : y = (u : Int)
  · left; omega
  · exact .inr (List.mem_map.2 ⟨y, mem_less.2 ⟨hy, e⟩, rfl⟩)
theorem toN_sub {va vb : List Int} (h : ∀ x ∈ va, x ∈ vb) : ∀ x ∈ toN va, x ∈ toN vb := by
  intro x hx
  obtain ⟨y, hy, rfl⟩ := List.mem_map.1 hx
  exact List.mem_map.2 ⟨y, h y hy, rfl⟩
theorem togL_sub {va vb : List Int} {n : Nat} (hb : Up vb n) (h : ∀ x ∈ va, x ∈ vb) : togL va vb = vb :=
  rise_extI (togL_rise va vb).1 (up_iff.1 hb).2 fun x => by rw [(togL_rise va vb).2]; exact ⟨fun e => e.elim (h x) id, .inr⟩
theorem togL_sub' {va vb : List Int} {n : Nat} (hb : Up vb n) (h : ∀ x ∈ va, x ∈ vb) : togL vb va = vb :=
  rise_extI (togL_rise vb va).1 (up_iff.1 hb).2 fun x => by rw [(togL_rise vb va).2]; exact ⟨fun e => e.elim id (h x), .inl⟩
theorem out_len {S vars rest : List Nat} {v : Nat} {most : Bool} {l : List Fr} (h : cnt S rest ≤ 243) : (outL S vars rest v most l).length ≤ 100000 := by rw [outL_length]; omega

theorem up_short {sizes V : List Int} (hs : Sz3 sizes) (h : Up V sizes.length) : V.length ≤ 100000 := by have := h.length; have := hs.few; omega
/-- Two variables, in either order. -/
theorem swap_outs {sizes vars : List Int} {l : List Fr} (hs : Sz3 sizes) (h : TL sizes vars l 2) (a : Option Addr) (ca : Nat) {u v : Nat} (hu : (u : Int) ∈ vars) (hv : (v : Int) ∈ vars) (most : Bool) :
    ∃ (V1 V2 V3 : List Int) (L1 L2 L3 : List Fr) (k : Int), OC a ca sizes vars l u most V1 L1 0 ∧ OC a ca sizes vars l v most V2 L2 0 ∧ OC a ca sizes V1 L1 v most V3 L3 k ∧ OC a ca sizes V2 L2 u most V3 L3 k ∧ ((k = 0) ↔ ¬ u = v) ∧ V3.length ≤ 100000 ∧ L3.length ≤ 100000 := by
  have h1 := h.out hs u most
  have h2 := h.out hs v most
  by_cases e : u = v
  · subst e
    have hn : ¬ (u : Int) ∈ lessN vars u := fun h => (mem_less.1 h).2 rfl
    exact ⟨_, _, [], _, _, [], 11, oc_yes h hs (by decide) a ca hu most, oc_yes h hs (by decide) a ca hv most, oc_no h1 hs a ca hn most, oc_no h2 hs a ca hn most, ⟨fun h => by omega, fun h => absurd rfl h⟩, by simp, by simp⟩
  · have m1 : (v : Int) ∈ lessN vars u := mem_less.2 ⟨hv, by omega⟩
    have m2 : (u : Int) ∈ lessN vars v := mem_less.2 ⟨hu, by omega⟩
    have c2 := oc_yes h2 hs (by decide) a ca m2 most
    rw [lessN_comm vars v u, ← out_swap hs.fine.pos e h1.up.nodup h2.up.nodup (less_in h.up u) (less_in h.up v) most l] at c2
    have h3 := h1.out hs v most
    exact ⟨_, _, _, _, _, _, 0, oc_yes h hs (by decide) a ca hu most, oc_yes h hs (by decide) a ca hv most, oc_yes h1 hs (by decide) a ca m1 most, c2, ⟨fun _ => e, fun _ => rfl⟩, up_short hs h3.up, by have := h3.few hs; omega⟩
/-- What has nothing of a variable, out of the sum. -/
theorem swap_prods {sizes va vb : List Int} {la lb : List Fr} (hs : Sz3 sizes) (ha : TL sizes va la 2) (hb : TL sizes vb lb 2) (a : Option Addr) (ca : Nat) {v : Nat} (hv : (v : Int) ∈ vb) (hva : ¬ (v : Int) ∈ va) (hab : ∀ x ∈ va, x ∈ vb) :
    ∃ (VP VQ V3 : List Int) (LP LQ L3 : List Fr), PC a ca sizes va la vb lb VP LP ∧ OC a ca sizes VP LP v false V3 L3 0 ∧ OC a ca sizes vb lb v false VQ LQ 0 ∧ PC a ca sizes va la VQ LQ V3 L3 ∧ PC a ca sizes vb lb va la VP LP ∧ VQ = lessN vb v ∧ (VP.length ≤ 100000 ∧ LP.length ≤ 100000) ∧ V3.length ≤ 100000 ∧ L3.length ≤ 100000 := by
  have hq := hb.out hs v false
  have hab' : ∀ x ∈ va, x ∈ lessN vb (v : Int) := fun x hx => mem_less.2 ⟨hab x hx, fun e => hva (by rw [← e]; exact hx)⟩
  have hnv : ¬ v ∈ toN va := fun h => by
    obtain ⟨y, hy, e⟩ := List.mem_map.1 h
    have h1 := (up_iff.1 ha.up).1 y hy
    obtain rfl : y = (v : Int) := by omega
    exact hva hy
  have p1 := pc_yes ha hb hs (by decide) (by decide) a ca
  have p2 := pc_yes hb ha hs (by decide) (by decide) a ca
  have p3 := pc_yes ha hq hs (by decide) (by decide) a ca
  have tP := ha.prod hb hs
  rw [togL_sub hb.up hab] at p1 tP
  rw [togL_sub' hb.up hab, prod_comm] at p2
  rw [togL_sub hq.up hab'] at p3
  have o1 := oc_yes tP hs (by decide) a ca hv false
  rw [out_prod hs.fine.pos hb.up.nodup hq.up.nodup (toN_sub hab) (fun _ h => h) (less_in hb.up v) hnv la lb] at o1
  refine ⟨_, _, _, _, _, _, p1, o1, oc_yes hb hs (by decide) a ca hv false, p3, p2, rfl, ⟨up_short hs hb.up, by have := tP.few hs; omega⟩, up_short hs hq.up, ?_⟩
  have := cnt_few hs hq.up
  rw [prodL_length]
  omega
end Go.Proofs.YtknlhejhnopnaaaGreatDoor
