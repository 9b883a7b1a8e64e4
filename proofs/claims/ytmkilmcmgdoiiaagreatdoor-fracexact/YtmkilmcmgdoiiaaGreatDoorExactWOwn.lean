/- The law FracExact answers true: package frac answers as the document's answer does. -/
import Derived.Test.YtmkilmcmgdoiiaaGreatDoorSumAToNumC
import Derived.Test.YtmkilmcmgdoiiaaGreatDoorRefTOwn
import Derived.Test.YtmkilmcmgdoiiaaGreatDoorTextCToFracT
namespace Go.Proofs.YtmkilmcmgdoiiaaGreatDoor
open Go.RowKit
open Go.Lib hiding intOf

theorem both_DivF (na nb : Bool) (xa ya xb yb : ByteArray) (ha : xa.size + ya.size ≤ 1000) (hb : xb.size + yb.size ≤ 1000) : ∃ (n : Bool) (x y : ByteArray) (k : Int),
    (∀ V : World, Calls Tryz.prog 29 #[.agg #[.bool na, .string xa, .string ya], .agg #[.bool nb, .string xb, .string yb]] V fun e w' => e = .returned (.tuple #[.agg #[.bool n, .string x, .string y], .int .i64 k]) ∧ Below V.heap.size V w') ∧
    (∀ V : World, Calls Tryz.prog 30 #[.agg #[.bool na, .string xa, .string ya], .agg #[.bool nb, .string xb, .string yb]] V fun e w' => e = .returned (.tuple #[.agg #[.bool n, .string x, .string y], .int .i64 k]) ∧ Below V.heap.size V w') ∧
    ∀ V : World, Calls Tryz.prog 33 #[.agg #[.bool n, .string x, .string y], .int .i64 k, .agg #[.bool n, .string x, .string y], .int .i64 k] V fun e w' => e = .returned (.bool true) ∧ Below V.heap.size V w' := by
  by_cases h : val nb xb yb = 0
  · exact ⟨false, ⟨#[]⟩, ⟨#[]⟩, 3, fun V => fDiv_z h, fun V => rDivF_no na nb xa ya xb yb V h (by omega), fun V => oneFrac_err 3 (by decide) V⟩
  · exact ⟨_, _, _, 0, fun V => fDiv_q _ rfl rfl h rfl (by omega) (by omega), fun V => rDivF_yes na nb xa ya xb yb V h (by omega) (by omega), fun V => oneFrac_ok _ _ _ V⟩
theorem both_ParseF (s : ByteArray) (m : Int) (hs : s.size ≤ 1000) : ∃ (n : Bool) (x y : ByteArray) (k : Int),
    (∀ V : World, V.cell? ⟨1, 0, none⟩ = some (.int .i64 m) → Calls Tryz.prog 31 #[.string s] V fun e w' => e = .returned (.tuple #[.agg #[.bool n, .string x, .string y], .int .i64 k]) ∧ Below V.heap.size V w') ∧
    (∀ V : World, Calls Tryz.prog 32 #[.string s] V fun e w' => e = .returned (.tuple #[.agg #[.bool n, .string x, .string y], .int .i64 k]) ∧ Below V.heap.size V w') ∧
    ∀ V : World, Calls Tryz.prog 33 #[.agg #[.bool n, .string x, .string y], .int .i64 k, .agg #[.bool n, .string x, .string y], .int .i64 k] V fun e w' => e = .returned (.bool true) ∧ Below V.heap.size V w' := by
  have h1 := fun (V : World) (h : V.cell? ⟨1, 0, none⟩ = some (.int .i64 m)) => fParse_any s m V (by omega) h
  have h2 := fun (V : World) => rParseF_any s V (by omega)
  generalize fpar s = r at *
  obtain ⟨k, q⟩ := r
  by_cases h : k = 0
  · subst h
    exact ⟨_, _, _, 0, h1, h2, fun V => oneFrac_ok _ _ _ V⟩
  · rw [fval_err q h] at h1 h2
    exact ⟨_, _, _, k, h1, h2, fun V => oneFrac_err k h V⟩

/-- What the law holds in memory: two fractions, two quotients, two that were read. -/
def Sev (w V : World) (gq gp gx gy : Nat) (na dn pn : Bool) (xa ya dx dy px py : ByteArray) (nb : Bool) (xb yb : ByteArray) : Prop :=
  Box V w.heap.size na xa ya ∧ Box V gq dn dx dy ∧ Box V gp dn dx dy ∧ Box V gx pn px py ∧ Box V gy pn px py ∧ Box V (w.heap.size + 1) nb xb yb ∧ Below w.heap.size w V
theorem Sev.step {w V U : World} {gq gp gx gy : Nat} {na dn pn nb : Bool} {xa ya dx dy px py xb yb : ByteArray} (h : Sev w V gq gp gx gy na dn pn xa ya dx dy px py nb xb yb) (hb : Below V.heap.size V U) : Sev w U gq gp gx gy na dn pn xa ya dx dy px py nb xb yb := by
  obtain ⟨h1, h2, h3, h4, h5, h6, h7⟩ := h
  exact ⟨h1.below hb h1.lt, h2.below hb h2.lt, h3.below hb h3.lt, h4.below hb h4.lt, h5.below hb h5.lt, h6.below hb h6.lt, h7.trans (hb.mono h7.size)⟩
theorem Sev.drew {w V : World} {gq gp gx gy : Nat} {na dn pn nb : Bool} {xa ya dx dy px py xb yb : ByteArray} (h : Sev w V gq gp gx gy na dn pn xa ya dx dy px py nb xb yb) : Sev w V.drew gq gp gx gy na dn pn xa ya dx dy px py nb xb yb := by
  obtain ⟨h1, h2, h3, h4, h5, h6, h7⟩ := h
  exact ⟨h1.drew, h2.drew, h3.drew, h4.drew, h5.drew, h6.drew, h7.drew⟩
theorem sev_of {w V : World} {gq gp gx gy : Nat} {na dn pn nb : Bool} {xa ya dx dy px py xb yb : ByteArray} (h : Sev w V gq gp gx gy na dn pn xa ya dx dy px py nb xb yb) : (fun V => (V.cell? ⟨w.heap.size, 0, none⟩ = some (.bool na) ∧ V.cell? ⟨w.heap.size, 1, none⟩ = some (.string xa) ∧ V.cell? ⟨w.heap.size, 2, none⟩ = some (.string ya) ∧ V.cell? ⟨gq, 0, none⟩ = some (.bool dn) ∧ V.cell? ⟨gq, 1, none⟩ = some (.string dx) ∧ V.cell? ⟨gq, 2, none⟩ = some (.string dy) ∧ V.cell? ⟨gp, 0, none⟩ = some (.bool dn) ∧ V.cell? ⟨gp, 1, none⟩ = some (.string dx) ∧ V.cell? ⟨gp, 2, none⟩ = some (.string dy) ∧ V.cell? ⟨gx, 0, none⟩ = some (.bool pn) ∧ V.cell? ⟨gx, 1, none⟩ = some (.string px) ∧ V.cell? ⟨gx, 2, none⟩ = some (.string py) ∧ V.cell? ⟨gy, 0, none⟩ = some (.bool pn) ∧ V.cell? ⟨gy, 1, none⟩ = some (.string px) ∧ V.cell? ⟨gy, 2, none⟩ = some (.string py)) ∧ Hid (Sev w V gq gp gx gy na dn pn xa ya dx dy px py nb xb yb)) V := by
  obtain ⟨h1, h2, h3, h4, h5, h6, h7⟩ := h
  exact ⟨⟨h1.c0, h1.c1, h1.c2, h2.c0, h2.c1, h2.c2, h3.c0, h3.c1, h3.c2, h4.c0, h4.c1, h4.c2, h5.c0, h5.c1, h5.c2⟩, h1, h2, h3, h4, h5, h6, h7⟩
def Duo (w V : World) (na nb : Bool) (xa ya xb yb : ByteArray) : Prop := Box V w.heap.size na xa ya ∧ Box V (w.heap.size + 1) nb xb yb ∧ Below w.heap.size w V
theorem Duo.step {w V U : World} {na nb : Bool} {xa ya xb yb : ByteArray} (h : Duo w V na nb xa ya xb yb) (hb : Below V.heap.size V U) : Duo w U na nb xa ya xb yb := by
  obtain ⟨h1, h2, h3⟩ := h
  exact ⟨h1.below hb h1.lt, h2.below hb h2.lt, h3.trans (hb.mono h3.size)⟩
theorem Duo.drew {w V : World} {na nb : Bool} {xa ya xb yb : ByteArray} (h : Duo w V na nb xa ya xb yb) : Duo w V.drew na nb xa ya xb yb := ⟨h.1.drew, h.2.1.drew, h.2.2.drew⟩
theorem duo_of {w V : World} {na nb : Bool} {xa ya xb yb : ByteArray} (h : Duo w V na nb xa ya xb yb) : (fun V => (V.cell? ⟨w.heap.size, 0, none⟩ = some (.bool na) ∧ V.cell? ⟨w.heap.size, 1, none⟩ = some (.string xa) ∧ V.cell? ⟨w.heap.size, 2, none⟩ = some (.string ya) ∧ V.cell? ⟨w.heap.size + 1, 0, none⟩ = some (.bool nb) ∧ V.cell? ⟨w.heap.size + 1, 1, none⟩ = some (.string xb) ∧ V.cell? ⟨w.heap.size + 1, 2, none⟩ = some (.string yb)) ∧ Hid (Box V w.heap.size na xa ya ∧ Box V (w.heap.size + 1) nb xb yb ∧ Below w.heap.size w V)) V := six_of h.1 h.2.1 h.2.2

/-- Two fractions in a row of their own. -/
theorem pair_row {w : World} (na nb : Bool) (xa ya xb yb : ByteArray) (g : Nat) (hg : w.heap.size = g) : FrS (w.alloc (.cells #[.bool na, .string xa, .string ya, .bool nb, .string xb, .string yb] 39)) (some ⟨g, 0, none⟩) [(na, xa, ya), (nb, xb, yb)] := by
  subst hg
  have hr : (w.alloc (.cells #[.bool na, .string xa, .string ya, .bool nb, .string xb, .string yb] 39)).heap[w.heap.size]? = some (.cells #[.bool na, .string xa, .string ya, .bool nb, .string xb, .string yb] 39 (0, 0)) := heap_alloc_new _ _
  intro k hk
  refine ⟨w.heap.size, 0, rfl, by simp, ?_⟩
  have hk2 : k < 2 := by simpa using hk
  match k, hk2 with
  | 0, _ => refine ⟨?_, ?_, ?_⟩ <;> (rw [cell_of_row _ _ _ _ _ (0, 0) hr]; rfl)
  | 1, _ => refine ⟨?_, ?_, ?_⟩ <;> (rw [cell_of_row _ _ _ _ _ (0, 0) hr]; rfl)

set_option maxRecDepth 100000 in
set_option maxHeartbeats 16000000 in
theorem fracExact_walk (na nb : Bool) (xa ya xb yb : ByteArray) (al : Option Addr) (cap : Nat) (l : List Fr) (n : Int) (s : ByteArray) (m : Int) (w : World) (hF : FrS w al l) (hl : l.length ≤ 140737488355328) (hls : ∀ f ∈ l, f.2.1.size ≤ 140737488355328 ∧ f.2.2.size ≤ 140737488355328)
    (hxa : xa.size ≤ 140737488355328) (hya : ya.size ≤ 140737488355328) (hxb : xb.size ≤ 140737488355328) (hyb : yb.size ≤ 140737488355328) (hs : s.size ≤ 140737488355328) (hn0 : -9223372036854775808 ≤ n) (hn1 : n ≤ 9223372036854775807)
    (hm : w.cell? ⟨1, 0, none⟩ = some (.int .i64 m)) (htab : TabIs Tryz.prog w "internal/strconv.uint64pow10" .u64 pow10Tab) :
    Calls Tryz.prog 4 #[.agg #[.bool na, .string xa, .string ya], .agg #[.bool nb, .string xb, .string yb], .slice al l.length cap, .int .i64 n, .string s] w fun e w' => e = .returned (.bool true) ∧ Below w.heap.size w w' := by
  have hlt : 1 < w.heap.size := by
    rcases Nat.lt_or_ge 1 w.heap.size with h | h
    · exact h
    · simp [World.cell?, Array.getElem?_eq_none h] at hm
  have HF := hide hF
  have HLS := hide hls
  have HM := hide hm
  have HTAB := hide htab
  clear hF hls hm htab
  go_enter Tryz.func4, Tryz.ntmps4
  have hba := (Box.at (w := w) rfl na xa ya).alloc (FC nb xb yb)
  have hbb := Box.at (w := w.alloc (FC na xa ya)) (g := w.heap.size + 1) (by simp) nb xb yb
  have hB0 : Below w.heap.size w ((w.alloc (FC na xa ya)).alloc (FC nb xb yb)) := ((Below.refl _ w).alloc (Nat.le_refl _) _).alloc (by simp) _
  have H0 : Duo w _ na nb xa ya xb yb := ⟨hba.alloc (.cells #[.bool na, .string xa, .string ya, .bool nb, .string xb, .string yb] 39), hbb.alloc _, hB0.alloc hB0.size _⟩
  have HP := hide (pair_row (w := (w.alloc (FC na xa ya)).alloc (FC nb xb yb)) na nb xa ya xb yb (w.heap.size + 2) (by simp))
  clear hba hbb hB0
  go_wp2_with fail
  refine (fracBytes_any (some ⟨w.heap.size + 2, 0, none⟩) 2 [(na, xa, ya), (nb, xb, yb)] _ HP.out (by simp) (fun f hf => ?_)).mono ?_
  · simp only [List.mem_cons, List.not_mem_nil, or_false] at hf
    rcases hf with rfl | rfl
    · exact ⟨hxa, hya⟩
    · exact ⟨hxb, hyb⟩
  rintro e w1 ⟨⟨r1, rfl, hr1, hr1'⟩, hb1⟩
  have H1 := H0.step hb1
  clear H0 hb1 HP
  have HR1 : Hid (r1 ≤ 4096 → xa.size + ya.size + xb.size + yb.size ≤ r1) := fun h => by have := hr1' h; simp [sw] at this; omega
  clear hr1'
  go_wp2_with fail
  refine (fracBytes_any al cap l _ (HF.out.below H1.2.2) hl HLS.out).mono ?_
  rintro e w2 ⟨⟨r2, rfl, hr2, hr2'⟩, hb2⟩
  have H2 := H1.step hb2
  have HR2 := hide hr2'
  clear H1 hb2 hr2'
  by_cases hbig : 700 < r1 + r2 + s.size
  case pos =>
    go_wp2
    go_ret
    exact ⟨rfl, H2.2.2⟩
  have e1 := HR1.out (by omega)
  have e2 := HR2.out (by omega)
  have e3 := fw_sw l
  have sa : xa.size + ya.size ≤ 1000 := by omega
  have sb : xb.size + yb.size ≤ 1000 := by omega
  have sf : fw l ≤ 10000 := by omega
  have sl : l.length ≤ 10000 := by omega
  have ss : s.size ≤ 1000 := by omega
  have hsm : r1 + r2 + s.size ≤ 700 := by omega
  obtain ⟨dn, dx, dy, dk, hD1, hD2, hD3⟩ := both_DivF na nb xa ya xb yb sa sb
  obtain ⟨pn, px, py, pk, hP1, hP2, hP3⟩ := both_ParseF s m ss
  have HD1 := hide hD1
  have HD2 := hide hD2
  have HD3 := hide hD3
  have HP1 := hide hP1
  have HP2 := hide hP2
  have HP3 := hide hP3
  clear hD1 hD2 hD3 hP1 hP2 hP3 e1 e2 e3 HR1 HR2
  have sw2 := hide (show xa.size + ya.size ≤ 1000 ∧ xb.size + yb.size ≤ 1000 by omega)
  obtain ⟨k0, k1, k2, -⟩ := H2.1.facts
  obtain ⟨j0, j1, j2, -⟩ := H2.2.1.facts
  go_wp2_with fail
  refine (HD1.out _).mono ?_
  rintro e w3 ⟨rfl, hb3⟩
  have H3 := H2.step hb3
  clear H2 hb3 k0 k1 k2 j0 j1 j2
  have H3' : Duo w (w3.alloc (FC dn dx dy)) na nb xa ya xb yb := ⟨H3.1.alloc _, H3.2.1.alloc _, H3.2.2.alloc H3.2.2.size _⟩
  have hq3 := Box.at (w := w3) rfl dn dx dy
  obtain ⟨k0, k1, k2, -⟩ := H3'.1.facts
  obtain ⟨j0, j1, j2, -⟩ := H3'.2.1.facts
  have l1 := H3.1.lt
  have l2 := H3.2.1.lt
  have l3 : ¬ w.heap.size = w3.heap.size := by omega
  have l4 : ¬ w.heap.size + 1 = w3.heap.size := by omega
  go_wp2_with fail
  refine (HD2.out _).mono ?_
  rintro e w4 ⟨rfl, hb4⟩
  have H4 := H3'.step hb4
  have hq4 := hq3.below hb4 hq3.lt
  clear H3 H3' hq3 hb4 k0 k1 k2 j0 j1 j2 l1 l2 l3 l4
  obtain ⟨gq, hgq⟩ : ∃ g, w3.heap.size = g := ⟨_, rfl⟩
  rw [hgq] at hq4
  rw [hgq]
  have H4' : Duo w (w4.alloc (FC dn dx dy)) na nb xa ya xb yb := ⟨H4.1.alloc _, H4.2.1.alloc _, H4.2.2.alloc H4.2.2.size _⟩
  have hq4' := hq4.alloc (FC dn dx dy)
  have hp4 := Box.at (w := w4) rfl dn dx dy
  have HM4 := hide ((H4'.2.2.cell (p := ⟨1, 0, none⟩) hlt).trans HM.out)
  go_wp2_with fail
  refine (HP1.out _ HM4.out).mono ?_
  rintro e w5 ⟨rfl, hb5⟩
  have H5 := H4'.step hb5
  have hq5 := hq4'.below hb5 hq4'.lt
  have hp5 := hp4.below hb5 hp4.lt
  clear H4 H4' hq4 hq4' hp4 hb5 HM4
  obtain ⟨gp, hgp⟩ : ∃ g, w4.heap.size = g := ⟨_, rfl⟩
  rw [hgp] at hp5
  rw [hgp]
  have H5' : Duo w (w5.alloc (FC pn px py)) na nb xa ya xb yb := ⟨H5.1.alloc _, H5.2.1.alloc _, H5.2.2.alloc H5.2.2.size _⟩
  have hq5' := hq5.alloc (FC pn px py)
  have hp5' := hp5.alloc (FC pn px py)
  have hx5 := Box.at (w := w5) rfl pn px py
  go_wp2_with fail
  refine (HP2.out _).mono ?_
  rintro e w6 ⟨rfl, hb6⟩
  have H6 := H5'.step hb6
  have hq6 := hq5'.below hb6 hq5'.lt
  have hp6 := hp5'.below hb6 hp5'.lt
  have hx6 := hx5.below hb6 hx5.lt
  clear H5 H5' hq5 hq5' hp5 hp5' hx5 hb6
  obtain ⟨gx, hgx⟩ : ∃ g, w5.heap.size = g := ⟨_, rfl⟩
  rw [hgx] at hx6
  rw [hgx]
  have H0 : Sev w (w6.alloc (FC pn px py)) gq gp gx w6.heap.size na dn pn xa ya dx dy px py nb xb yb := ⟨H6.1.alloc _, hq6.alloc _, hp6.alloc _, hx6.alloc _, Box.at rfl _ _ _, H6.2.1.alloc _, H6.2.2.alloc H6.2.2.size _⟩
  clear H6 hq6 hp6 hx6 hgq hgp hgx HD1 HD2 HP1 HP2
  go_upto_region 7 with fail
  generalize hgy : w6.heap.size = gy at *
  obtain ⟨V, hV⟩ : ∃ V, V = w6.alloc (FC pn px py) := ⟨_, rfl⟩
  rw [← hV] at H0
  rw [← hV]
  clear hV hgy
  have sx1 : xa.size ≤ 1000 := by omega
  have sy1 : ya.size ≤ 1000 := by omega
  have sx2 : xb.size ≤ 1000 := by omega
  have sy2 : yb.size ≤ 1000 := by omega
  obtain ⟨a, ha⟩ : ∃ a, val na xa ya = a := ⟨_, rfl⟩
  obtain ⟨b, hb⟩ : ∃ b, val nb xb yb = b := ⟨_, rfl⟩
  have HA := hide ha
  have HB := hide hb
  clear ha hb hsm hbig hr1 hr2
  have CM : Hid (∀ V : World, Calls Tryz.prog 34 #[.bool na, .string xa, .string ya] V fun e w' => e = .returned (.agg #[.bool (sgn (a)), .string (nu (a)), .string (de (a))]) ∧ Below V.heap.size V w') := fun V => by
    have h := Make_any na xa ya V (by omega) (by omega)
    rw [HA.out] at h
    exact h
  have CC : Hid (∀ V : World, Calls Tryz.prog 36 #[.agg #[.bool na, .string xa, .string ya]] V fun e w' => e = .returned (.agg #[.bool (sgn (a)), .string (nu (a)), .string (de (a))]) ∧ Below V.heap.size V w') := fun V => by
    have h := Canon_any na xa ya V (by omega) (by omega)
    rw [HA.out] at h
    exact h
  have CR : Hid (∀ V : World, Calls Tryz.prog 35 #[.agg #[.bool na, .string xa, .string ya]] V fun e w' => e = .returned (.agg #[.bool (sgn (a)), .string (nu (a)), .string (de (a))]) ∧ Below V.heap.size V w') := fun V => by
    have h := rCanon_any na xa ya V (by omega) (by omega)
    rw [HA.out] at h
    exact h
  have CA : Hid (∀ V : World, Calls Tryz.prog 39 #[.agg #[.bool na, .string xa, .string ya], .agg #[.bool nb, .string xb, .string yb]] V fun e w' => e = .returned (.agg #[.bool (sgn (a + b)), .string (nu (a + b)), .string (de (a + b))]) ∧ Below V.heap.size V w') := fun V => by
    have h := fAdd_any na nb xa ya xb yb V (by omega) (by omega) (by omega) (by omega)
    rw [HA.out, HB.out] at h
    exact h
  have RA : Hid (∀ V : World, Calls Tryz.prog 40 #[.agg #[.bool na, .string xa, .string ya], .agg #[.bool nb, .string xb, .string yb]] V fun e w' => e = .returned (.agg #[.bool (sgn (a + b)), .string (nu (a + b)), .string (de (a + b))]) ∧ Below V.heap.size V w') := fun V => by
    have h := rAddF_any na nb xa ya xb yb V (by omega) (by omega)
    rw [HA.out, HB.out] at h
    exact h
  have CS : Hid (∀ V : World, Calls Tryz.prog 41 #[.agg #[.bool na, .string xa, .string ya], .agg #[.bool nb, .string xb, .string yb]] V fun e w' => e = .returned (.agg #[.bool (sgn (a - b)), .string (nu (a - b)), .string (de (a - b))]) ∧ Below V.heap.size V w') := fun V => by
    have h := fSub_any na nb xa ya xb yb V (by omega) (by omega) (by omega) (by omega)
    rw [HA.out, HB.out] at h
    exact h
  have RS : Hid (∀ V : World, Calls Tryz.prog 42 #[.agg #[.bool na, .string xa, .string ya], .agg #[.bool nb, .string xb, .string yb]] V fun e w' => e = .returned (.agg #[.bool (sgn (a - b)), .string (nu (a - b)), .string (de (a - b))]) ∧ Below V.heap.size V w') := fun V => by
    have h := rSubF_any na nb xa ya xb yb V (by omega) (by omega)
    rw [HA.out, HB.out] at h
    exact h
  have CU : Hid (∀ V : World, Calls Tryz.prog 43 #[.agg #[.bool na, .string xa, .string ya], .agg #[.bool nb, .string xb, .string yb]] V fun e w' => e = .returned (.agg #[.bool (sgn (a * b)), .string (nu (a * b)), .string (de (a * b))]) ∧ Below V.heap.size V w') := fun V => by
    have h := fMul_any na nb xa ya xb yb V (by omega) (by omega) (by omega) (by omega)
    rw [HA.out, HB.out] at h
    exact h
  have RU : Hid (∀ V : World, Calls Tryz.prog 44 #[.agg #[.bool na, .string xa, .string ya], .agg #[.bool nb, .string xb, .string yb]] V fun e w' => e = .returned (.agg #[.bool (sgn (a * b)), .string (nu (a * b)), .string (de (a * b))]) ∧ Below V.heap.size V w') := fun V => by
    have h := rMulF_any na nb xa ya xb yb V (by omega) (by omega)
    rw [HA.out, HB.out] at h
    exact h
  have CO : Hid (∀ V : World, Calls Tryz.prog 37 #[.int .i64 n] V fun e w' => e = .returned (.agg #[.bool (sgn (mkRat n 1)), .string (nu (mkRat n 1)), .string (de (mkRat n 1))]) ∧ Below V.heap.size V w') := fun V => fOf_any n V hn0 hn1
  have RO : Hid (∀ V : World, Calls Tryz.prog 38 #[.int .i64 n] V fun e w' => e = .returned (.agg #[.bool (sgn (mkRat n 1)), .string (nu (mkRat n 1)), .string (de (mkRat n 1))]) ∧ Below V.heap.size V w') := fun V => rOfF_any n V hn0 hn1
  have CK := hide (fun V => fCmp_any na nb xa ya xb yb V (by omega) (by omega) (by omega) (by omega))
  have RK := hide (fun V => rCmpF_any na nb xa ya xb yb V (by omega) (by omega))
  have CL : Hid (∀ V : World, FrS V al l → Calls Tryz.prog 47 #[.slice al l.length cap] V fun e w' => e = .returned (.agg #[.bool (sgn (fsum l)), .string (nu (fsum l)), .string (de (fsum l))]) ∧ Below V.heap.size V w') := fun V h => fSum_any al cap l V h sf sl
  have RL : Hid (∀ V : World, FrS V al l → Calls Tryz.prog 48 #[.slice al l.length cap] V fun e w' => e = .returned (.agg #[.bool (sgn (fsum l)), .string (nu (fsum l)), .string (de (fsum l))]) ∧ Below V.heap.size V w') := fun V h => rSum_any al cap l V h sf sl
  have CT := hide (fun (V : World) (h : TabIs Tryz.prog V "internal/strconv.uint64pow10" .u64 pow10Tab) => fText_any na xa ya V (by omega) h)
  have RT := hide (fun V => rTextF_any na xa ya V (by omega))
  rw [HA.out] at CT RT
  rw [HA.out, HB.out] at CK RK
  clear sx1 sx2 sy1 sy2 sa sb sf sl ss hn0 hn1 hxa hya hxb hyb hs hl
  go_cut [84] from 52 to 84 (fun s wx => s = .bool false ∧ Duo w wx na nb xa ya xb yb)
  case first =>
    have H0 := H0.drew
    go_region_held3 (fun V => (V.cell? ⟨w.heap.size, 0, none⟩ = some (.bool na) ∧ V.cell? ⟨w.heap.size, 1, none⟩ = some (.string xa) ∧ V.cell? ⟨w.heap.size, 2, none⟩ = some (.string ya) ∧ V.cell? ⟨gq, 0, none⟩ = some (.bool dn) ∧ V.cell? ⟨gq, 1, none⟩ = some (.string dx) ∧ V.cell? ⟨gq, 2, none⟩ = some (.string dy) ∧ V.cell? ⟨gp, 0, none⟩ = some (.bool dn) ∧ V.cell? ⟨gp, 1, none⟩ = some (.string dx) ∧ V.cell? ⟨gp, 2, none⟩ = some (.string dy) ∧ V.cell? ⟨gx, 0, none⟩ = some (.bool pn) ∧ V.cell? ⟨gx, 1, none⟩ = some (.string px) ∧ V.cell? ⟨gx, 2, none⟩ = some (.string py) ∧ V.cell? ⟨gy, 0, none⟩ = some (.bool pn) ∧ V.cell? ⟨gy, 1, none⟩ = some (.string px) ∧ V.cell? ⟨gy, 2, none⟩ = some (.string py)) ∧ Hid (Sev w V gq gp gx gy na dn pn xa ya dx dy px py nb xb yb))
      (first | exact sev_of H6 | exact sev_of H5 | exact sev_of H4 | exact sev_of H3 | exact sev_of H2 | exact sev_of H1 | exact sev_of H0)
      (first
        | (have HH := H5; go_at_call 35; refine (CR.out _).mono ?_; rintro e w6 ⟨rfl, hb6⟩; have H6 := HH.step hb6; clear hb6)
        | (have HH := H4; go_at_call 36; refine (CC.out _).mono ?_; rintro e w5 ⟨rfl, hb5⟩; have H5 := HH.step hb5; clear hb5)
        | (have HH := H3; go_at_call 35; refine (CR.out _).mono ?_; rintro e w4 ⟨rfl, hb4⟩; have H4 := HH.step hb4; clear hb4)
        | (have HH := H2; go_at_call 34; refine (CM.out _).mono ?_; rintro e w3 ⟨rfl, hb3⟩; have H3 := HH.step hb3; clear hb3)
        | (have HH := H1; go_at_call 33; refine (HP3.out _).mono ?_; rintro e w2 ⟨rfl, hb2⟩; have H2 := HH.step hb2; clear hb2)
        | (have HH := H0; go_at_call 33; refine (HD3.out _).mono ?_; rintro e w1 ⟨rfl, hb1⟩; have H1 := HH.step hb1; clear hb1))
    go_wp2_with fail
    go_meet
    exact ⟨rfl, ⟨H6.1, H6.2.2.2.2.2.1, H6.2.2.2.2.2.2⟩⟩
  case rest =>
  obtain ⟨rfl, H0⟩ := hcut
  go_upto_region 9 with fail
  go_cut [116] from 85 to 116 (fun s wx => s = .bool false ∧ Duo w wx na nb xa ya xb yb)
  case first =>
    have H0 := H0.drew
    go_region_held3 (fun V => (V.cell? ⟨w.heap.size, 0, none⟩ = some (.bool na) ∧ V.cell? ⟨w.heap.size, 1, none⟩ = some (.string xa) ∧ V.cell? ⟨w.heap.size, 2, none⟩ = some (.string ya) ∧ V.cell? ⟨w.heap.size + 1, 0, none⟩ = some (.bool nb) ∧ V.cell? ⟨w.heap.size + 1, 1, none⟩ = some (.string xb) ∧ V.cell? ⟨w.heap.size + 1, 2, none⟩ = some (.string yb)) ∧ Hid (Box V w.heap.size na xa ya ∧ Box V (w.heap.size + 1) nb xb yb ∧ Below w.heap.size w V))
      (first | exact duo_of H8 | exact duo_of H7 | exact duo_of H6 | exact duo_of H5 | exact duo_of H4 | exact duo_of H3 | exact duo_of H2 | exact duo_of H1 | exact duo_of H0)
      (first
        | (have HH := H7; go_at_call 44; refine (RU.out _).mono ?_; rintro e w8 ⟨rfl, hb8⟩; have H8 := HH.step hb8; clear hb8)
        | (have HH := H6; go_at_call 43; refine (CU.out _).mono ?_; rintro e w7 ⟨rfl, hb7⟩; have H7 := HH.step hb7; clear hb7)
        | (have HH := H5; go_at_call 42; refine (RS.out _).mono ?_; rintro e w6 ⟨rfl, hb6⟩; have H6 := HH.step hb6; clear hb6)
        | (have HH := H4; go_at_call 41; refine (CS.out _).mono ?_; rintro e w5 ⟨rfl, hb5⟩; have H5 := HH.step hb5; clear hb5)
        | (have HH := H3; go_at_call 40; refine (RA.out _).mono ?_; rintro e w4 ⟨rfl, hb4⟩; have H4 := HH.step hb4; clear hb4)
        | (have HH := H2; go_at_call 39; refine (CA.out _).mono ?_; rintro e w3 ⟨rfl, hb3⟩; have H3 := HH.step hb3; clear hb3)
        | (have HH := H1; go_at_call 38; refine (RO.out _).mono ?_; rintro e w2 ⟨rfl, hb2⟩; have H2 := HH.step hb2; clear hb2)
        | (have HH := H0; go_at_call 37; refine (CO.out _).mono ?_; rintro e w1 ⟨rfl, hb1⟩; have H1 := HH.step hb1; clear hb1))
    go_wp2_with fail
    go_meet
    exact ⟨rfl, H8⟩
  case rest =>
  obtain ⟨rfl, H0⟩ := hcut
  go_upto_region 11 with fail
  have H0 := H0.drew
  go_region_held3 (fun V => (V.cell? ⟨w.heap.size, 0, none⟩ = some (.bool na) ∧ V.cell? ⟨w.heap.size, 1, none⟩ = some (.string xa) ∧ V.cell? ⟨w.heap.size, 2, none⟩ = some (.string ya) ∧ V.cell? ⟨w.heap.size + 1, 0, none⟩ = some (.bool nb) ∧ V.cell? ⟨w.heap.size + 1, 1, none⟩ = some (.string xb) ∧ V.cell? ⟨w.heap.size + 1, 2, none⟩ = some (.string yb)) ∧ Hid (Box V w.heap.size na xa ya ∧ Box V (w.heap.size + 1) nb xb yb ∧ Below w.heap.size w V))
    (first | exact duo_of H6 | exact duo_of H5 | exact duo_of H4 | exact duo_of H3 | exact duo_of H2 | exact duo_of H1 | exact duo_of H0)
    (first
      | (have HH := H5; go_at_call 50; refine (RT.out _).mono ?_; rintro e w6 ⟨rfl, hb6⟩; have H6 := HH.step hb6; clear hb6)
      | (have HH := H4; go_at_call 49; refine (CT.out _ (tab_below HTAB.out HH.2.2)).mono ?_; rintro e w5 ⟨rfl, hb5⟩; have H5 := HH.step hb5; clear hb5)
      | (have HH := H3; go_at_call 48; refine (RL.out _ (HF.out.below HH.2.2)).mono ?_; rintro e w4 ⟨rfl, hb4⟩; have H4 := HH.step hb4; clear hb4)
      | (have HH := H2; go_at_call 47; refine (CL.out _ (HF.out.below HH.2.2)).mono ?_; rintro e w3 ⟨rfl, hb3⟩; have H3 := HH.step hb3; clear hb3)
      | (have HH := H1; go_at_call 46; refine (RK.out _).mono ?_; rintro e w2 ⟨rfl, hb2⟩; have H2 := HH.step hb2; clear hb2)
      | (have HH := H0; go_at_call 45; refine (CK.out _).mono ?_; rintro e w1 ⟨rfl, hb1⟩; have H1 := HH.step hb1; clear hb1))
  go_wp2
  go_ret
  exact ⟨rfl, H6.2.2⟩
end Go.Proofs.YtmkilmcmgdoiiaaGreatDoor
