/- The reader: a variable is declared. -/
import Derived.Test.YtojidhnkpeiimaaGreatDoorBakTToPrnD
import Derived.Test.YtojidhnkpeiimaaGreatDoorPrnGOwn
import Derived.Test.YtojidhnkpeiimaaGreatDoorMadEOwn
namespace Go.Proofs.YtojidhnkpeiimaaGreatDoor
open Go.RowKit Go.Shelf Go.Lib
theorem ByS.low {W U : World} {g : Nat} (h : ByS W g U) (hg : g ≤ W.heap.size) : Below g W U := ⟨h.os, h.tape, h.output, h.size, fun k hk => h.block k (Nat.lt_of_lt_of_le hk hg) (by omega)⟩
theorem ByS.put {W U : World} {g : Nat} (h : ByS W g U) (b j : Nat) (y : Value) (hb : W.heap.size ≤ b) : ByS W g (U.setCell ⟨b, j, none⟩ y) :=
  ⟨h.os, h.tape, h.output, by simpa [World.setCell] using h.size, fun k hk hn => (Below.heap_setCell U ⟨b, j, none⟩ y k (by show k ≠ b; omega)).trans (h.block k hk hn)⟩
theorem RBx.far {U : World} {g b : Nat} {s : List UInt8} {x y z : Value} (h : RBx U g s x y z) (hb : g ≠ b) (j : Nat) (v : Value) : RBx (U.setCell ⟨b, j, none⟩ v) g s x y z := (Below.heap_setCell U ⟨b, j, none⟩ v g hb).trans h
section
variable {W W' : World} {g : Nat} {s : List UInt8} {x y z v' : Value} {Vs : List PV} {Ls : List PL} {Rs : List PR}
theorem RD.pushV (h : RD W g s x y z Vs Ls Rs) {nm : ByteArray} {q : Value} {l : List ByteArray} (hr : W'.ownsRow g 47 2 v' (Vs.length + 1) (vC Vs ++ [.string nm, q])) (hg : W.grownBy W' x.ownBlock) (hq : RwS W g q l) :
    RBx W' g s x y z ∧ RD (W'.setCell ⟨g, 1, none⟩ v') g s v' y z (Vs ++ [(nm, q, l)]) Ls Rs ∧ Below g W (W'.setCell ⟨g, 1, none⟩ v') := by
  have kk : ∀ tt : TypeId, tt ≠ 47 → KeepT tt W W' := fun tt hne => KeepT.grown hg (owns_typed h.vs.1) hne
  have hbox : RBx W' g s x y z := kk 81 (by decide) _ _ _ h.box
  have ks : ∀ tt : TypeId, tt ≠ 81 → KeepT tt W' (W'.setCell ⟨g, 1, none⟩ v') := fun tt hne => KeepT.set hbox hne 1 v'
  have k2 : ∀ tt : TypeId, tt ≠ 47 → tt ≠ 81 → KeepT tt W (W'.setCell ⟨g, 1, none⟩ v') := fun tt h1 h2 => (kk tt h1).trans (ks tt h2)
  refine ⟨hbox, ⟨hbox.set1 v', ⟨?_, fun p hp => ?_⟩, h.ls.keep (k2 _ (by decide) (by decide)) (k2 _ (by decide) (by decide)), h.rs.keep (k2 _ (by decide) (by decide)) (k2 _ (by decide) (by decide)), h.short⟩, ((Below.refl g W).grown hg (Nat.le_of_lt h.box.lt) fun k e => owns_from h.vs.1 k e).setCell (p := ⟨g, 1, none⟩) (Nat.le_refl _) _⟩
  · rw [vC_append, List.length_append]
    exact owns_keep hr (ks 47 (by decide))
  · rcases List.mem_append.1 hp with hp | hp
    · exact owns_keep (h.vs.2 p hp) (k2 _ (by decide) (by decide))
    · rw [List.mem_singleton.1 hp]
      exact owns_keep hq (k2 _ (by decide) (by decide))
theorem RD.pushL (h : RD W g s x y z Vs Ls Rs) {q : Value} {l : List Int} (hr : W'.ownsRow g 22 1 v' (Ls.length + 1) (Ls.map (·.1) ++ [q])) (hg : W.grownBy W' y.ownBlock) (hq : RwI W g q l) :
    RBx W' g s x y z ∧ RD (W'.setCell ⟨g, 2, none⟩ v') g s x v' z Vs (Ls ++ [(q, l)]) Rs ∧ Below g W (W'.setCell ⟨g, 2, none⟩ v') := by
  have kk : ∀ tt : TypeId, tt ≠ 22 → KeepT tt W W' := fun tt hne => KeepT.grown hg (owns_typed h.ls.1) hne
  have hbox : RBx W' g s x y z := kk 81 (by decide) _ _ _ h.box
  have ks : ∀ tt : TypeId, tt ≠ 81 → KeepT tt W' (W'.setCell ⟨g, 2, none⟩ v') := fun tt hne => KeepT.set hbox hne 2 v'
  have k2 : ∀ tt : TypeId, tt ≠ 22 → tt ≠ 81 → KeepT tt W (W'.setCell ⟨g, 2, none⟩ v') := fun tt h1 h2 => (kk tt h1).trans (ks tt h2)
  refine ⟨hbox, ⟨hbox.set2 v', h.vs.keep (k2 _ (by decide) (by decide)) (k2 _ (by decide) (by decide)), ⟨?_, fun p hp => ?_⟩, h.rs.keep (k2 _ (by decide) (by decide)) (k2 _ (by decide) (by decide)), h.short⟩, ((Below.refl g W).grown hg (Nat.le_of_lt h.box.lt) fun k e => owns_from h.ls.1 k e).setCell (p := ⟨g, 2, none⟩) (Nat.le_refl _) _⟩
  · rw [List.map_append, List.length_append]
    exact owns_keep hr (ks 22 (by decide))
  · rcases List.mem_append.1 hp with hp | hp
    · exact owns_keep (h.ls.2 p hp) (k2 _ (by decide) (by decide))
    · rw [List.mem_singleton.1 hp]
      exact owns_keep hq (k2 _ (by decide) (by decide))
theorem RD.pushR (h : RD W g s x y z Vs Ls Rs) {q : Value} {l : List Fr} (hr : W'.ownsRow g 51 1 v' (Rs.length + 1) (Rs.map (·.1) ++ [q])) (hg : W.grownBy W' z.ownBlock) (hq : RwF W g q l) :
    RBx W' g s x y z ∧ RD (W'.setCell ⟨g, 3, none⟩ v') g s x y v' Vs Ls (Rs ++ [(q, l)]) ∧ Below g W (W'.setCell ⟨g, 3, none⟩ v') := by
  have kk : ∀ tt : TypeId, tt ≠ 51 → KeepT tt W W' := fun tt hne => KeepT.grown hg (owns_typed h.rs.1) hne
  have hbox : RBx W' g s x y z := kk 81 (by decide) _ _ _ h.box
  have ks : ∀ tt : TypeId, tt ≠ 81 → KeepT tt W' (W'.setCell ⟨g, 3, none⟩ v') := fun tt hne => KeepT.set hbox hne 3 v'
  have k2 : ∀ tt : TypeId, tt ≠ 51 → tt ≠ 81 → KeepT tt W (W'.setCell ⟨g, 3, none⟩ v') := fun tt h1 h2 => (kk tt h1).trans (ks tt h2)
  refine ⟨hbox, ⟨hbox.set3 v', h.vs.keep (k2 _ (by decide) (by decide)) (k2 _ (by decide) (by decide)), h.ls.keep (k2 _ (by decide) (by decide)) (k2 _ (by decide) (by decide)), ⟨?_, fun p hp => ?_⟩, h.short⟩, ((Below.refl g W).grown hg (Nat.le_of_lt h.box.lt) fun k e => owns_from h.rs.1 k e).setCell (p := ⟨g, 3, none⟩) (Nat.le_refl _) _⟩
  · rw [List.map_append, List.length_append]
    exact owns_keep hr (ks 51 (by decide))
  · rcases List.mem_append.1 hp with hp | hp
    · exact owns_keep (h.rs.2 p hp) (k2 _ (by decide) (by decide))
    · rw [List.mem_singleton.1 hp]
      exact owns_keep hq (k2 _ (by decide) (by decide))
end
theorem owns_old {w : World} {B : Nat} {e : TypeId} {sz0 : Nat} {v : Value} {n : Nat} {xs : List Value} (h : w.ownsRow B e sz0 v n xs) {k : Nat} (hk : v.ownBlock = some k) : k < w.heap.size := by
  rcases h.2 with ⟨rfl, _⟩ | ⟨g, cap, cur, rfl, _, h3, _⟩
  · cases hk
  · cases hk
    exact (Array.getElem?_eq_some_iff.1 h3).1
def XB (U : World) (b : Nat) (nm : ByteArray) (q : Value) : Prop := U.heap[b]? = some (.cells #[.string nm, q] 47 (0, 0))
section
variable {U U' : World} {b : Nat} {nm : ByteArray} {q : Value}
theorem XB.lt (h : XB U b nm q) : b < U.heap.size := (Array.getElem?_eq_some_iff.1 h).1
theorem XB.cells (h : XB U b nm q) : U.cell? ⟨b, 0, none⟩ = some (.string nm) ∧ U.cell? ⟨b, 1, none⟩ = some q := ⟨by rw [cell_of_row _ _ _ _ _ (0, 0) h]; rfl, by rw [cell_of_row _ _ _ _ _ (0, 0) h]; rfl⟩
theorem XB.fz (h : XB U b nm q) (j : Nat) : U.frozen? ⟨b, j, none⟩ = false := frozen_of_row U b j _ _ h
theorem XB.below (h : XB U b nm q) (hb : Below U.heap.size U U') : XB U' b nm q := (hb.block b h.lt).trans h
theorem XB.by {g : Nat} (h : XB U b nm q) (hb : ByS U g U') (hn : b ≠ g) : XB U' b nm q := (hb.block b h.lt hn).trans h
theorem XB.set (h : XB U b nm q) (v : Value) : XB (U.setCell ⟨b, 1, none⟩ v) b nm v := heap_setCell_same U b 1 _ _ v h
end
set_option maxRecDepth 100000 in
set_option maxHeartbeats 4000000 in
theorem declare_tok {ts vals : List ByteArray} {nm : ByteArray} (g : Nat) (s : List UInt8) (x y z : Value) (Vs : List PV) (Ls : List PL) (Rs : List PR) (w : World) (h : RD w g s x y z Vs Ls Rs)
    (hr : Rst (nm :: tOpen :: vals ++ tShut :: ts) s) (hnm : nameB nm = true) (hnew : memS (namesV (vOf Vs)) nm = false) (h8 : Vs.length < 8) (hLl : Ls.length < 8) (hRl : Rs.length < 8) (hv1 : 1 ≤ vals.length) (hv4 : vals.length ≤ 4) (hvn : NmsOK vals) :
    Calls Tryz.prog 86 #[.pointer (some ⟨g, 0, none⟩)] w fun e w' => e = .returned (.tuple #[]) ∧ ∃ s' x' y' z' q, RD w' g s' x' y' z' (Vs ++ [(nm, q, vals)]) (Ls ++ [(.slice none 0 0, [])]) (Rs ++ [(.slice none 0 0, [])]) ∧ Rst ts s' ∧ Below g w w' := by
  have hg := h.box.lt
  obtain ⟨-, c1, -, -⟩ := h.box.cells
  obtain ⟨b, cb, rfl, -⟩ := owns_slice h.ls.1
  obtain ⟨d, cd, rfl, -⟩ := owns_slice h.rs.1
  obtain ⟨a, c, rfl, hvs⟩ := h.vs.vars
  have hlv : (vOf Vs).length = Vs.length := by simp [vOf]
  have hln : (namesV (vOf Vs)).length = (vOf Vs).length := namesV_length _
  have HD := hid h
  have HN := hid (namesOf_any a c (vOf Vs) w hvs (by omega))
  have HF : Hid (∀ (G : Nat) (U : World), G ≠ g → RowS U G (namesV (vOf Vs)) → RBx U g s (.slice a (vOf Vs).length c) (.slice b Ls.length cb) (.slice d Rs.length cd) → Calls Tryz.prog 121 #[.pointer (some ⟨g, 0, none⟩), .slice (some ⟨G, 0, none⟩) (vOf Vs).length (vOf Vs).length, .int .i64 8] U fun e w' => e = .returned (.string nm) ∧ ∃ s', RBx w' g s' (.slice a (vOf Vs).length c) (.slice b Ls.length cb) (.slice d Rs.length cd) ∧ s'.length ≤ 20000 ∧ Rst (tOpen :: vals ++ tShut :: ts) s' ∧ ByS U g w') := fun G U hG hU hb => by
    have := newName_tok g s _ _ _ (some ⟨G, 0, none⟩) (vOf Vs).length 8 (namesV (vOf Vs)) U hb h.short hr (fun U' hU' => by
      have hR' : RowS U' G (namesV (vOf Vs)) := (hU'.block G hU.lt hG).trans hU
      exact hR'.st) (by omega) (by omega) hnm hnew
    rw [hln] at this
    exact this
  have HS := hid (fun (U : World) (s' : List UInt8) (t : ByteArray) (ts' : List ByteArray) (hU : RBx U g s' (.slice a (vOf Vs).length c) (.slice b Ls.length cb) (.slice d Rs.length cd)) (hs : s'.length ≤ 20000) (hr : Rst (t :: ts') s') => sign_tok g s' _ _ _ U hU hs hr)
  have HL := hid (fun (U : World) (s' : List UInt8) (t : ByteArray) (ts' : List ByteArray) (hU : RBx U g s' (.slice a (vOf Vs).length c) (.slice b Ls.length cb) (.slice d Rs.length cd)) (hs : s'.length ≤ 20000) (hr : Rst (t :: ts') s') => look_tok g s' _ _ _ U hU hs hr)
  have Hg := hid hg
  have HVN := hid hvn
  obtain ⟨n, hn⟩ : ∃ n, (vOf Vs).length = n := ⟨_, rfl⟩
  rw [hn] at HN HF HS HL HD c1
  clear h hr hvs hg hln hnm hnew hvn
  go_enter Tryz.func86, Tryz.ntmps86
  go_wp2_with fail
  refine HN.out.mono ?_
  rintro e w1 ⟨G, rfl, hR, hb⟩
  have D1 := hid (HD.out.below hb)
  have hGg : G ≠ g := by
    rintro rfl
    have h1 := D1.out.box
    rw [RBx] at h1
    rw [RowS, h1] at hR
    injection hR with h2
    injection h2 with _ h3 _
    exact absurd h3 (by decide)
  have HR := hid hR
  have HB := hid hb
  clear hR hb c1 HN
  go_wp2_with fail
  refine (HF.out G w1 hGg HR.out D1.out.box).mono ?_
  rintro e w2 ⟨rfl, s2, a1, a2, a3, a4⟩
  have D2 := hid (D1.out.by a4 a1 a2)
  have B2 : Hid (Below g w w2) := (HB.out.mono (Nat.le_of_lt Hg.out)).trans (a4.low (Nat.le_of_lt D1.out.box.lt))
  have T2 := hid a3
  clear a1 a2 a3 a4 HF HR HB hGg D1 HD
  go_wp2_with fail
  have hbA : Below w2.heap.size w2 (w2.alloc (VC (.string nm) (.slice none 0 0))) := (Below.refl _ w2).alloc (Nat.le_refl _) _
  have D3 := hid (D2.out.below hbA)
  have X3 : Hid (XB (w2.alloc (VC (.string nm) (.slice none 0 0))) w2.heap.size nm (.slice none 0 0)) := heap_alloc_new w2 _
  have A3 := hid ((ByS.refl w2 g).step hbA)
  have hgw := D2.out.box.lt
  obtain ⟨bx, hbx⟩ : ∃ bx, w2.heap.size = bx := ⟨_, rfl⟩
  have Hbg : Hid (bx ≠ g) := by show bx ≠ g; omega
  have Hgn : Hid (g ≠ bx) := by show g ≠ bx; omega
  have Hgb : Hid (g < bx + 1) := by show g < bx + 1; omega
  have HbW : Hid (w2.heap.size ≤ bx) := by show w2.heap.size ≤ bx; omega
  rw [hbx] at X3
  simp only [hbx]
  clear hbA hbx hgw
  generalize w2.alloc (VC (.string nm) (.slice none 0 0)) = w3 at *
  refine (HS.out _ s2 tOpen _ D3.out.box D3.out.short T2.out).mono ?_
  rintro e w4 ⟨rfl, s4, a1, a2, a3, a4⟩
  have K4 := hid (show RBx w4 g s4 (.slice a n c) (.slice b Ls.length cb) (.slice d Rs.length cd) ∧ s4.length ≤ 20000 ∧ Rst (vals ++ tShut :: ts) s4 ∧ ByS w2 g w4 from ⟨a1, a2, a3, A3.out.trans a4⟩)
  have X4 := hid (X3.out.by a4 Hbg.out)
  clear a1 a2 a3 a4 T2 D3 A3 X3
  go_wp2_with fail
  go_loopg [24] vals.length (fun r _ wr => ∃ (i : Nat) (s' : List UInt8) (q : Value), r + i = vals.length ∧ Hid (XB wr bx nm q) ∧ Hid (RwS wr (bx + 1) q (vals.take i)) ∧ Hid (RBx wr g s' (.slice a n c) (.slice b Ls.length cb) (.slice d Rs.length cd) ∧ s'.length ≤ 20000 ∧ Rst (vals.drop i ++ tShut :: ts) s' ∧ ByS w2 g wr))
  case atStart => exact ⟨0, s4, .slice none 0 0, by omega, X4, RwS.empty _ _, K4⟩
  case round =>
    obtain ⟨i, s', q, hri, HX, HQ, HK⟩ := hrel
    clear X4 K4
    have hll : (vals.take i).length = i := by rw [List.length_take]; omega
    have HLI := hid hll
    obtain ⟨dq, nq, cq, rfl⟩ := HQ.out.slv
    have hnq : i = nq := by
      obtain ⟨d2, c2, e, -⟩ := HQ.out.st
      injection e with _ e2 _
      rw [e2, hll]
    subst hnq
    clear hll
    by_cases hlt : i < vals.length
    · have hdr : vals.drop i = vals[i] :: vals.drop (i + 1) := List.drop_eq_getElem_cons hlt
      have HTI : Hid (vals.take (i + 1) = vals.take i ++ [vals[i]]) := List.take_succ_eq_append_getElem hlt
      obtain ⟨hnv, hdv⟩ := HVN.out i hlt
      have hbr : (vals[i].toList == [125]) = false := by
        obtain ⟨c0, l0, e1, e2, e3⟩ := tk_name hnv
        rw [toList_data, show vals[i].data.toList = bl vals[i] from rfl, e1, beq_eq_false_iff_ne]
        rintro e
        injection e with e4 e5
        have h5 : letN (125 : UInt8).toNat = true := by
          simp only [nameB, wordB, Bool.and_eq_true] at hnv
          have h6 := hnv.2.2
          rw [show vals[i].data.toList = bl vals[i] from rfl, e1, e4] at h6
          exact h6
        exact absurd h5 (by decide)
      have HK1 := HK.out.2.2.1
      rw [hdr] at HK1
      replace HK := hid (show RBx wr g s' (.slice a n c) (.slice b Ls.length cb) (.slice d Rs.length cd) ∧ s'.length ≤ 20000 ∧ Rst (vals[i] :: (vals.drop (i + 1) ++ tShut :: ts)) s' ∧ ByS w2 g wr from ⟨HK.out.1, HK.out.2.1, HK1, HK.out.2.2.2⟩)
      have HNW : Hid (∀ (U : World) (s' : List UInt8), RBx U g s' (.slice a n c) (.slice b Ls.length cb) (.slice d Rs.length cd) → s'.length ≤ 20000 → Rst (vals[i] :: (vals.drop (i + 1) ++ tShut :: ts)) s' → (∀ U', ByS U g U' → StS U' dq (vals.take i)) → Calls Tryz.prog 121 #[.pointer (some ⟨g, 0, none⟩), .slice dq i cq, .int .i64 4] U fun e w' => e = .returned (.string vals[i]) ∧ ∃ s'', RBx w' g s'' (.slice a n c) (.slice b Ls.length cb) (.slice d Rs.length cd) ∧ s''.length ≤ 20000 ∧ Rst (vals.drop (i + 1) ++ tShut :: ts) s'' ∧ ByS U g w') := fun U s' h1 h2 h3 h4 => by
        have := newName_tok g s' _ _ _ dq cq 4 (vals.take i) U h1 h2 h3 h4 (by rw [HLI.out]; omega) (by rw [HLI.out]; omega) hnv hdv
        rw [HLI.out] at this
        exact this
      have HQK : Hid (∀ (q : Value) (U U' : World) (s' : List UInt8), RwS U (bx + 1) q (vals.take i) → RBx U g s' (.slice a n c) (.slice b Ls.length cb) (.slice d Rs.length cd) → ByS U g U' → RwS U' (bx + 1) q (vals.take i)) := fun q U U' s' h1 h2 h3 => owns_keep h1 (h3.keep h2 (by decide))
      have HLK := hid (fun (U : World) (s' : List UInt8) (hU : RBx U g s' (.slice a n c) (.slice b Ls.length cb) (.slice d Rs.length cd)) (hs : s'.length ≤ 20000) (hr : Rst (vals[i] :: (vals.drop (i + 1) ++ tShut :: ts)) s') => look_tok g s' _ _ _ U hU hs hr)
      clear hdr HK1 hnv hdv
      generalize vals[i] = nv at *
      obtain ⟨x0, x1⟩ := HX.out.cells
      by_cases hi0 : i = 0
      focus
        have hc : ((i : Int) == 0) = true := by rw [beq_iff_eq]; omega
        clear hi0
        go_upto_region 3 with fail
        clear hc x0 x1 hbr HLK
      rotate_left
      focus
        have hc : ((i : Int) == 0) = false := by rw [beq_eq_false_iff_ne]; omega
        clear hi0
        go_wp2_with fail
        refine (HLK.out _ _ HK.out.1 HK.out.2.1 HK.out.2.2.1).mono ?_
        rintro e w5 ⟨rfl, s5, a1, a2, a3, a4⟩
        replace HX := hid (HX.out.by a4 Hbg.out)
        replace HQ := hid (HQK.out _ _ _ _ HQ.out HK.out.1 a4)
        replace HK := hid (show RBx w5 g s5 (.slice a n c) (.slice b Ls.length cb) (.slice d Rs.length cd) ∧ s5.length ≤ 20000 ∧ Rst (nv :: (vals.drop (i + 1) ++ tShut :: ts)) s5 ∧ ByS w2 g w5 from ⟨a1, a2, a3, HK.out.2.2.2.trans a4⟩)
        clear a1 a2 a3 a4 x0 x1
        go_upto_region 3 with fail
        clear hc hbr HLK
      all_goals
        rename World => wq
        have hbD : Below wq.heap.size wq wq.drew := (Below.refl _ wq).drew
        replace HX := hid (HX.out.below hbD)
        replace HQ := hid (HQ.out.below hbD)
        replace HK := hid (And.intro (HK.out.1.below hbD) (And.intro HK.out.2.1 (And.intro HK.out.2.2.1 (HK.out.2.2.2.step hbD))))
        clear hbD
        refine wp_region_until 9 (fun (b : Bool) (u : World) => b = false → u.cell? ⟨bx, 1, none⟩ = some (.slice dq i cq)) (by kernel_rfl) (fun _ => HX.out.cells.2) (fun hSd => ?_)
        generalize wq.drew = u0 at *
        have HSTU : Hid (∀ U', ByS u0 g U' → StS U' dq (vals.take i)) := fun U' hU' => by
          obtain ⟨d2, c2, e, h2⟩ := (HQK.out _ _ _ _ HQ.out HK.out.1 hU').st
          injection e with e1 _ _
          rw [e1]
          exact h2
        refine wpU_take (i := 0) (oi := _) (v := (.pointer (some ⟨bx, 1, none⟩))) (b := false) rfl (by kernel_rfl) (by kernel_rfl) (by kernel_rfl) (by decide) (fun _ _ _ h => h) (Or.inl ⟨by rfl, ?_⟩) (by kernel_rfl) (by assumption) ?_
        · intro u' hSu
          (try simp only [List.getElem_toArray, List.getElem_cons_zero])
          go_simp
        (try simp only [List.getElem_toArray, List.getElem_cons_zero])
        (try simp only [Act.put, List.setIfInBounds_toArray, List.set_cons_zero, List.set_cons_succ])
        refine wpU_ahead (i := 1) (oi := _) (v := (.slice dq i cq)) rfl (by kernel_rfl) (by kernel_rfl) (by kernel_rfl) (by decide) rfl (by kernel_rfl) (fun _ _ _ h => h) (Or.inl ⟨by rfl, ?_⟩) (by kernel_rfl) (by assumption) ?_
        · intro u' hSu
          (try simp only [List.getElem_toArray, List.getElem_cons_zero, List.getElem_cons_succ])
          obtain hS9x := hSu
          go_simp
        (try simp only [List.getElem_toArray, List.getElem_cons_zero, List.getElem_cons_succ])
        (try simp only [Act.put, List.setIfInBounds_toArray, List.set_cons_zero, List.set_cons_succ])
        refine wpU_take (i := 2) (oi := _) (v := (.pointer (some ⟨g, 0, none⟩))) (b := false) rfl (by kernel_rfl) (by kernel_rfl) (by kernel_rfl) (by decide) (fun _ _ _ h => h) (Or.inl ⟨by rfl, ?_⟩) (by kernel_rfl) (by assumption) ?_
        · intro u' hSu
          (try simp only [List.getElem_toArray, List.getElem_cons_zero, List.getElem_cons_succ])
          go_simp
        (try simp only [List.getElem_toArray, List.getElem_cons_zero, List.getElem_cons_succ])
        (try simp only [Act.put, List.setIfInBounds_toArray, List.set_cons_zero, List.set_cons_succ])
        refine wpU_take (i := 3) (oi := _) (v := (.pointer (some ⟨bx, 1, none⟩))) (b := false) rfl (by kernel_rfl) (by kernel_rfl) (by kernel_rfl) (by decide) (fun _ _ _ h => h) (Or.inl ⟨by rfl, ?_⟩) (by kernel_rfl) (by assumption) ?_
        · intro u' hSu
          (try simp only [List.getElem_toArray, List.getElem_cons_zero, List.getElem_cons_succ])
          go_simp
        (try simp only [List.getElem_toArray, List.getElem_cons_zero, List.getElem_cons_succ])
        (try simp only [Act.put, List.setIfInBounds_toArray, List.set_cons_zero, List.set_cons_succ])
        refine wpU_ahead (i := 4) (oi := _) (v := (.slice dq i cq)) rfl (by kernel_rfl) (by kernel_rfl) (by kernel_rfl) (by decide) rfl (by kernel_rfl) (fun _ _ _ h => h) (Or.inl ⟨by rfl, ?_⟩) (by kernel_rfl) (by assumption) ?_
        · intro u' hSu
          (try simp only [List.getElem_toArray, List.getElem_cons_zero, List.getElem_cons_succ])
          obtain hS9x := hSu
          go_simp
        (try simp only [List.getElem_toArray, List.getElem_cons_zero, List.getElem_cons_succ])
        (try simp only [Act.put, List.setIfInBounds_toArray, List.set_cons_zero, List.set_cons_succ])
        refine wpU_ready (rs := [5]) (by kernel_rfl) (by simp) (AllU.cons (b := false) rfl (by kernel_rfl) ?_ (AllU.nil))
        · intro K' hK'
          (try simp only [List.getElem_toArray, List.getElem_cons_zero, List.getElem_cons_succ])
          go_simp
          refine (HNW.out u0 _ HK.out.1 HK.out.2.1 HK.out.2.2.1 HSTU.out).mono ?_
          rintro e u1 ⟨rfl, s5, a1, a2, a3, a4⟩
          have K5 := hid (show RBx u1 g s5 (.slice a n c) (.slice b Ls.length cb) (.slice d Rs.length cd) ∧ s5.length ≤ 20000 ∧ Rst (vals.drop (i + 1) ++ tShut :: ts) s5 ∧ ByS w2 g u1 from ⟨a1, a2, a3, HK.out.2.2.2.trans a4⟩)
          have X5 := hid (HX.out.by a4 Hbg.out)
          have Q5 := hid (HQK.out _ _ _ _ HQ.out HK.out.1 a4)
          clear a1 a2 a3 a4
          refine hK'.out _ _ (fun _ => X5.out.cells.2) (fun hSe => ?_)
          clear hK' K' hSd
          (try simp only [List.getElem_toArray, List.getElem_cons_zero, List.getElem_cons_succ])
          (try simp only [Act.put, List.setIfInBounds_toArray, List.set_cons_zero, List.set_cons_succ])
          refine wpU_ready (rs := [6]) (by kernel_rfl) (by simp) (AllU.cons (b := false) rfl (by kernel_rfl) ?_ (AllU.nil))
          · intro K' hK'
            (try simp only [List.getElem_toArray, List.getElem_cons_zero, List.getElem_cons_succ])
            go_simp
            have hbA : Below u1.heap.size u1 (u1.alloc (.cells #[.string nv] 9)) := (Below.refl _ u1).alloc (Nat.le_refl _) _
            have K6 := hid (show RBx (u1.alloc (.cells #[.string nv] 9)) g s5 (.slice a n c) (.slice b Ls.length cb) (.slice d Rs.length cd) ∧ s5.length ≤ 20000 ∧ Rst (vals.drop (i + 1) ++ tShut :: ts) s5 ∧ ByS w2 g (u1.alloc (.cells #[.string nv] 9)) from ⟨K5.out.1.below hbA, K5.out.2.1, K5.out.2.2.1, K5.out.2.2.2.step hbA⟩)
            have X6 := hid (X5.out.below hbA)
            have Q6 := hid (Q5.out.below hbA)
            have hnc : (u1.alloc (.cells #[.string nv] 9)).cell? ⟨u1.heap.size, 0, none⟩ = some (.string nv) := by rw [cell_of_row _ _ _ _ _ (0, 0) (heap_alloc_new u1 _)]; rfl
            have HNC := hid hnc
            have hb6 : bx + 1 ≤ (u1.alloc (.cells #[.string nv] 9)).heap.size := X6.out.lt
            have Hb6 := hid hb6
            clear hbA hnc hb6
            refine hK'.out _ _ (fun _ => X6.out.cells.2) (fun hSf => ?_)
            clear hK' K' hSe K5 X5 Q5
            generalize u1.heap.size = gn at *
            generalize u1.alloc (.cells #[.string nv] 9) = u2 at *
            (try simp only [List.getElem_toArray, List.getElem_cons_zero, List.getElem_cons_succ])
            (try simp only [Act.put, List.setIfInBounds_toArray, List.set_cons_zero, List.set_cons_succ])
            refine wpU_ready (rs := [7]) (by kernel_rfl) (by simp) (AllU.cons (b := false) rfl (by kernel_rfl) ?_ (AllU.nil))
            · intro K' hK'
              rw [if_pos (by rfl)]
              refine wp_append_str _ _ rfl (bx + 1) _ (vals.take i) nv rfl Q6.out gn rfl HNC.out (by rw [HLI.out]; omega) Hb6.out ?_
              intro v' u3 hr3 hg3
              obtain ⟨d7, n7, c7, rfl⟩ := hr3.slv
              have K7 := hid (show RBx u3 g s5 (.slice a n c) (.slice b Ls.length cb) (.slice d Rs.length cd) ∧ s5.length ≤ 20000 ∧ Rst (vals.drop (i + 1) ++ tShut :: ts) s5 ∧ ByS w2 g u3 from ⟨K6.out.1.grown hg3 (fun k e => Q6.out.own k e) Hgb.out, K6.out.2.1, K6.out.2.2.1, K6.out.2.2.2.grown hg3 (fun k e => by have := Q6.out.own k e; have := HbW.out; omega)⟩)
              have X7 : Hid (XB u3 bx nm (.slice dq i cq)) := (hg3.block bx X6.out.lt fun e => by have := Q6.out.own bx e.symm; omega).trans X6.out
              have Q7 : Hid (RwS u3 (bx + 1) (.slice d7 n7 c7) (vals.take (i + 1))) := by
                show RwS _ _ _ _
                rw [HTI.out]
                exact hr3
              clear hr3 hg3
              refine hK'.out _ _ (fun _ => X7.out.cells.2) (fun hSg => ?_)
              clear hK' K' hSf K6 X6 Q6 HNC Hb6
              (try simp only [List.getElem_toArray, List.getElem_cons_zero, List.getElem_cons_succ])
              (try simp only [Act.put, List.setIfInBounds_toArray, List.set_cons_zero, List.set_cons_succ])
              obtain ⟨n0, n1⟩ := X7.out.cells
              have f1 := X7.out.fz 1
              refine wpU_take (i := 8) (oi := _) (v := (.pointer (some ⟨bx, 1, none⟩))) (b := false) rfl (by kernel_rfl) (by kernel_rfl) (by kernel_rfl) (by decide) (fun _ _ _ h => h) (Or.inl ⟨by rfl, ?_⟩) (by kernel_rfl) (by assumption) ?_
              · intro u' hSu
                (try simp only [List.getElem_toArray, List.getElem_cons_zero, List.getElem_cons_succ])
                go_simp
              (try simp only [List.getElem_toArray, List.getElem_cons_zero, List.getElem_cons_succ])
              (try simp only [Act.put, List.setIfInBounds_toArray, List.set_cons_zero, List.set_cons_succ])
              refine wpU_ready (rs := [9]) (by kernel_rfl) (by simp) (AllU.cons (b := true) rfl (by kernel_rfl) ?_ (AllU.nil))
              · intro K' hK'
                (try simp only [List.getElem_toArray, List.getElem_cons_zero, List.getElem_cons_succ])
                go_simp
                have X8 := hid (X7.out.set (.slice d7 n7 c7))
                have K8 := hid (show RBx (u3.setCell ⟨bx, 1, none⟩ (.slice d7 n7 c7)) g s5 (.slice a n c) (.slice b Ls.length cb) (.slice d Rs.length cd) ∧ s5.length ≤ 20000 ∧ Rst (vals.drop (i + 1) ++ tShut :: ts) s5 ∧ ByS w2 g (u3.setCell ⟨bx, 1, none⟩ (.slice d7 n7 c7)) from ⟨K7.out.1.far Hgn.out 1 _, K7.out.2.1, K7.out.2.2.1, K7.out.2.2.2.put bx 1 _ HbW.out⟩)
                have Q8 : Hid (RwS (u3.setCell ⟨bx, 1, none⟩ (.slice d7 n7 c7)) (bx + 1) (.slice d7 n7 c7) (vals.take (i + 1))) := owns_keep Q7.out (KeepT.set X7.out (by decide) 1 _)
                refine hK'.out _ _ (fun e => by cases e) (fun hSh => ?_)
                clear hK' K' hSg K7 X7 Q7
                try simp only [List.getElem_toArray, List.getElem_cons_zero, List.getElem_cons_succ]
                try simp only [Act.put, List.setIfInBounds_toArray, List.set_cons_zero, List.set_cons_succ]
                refine wpU_done (by kernel_rfl) ?_ _
                clear hSh
                go_wp2
                go_roundg (vals.length - (i + 1))
                case measure => omega
                case rel => exact ⟨i + 1, s5, _, by omega, X8, Q8, K8⟩
    · obtain rfl : i = vals.length := by omega
      have HK1 := HK.out.2.2.1
      rw [List.drop_length] at HK1
      replace HK := hid (show RBx wr g s' (.slice a n c) (.slice b Ls.length cb) (.slice d Rs.length cd) ∧ s'.length ≤ 20000 ∧ Rst (tShut :: ts) s' ∧ ByS w2 g wr from ⟨HK.out.1, HK.out.2.1, HK1, HK.out.2.2.2⟩)
      have hqf := HQ.out
      rw [List.take_length] at hqf
      have HQF := hid hqf
      clear HK1 hqf HQ HLI
      have HQK : Hid (∀ (q : Value) (U U' : World) (s' : List UInt8), RwS U (bx + 1) q vals → RBx U g s' (.slice a n c) (.slice b Ls.length cb) (.slice d Rs.length cd) → ByS U g U' → RwS U' (bx + 1) q vals) := fun q U U' s' h1 h2 h3 => owns_keep h1 (h3.keep h2 (by decide))
      have hc : ((vals.length : Int) == 0) = false := by rw [beq_eq_false_iff_ne]; omega
      have hshut : (tShut.toList == [125]) = true := by rw [toList_data]; rfl
      obtain ⟨x0, x1⟩ := HX.out.cells
      go_wp2_with fail
      refine (HL.out _ _ tShut _ HK.out.1 HK.out.2.1 HK.out.2.2.1).mono ?_
      rintro e w5 ⟨rfl, s5, a1, a2, a3, a4⟩
      replace HX := hid (HX.out.by a4 Hbg.out)
      replace HQF := hid (HQK.out _ _ _ _ HQF.out HK.out.1 a4)
      replace HK := hid (show RBx w5 g s5 (.slice a n c) (.slice b Ls.length cb) (.slice d Rs.length cd) ∧ s5.length ≤ 20000 ∧ Rst (tShut :: ts) s5 ∧ ByS w2 g w5 from ⟨a1, a2, a3, HK.out.2.2.2.trans a4⟩)
      clear a1 a2 a3 a4 x0 x1
      go_wp2_with fail
      refine (HS.out _ _ tShut _ HK.out.1 HK.out.2.1 HK.out.2.2.1).mono ?_
      rintro e w6 ⟨rfl, s6, a1, a2, a3, a4⟩
      replace HX := hid (HX.out.by a4 Hbg.out)
      replace HQF := hid (HQK.out _ _ _ _ HQF.out HK.out.1 a4)
      replace HK := hid (show RBx w6 g s6 (.slice a n c) (.slice b Ls.length cb) (.slice d Rs.length cd) ∧ s6.length ≤ 20000 ∧ Rst ts s6 ∧ ByS w2 g w6 from ⟨a1, a2, a3, HK.out.2.2.2.trans a4⟩)
      clear a1 a2 a3 a4 hc hshut HL HS HQK
      have D6 := hid (D2.out.by HK.out.2.2.2 HK.out.1 HK.out.2.1)
      have B6 : Hid (Below g w w6) := B2.out.trans (HK.out.2.2.2.low (Nat.le_of_lt D2.out.box.lt))
      have T6 := hid HK.out.2.2.1
      have Q6 : Hid (RwS w6 g (.slice dq vals.length cq) vals) := owns_lower HQF.out (Nat.le_of_lt Hgb.out)
      have HVB : Hid (∀ k, (Value.slice a n c).ownBlock = some k → k < w2.heap.size) := fun k e => owns_old D2.out.vs.1 e
      have D2b : Hid (g < w6.heap.size) := D6.out.box.lt
      clear HK HQF D2 B2
      go_upto_region 5 with fail
      have hbD : Below w6.heap.size w6 w6.drew := (Below.refl _ w6).drew
      replace HX := hid (HX.out.below hbD)
      replace D6 := hid (D6.out.below hbD)
      replace B6 : Hid (Below g w w6.drew) := B6.out.drew
      replace Q6 : Hid (RwS w6.drew g (.slice dq vals.length cq) vals) := Q6.out
      replace D2b : Hid (g < w6.drew.heap.size) := D2b.out
      clear hbD
      refine wp_region_until 12 (fun (b : Bool) (u : World) => b = false → (u.cell? ⟨g, 1, none⟩ = some (.slice a n c) ∧ u.cell? ⟨bx, 0, none⟩ = some (.string nm) ∧ u.cell? ⟨bx, 1, none⟩ = some (.slice dq vals.length cq))) (by kernel_rfl) (fun _ => ⟨D6.out.box.cells.2.1, HX.out.cells.1, HX.out.cells.2⟩) (fun hSd => ?_)
      generalize w6.drew = u0 at *
      refine wpU_take (i := 0) (oi := _) (v := (.pointer (some ⟨g, 0, none⟩))) (b := false) rfl (by kernel_rfl) (by kernel_rfl) (by kernel_rfl) (by decide) (fun _ _ _ h => h) (Or.inl ⟨by rfl, ?_⟩) (by kernel_rfl) (by assumption) ?_
      · intro u' hSu
        (try simp only [List.getElem_toArray, List.getElem_cons_zero])
        go_simp
      (try simp only [List.getElem_toArray, List.getElem_cons_zero])
      (try simp only [Act.put, List.setIfInBounds_toArray, List.set_cons_zero, List.set_cons_succ])
      refine wpU_take (i := 1) (oi := _) (v := (.pointer (some ⟨g, 0, none⟩))) (b := false) rfl (by kernel_rfl) (by kernel_rfl) (by kernel_rfl) (by decide) (fun _ _ _ h => h) (Or.inl ⟨by rfl, ?_⟩) (by kernel_rfl) (by assumption) ?_
      · intro u' hSu
        (try simp only [List.getElem_toArray, List.getElem_cons_zero, List.getElem_cons_succ])
        go_simp
      (try simp only [List.getElem_toArray, List.getElem_cons_zero, List.getElem_cons_succ])
      (try simp only [Act.put, List.setIfInBounds_toArray, List.set_cons_zero, List.set_cons_succ])
      refine wpU_take (i := 2) (oi := _) (v := (.pointer (some ⟨g, 0, none⟩))) (b := false) rfl (by kernel_rfl) (by kernel_rfl) (by kernel_rfl) (by decide) (fun _ _ _ h => h) (Or.inl ⟨by rfl, ?_⟩) (by kernel_rfl) (by assumption) ?_
      · intro u' hSu
        (try simp only [List.getElem_toArray, List.getElem_cons_zero, List.getElem_cons_succ])
        go_simp
      (try simp only [List.getElem_toArray, List.getElem_cons_zero, List.getElem_cons_succ])
      (try simp only [Act.put, List.setIfInBounds_toArray, List.set_cons_zero, List.set_cons_succ])
      refine wpU_take (i := 3) (oi := _) (v := (.pointer (some ⟨g, 1, none⟩))) (b := false) rfl (by kernel_rfl) (by kernel_rfl) (by kernel_rfl) (by decide) (fun _ _ _ h => h) (Or.inl ⟨by rfl, ?_⟩) (by kernel_rfl) (by assumption) ?_
      · intro u' hSu
        (try simp only [List.getElem_toArray, List.getElem_cons_zero, List.getElem_cons_succ])
        go_simp
      (try simp only [List.getElem_toArray, List.getElem_cons_zero, List.getElem_cons_succ])
      (try simp only [Act.put, List.setIfInBounds_toArray, List.set_cons_zero, List.set_cons_succ])
      refine wpU_take (i := 4) (oi := _) (v := (.pointer (some ⟨g, 1, none⟩))) (b := false) rfl (by kernel_rfl) (by kernel_rfl) (by kernel_rfl) (by decide) (fun _ _ _ h => h) (Or.inl ⟨by rfl, ?_⟩) (by kernel_rfl) (by assumption) ?_
      · intro u' hSu
        (try simp only [List.getElem_toArray, List.getElem_cons_zero, List.getElem_cons_succ])
        go_simp
      (try simp only [List.getElem_toArray, List.getElem_cons_zero, List.getElem_cons_succ])
      (try simp only [Act.put, List.setIfInBounds_toArray, List.set_cons_zero, List.set_cons_succ])
      refine wpU_ahead (i := 5) (oi := _) (v := (.slice a n c)) rfl (by kernel_rfl) (by kernel_rfl) (by kernel_rfl) (by decide) rfl (by kernel_rfl) (fun _ _ _ h => h) (Or.inl ⟨by rfl, ?_⟩) (by kernel_rfl) (by assumption) ?_
      · intro u' hSu
        (try simp only [List.getElem_toArray, List.getElem_cons_zero, List.getElem_cons_succ])
        obtain ⟨k0, k1, k2⟩ := hSu rfl
        go_simp
      (try simp only [List.getElem_toArray, List.getElem_cons_zero, List.getElem_cons_succ])
      (try simp only [Act.put, List.setIfInBounds_toArray, List.set_cons_zero, List.set_cons_succ])
      refine wpU_ahead (i := 6) (oi := _) (v := (.agg #[.string nm, .slice dq vals.length cq])) rfl (by kernel_rfl) (by kernel_rfl) (by kernel_rfl) (by decide) rfl (by kernel_rfl) (fun _ _ _ h => h) (Or.inl ⟨by rfl, ?_⟩) (by kernel_rfl) (by assumption) ?_
      · intro u' hSu
        (try simp only [List.getElem_toArray, List.getElem_cons_zero, List.getElem_cons_succ])
        obtain ⟨k0, k1, k2⟩ := hSu rfl
        go_simp
      (try simp only [List.getElem_toArray, List.getElem_cons_zero, List.getElem_cons_succ])
      (try simp only [Act.put, List.setIfInBounds_toArray, List.set_cons_zero, List.set_cons_succ])
      refine wpU_ready (rs := [7]) (by kernel_rfl) (by simp) (AllU.cons (b := false) rfl (by kernel_rfl) ?_ (AllU.nil))
      · intro K' hK'
        (try simp only [List.getElem_toArray, List.getElem_cons_zero, List.getElem_cons_succ])
        go_simp
        have hbA : Below u0.heap.size u0 (u0.alloc (.cells #[.string nm, .slice dq vals.length cq] 47)) := (Below.refl _ u0).alloc (Nat.le_refl _) _
        replace HX := hid (HX.out.below hbA)
        replace D6 := hid (D6.out.below hbA)
        replace B6 : Hid (Below g w (u0.alloc (.cells #[.string nm, .slice dq vals.length cq] 47))) := B6.out.trans (hbA.mono (Nat.le_of_lt D2b.out))
        replace Q6 : Hid (RwS (u0.alloc (.cells #[.string nm, .slice dq vals.length cq] 47)) g (.slice dq vals.length cq) vals) := Q6.out.below hbA
        have hn0 : (u0.alloc (.cells #[.string nm, .slice dq vals.length cq] 47)).cell? ⟨u0.heap.size, 0, none⟩ = some (.string nm) := by rw [cell_of_row _ _ _ _ _ (0, 0) (heap_alloc_new u0 _)]; rfl
        have hn1 : (u0.alloc (.cells #[.string nm, .slice dq vals.length cq] 47)).cell? ⟨u0.heap.size, 1, none⟩ = some (.slice dq vals.length cq) := by rw [cell_of_row _ _ _ _ _ (0, 0) (heap_alloc_new u0 _)]; rfl
        have HN0 := hid hn0
        have HN1 := hid hn1
        clear hbA hn0 hn1
        refine hK'.out _ _ (fun _ => ⟨D6.out.box.cells.2.1, HX.out.cells.1, HX.out.cells.2⟩) (fun hSe => ?_)
        clear hK' K' hSd
        generalize u0.heap.size = gn at *
        generalize u0.alloc (.cells #[.string nm, .slice dq vals.length cq] 47) = u1 at *
        (try simp only [List.getElem_toArray, List.getElem_cons_zero, List.getElem_cons_succ])
        (try simp only [Act.put, List.setIfInBounds_toArray, List.set_cons_zero, List.set_cons_succ])
        refine wpU_ready (rs := [8]) (by kernel_rfl) (by simp) (AllU.cons (b := false) rfl (by kernel_rfl) ?_ (AllU.nil))
        · intro K' hK'
          rw [if_pos (by rfl)]
          refine wp_append_var _ _ rfl g (.slice a n c) Vs nm (.slice dq vals.length cq) ⟨_, _, _, rfl⟩ rfl D6.out.vs.1 gn rfl HN0.out HN1.out (by omega) (Nat.le_of_lt D6.out.box.lt) ?_
          intro v' u2 hr2 hg2
          obtain ⟨d7, c7, rfl, -⟩ := owns_slice hr2
          obtain ⟨b7, r7, e7⟩ := D6.out.pushV hr2 hg2 Q6.out
          have HB7 := hid b7
          have D7 := hid r7
          have B7 := hid (B6.out.trans e7)
          have XC : Hid (u2.cell? ⟨bx, 0, none⟩ = some (.string nm) ∧ u2.cell? ⟨bx, 1, none⟩ = some (.slice dq vals.length cq)) := by
            have hx : XB u2 bx nm (.slice dq vals.length cq) := (hg2.block bx HX.out.lt fun e => by have := HVB.out bx e.symm; have := HbW.out; omega).trans HX.out
            exact hx.cells
          clear hr2 hg2 b7 r7 e7
          refine hK'.out _ _ (fun _ => ⟨HB7.out.cells.2.1, XC.out⟩) (fun hSf => ?_)
          clear hK' K' hSe D6 B6 Q6 HN0 HN1 HX XC
          obtain ⟨-, n1, -, -⟩ := HB7.out.cells
          have f1 := HB7.out.fz 1
          (try simp only [List.getElem_toArray, List.getElem_cons_zero, List.getElem_cons_succ])
          (try simp only [Act.put, List.setIfInBounds_toArray, List.set_cons_zero, List.set_cons_succ])
          refine wpU_take (i := 9) (oi := _) (v := (.pointer (some ⟨g, 0, none⟩))) (b := false) rfl (by kernel_rfl) (by kernel_rfl) (by kernel_rfl) (by decide) (fun _ _ _ h => h) (Or.inl ⟨by rfl, ?_⟩) (by kernel_rfl) (by assumption) ?_
          · intro u' hSu
            (try simp only [List.getElem_toArray, List.getElem_cons_zero, List.getElem_cons_succ])
            go_simp
          (try simp only [List.getElem_toArray, List.getElem_cons_zero, List.getElem_cons_succ])
          (try simp only [Act.put, List.setIfInBounds_toArray, List.set_cons_zero, List.set_cons_succ])
          refine wpU_take (i := 10) (oi := _) (v := (.pointer (some ⟨g, 1, none⟩))) (b := false) rfl (by kernel_rfl) (by kernel_rfl) (by kernel_rfl) (by decide) (fun _ _ _ h => h) (Or.inl ⟨by rfl, ?_⟩) (by kernel_rfl) (by assumption) ?_
          · intro u' hSu
            (try simp only [List.getElem_toArray, List.getElem_cons_zero, List.getElem_cons_succ])
            go_simp
          (try simp only [List.getElem_toArray, List.getElem_cons_zero, List.getElem_cons_succ])
          (try simp only [Act.put, List.setIfInBounds_toArray, List.set_cons_zero, List.set_cons_succ])
          refine wpU_take (i := 11) (oi := _) (v := (.pointer (some ⟨g, 1, none⟩))) (b := false) rfl (by kernel_rfl) (by kernel_rfl) (by kernel_rfl) (by decide) (fun _ _ _ h => h) (Or.inl ⟨by rfl, ?_⟩) (by kernel_rfl) (by assumption) ?_
          · intro u' hSu
            (try simp only [List.getElem_toArray, List.getElem_cons_zero, List.getElem_cons_succ])
            go_simp
          (try simp only [List.getElem_toArray, List.getElem_cons_zero, List.getElem_cons_succ])
          (try simp only [Act.put, List.setIfInBounds_toArray, List.set_cons_zero, List.set_cons_succ])
          refine wpU_ready (rs := [12]) (by kernel_rfl) (by simp) (AllU.cons (b := true) rfl (by kernel_rfl) ?_ (AllU.nil))
          · intro K' hK'
            (try simp only [List.getElem_toArray, List.getElem_cons_zero, List.getElem_cons_succ])
            go_simp
            refine hK'.out _ _ (fun e => by cases e) (fun hSh => ?_)
            clear hK' K' hSf HB7
            try simp only [List.getElem_toArray, List.getElem_cons_zero, List.getElem_cons_succ]
            try simp only [Act.put, List.setIfInBounds_toArray, List.set_cons_zero, List.set_cons_succ]
            refine wpU_done (by kernel_rfl) ?_ _
            clear hSh n1 f1
            generalize u2.setCell ⟨g, 1, none⟩ (.slice d7 (Vs.length + 1) c7) = u3 at *
            have hbA : Below u3.heap.size u3 (u3.alloc (.cells #[.slice none 0 0] 22)) := (Below.refl _ u3).alloc (Nat.le_refl _) _
            have D8 := hid (D7.out.below hbA)
            have B8 := hid (B7.out.trans (hbA.mono (Nat.le_of_lt D7.out.box.lt)))
            have hca : (u3.alloc (.cells #[.slice none 0 0] 22)).cell? ⟨u3.heap.size, 0, none⟩ = some (.slice none 0 0) := by rw [cell_of_row _ _ _ _ _ (0, 0) (heap_alloc_new u3 _)]; rfl
            have HCA := hid hca
            have hgs := Nat.le_of_lt D8.out.box.lt
            obtain ⟨-, -, p2, -⟩ := D7.out.box.cells
            clear hbA hca D7 B7
            go_upto_region 7 with (at_builtin; refine wpList_append_ls rfl _ _ rfl g _ Ls (.slice none 0 0) ⟨_, _, _, rfl⟩ rfl D8.out.ls.1 u3.heap.size rfl HCA.out (by omega) hgs ?_; intro v4 W4 hr4 hg4; obtain ⟨d4, cd4, rfl, -⟩ := owns_slice hr4; have hpv := D8.out.pushL hr4 hg4 (RwI.emptyB _ _); have hm1 := hpv.1.cells.2.2.1; have hmf := hpv.1.fz 2; have D9 := hid hpv.2.1; have B9 := hid (B8.out.trans hpv.2.2); clear hpv hr4 hg4)
            clear p2 hm1 hmf hgs HCA D8 B8
            generalize W4.setCell ⟨g, 2, none⟩ (.slice d4 (Ls.length + 1) cd4) = u5 at *
            have hbA : Below u5.heap.size u5 (u5.alloc (.cells #[.slice none 0 0] 51)) := (Below.refl _ u5).alloc (Nat.le_refl _) _
            have D10 := hid (D9.out.below hbA)
            have B10 := hid (B9.out.trans (hbA.mono (Nat.le_of_lt D9.out.box.lt)))
            have hca : (u5.alloc (.cells #[.slice none 0 0] 51)).cell? ⟨u5.heap.size, 0, none⟩ = some (.slice none 0 0) := by rw [cell_of_row _ _ _ _ _ (0, 0) (heap_alloc_new u5 _)]; rfl
            have HCA := hid hca
            have hgs := Nat.le_of_lt D10.out.box.lt
            obtain ⟨-, -, -, p3⟩ := D9.out.box.cells
            clear hbA hca D9 B9
            go_wp2_with (at_builtin; refine wpList_append_rs rfl _ _ rfl g _ Rs (.slice none 0 0) ⟨_, _, _, rfl⟩ rfl D10.out.rs.1 u5.heap.size rfl HCA.out (by omega) hgs ?_; intro v5 W6 hr6 hg6; obtain ⟨d6, cd6, rfl, -⟩ := owns_slice hr6; have hpv := D10.out.pushR hr6 hg6 (RwF.empty _ _); have hm1 := hpv.1.cells.2.2.2; have hmf := hpv.1.fz 3; have D11 := hid hpv.2.1; have B11 := hid (B10.out.trans hpv.2.2); clear hpv hr6 hg6)
            go_end0
            exact ⟨rfl, s6, _, _, _, _, D11.out, T6.out, B11.out⟩
end Go.Proofs.YtojidhnkpeiimaaGreatDoor
