/- shown of package hidden, moved of package chain. -/
import Derived.Test.YtnnfmfdjgdgdhaaGreatDoorHidBOwn
import Derived.Test.YtnnfmfdjgdgdhaaGreatDoorConFToRtD
import Derived.Shelf.Slices.CompactI
import Derived.Laws.EntriesVeiled
namespace Go.Proofs.YtnnfmfdjgdgdhaaGreatDoor
open Go.RowKit Go.Shelf

/-- A hidden chain in a block of its own. -/
abbrev HC3 (x y z : Value) : Obj := .cells #[x, y, z] 27
def HBox (w : World) (g : Nat) (x y z : Value) : Prop := w.heap[g]? = some (.cells #[x, y, z] 27 (0, 0))
theorem HBox.new (w : World) (x y z : Value) : HBox (w.alloc (HC3 x y z)) w.heap.size x y z := heap_alloc_new w _
theorem HBox.lt {w : World} {g : Nat} {x y z : Value} (h : HBox w g x y z) : g < w.heap.size := (Array.getElem?_eq_some_iff.1 h).1
theorem HBox.below {w w' : World} {g b : Nat} {x y z : Value} (h : HBox w g x y z) (hb : Below b w w') (hg : g < b) : HBox w' g x y z := (hb.block g hg).trans h
theorem HBox.cells {w : World} {g : Nat} {x y z : Value} (h : HBox w g x y z) : w.cell? ⟨g, 0, none⟩ = some x ∧ w.cell? ⟨g, 1, none⟩ = some y ∧ w.cell? ⟨g, 2, none⟩ = some z := by
  refine ⟨?_, ?_, ?_⟩ <;> (rw [cell_of_row w g _ _ _ (0, 0) h]; rfl)
theorem Box.away {w : World} {g : Nat} {n : Bool} {x y : ByteArray} (h : Box w g n x y) (b j : Nat) (v : Value) (hne : g ≠ b) : Box (w.setCell ⟨b, j, none⟩ v) g n x y := (Below.heap_setCell w ⟨b, j, none⟩ v g hne).trans h
/-- A list under way in the block G, a fraction's box beside it. -/
structure MB (w : World) (G gB : Nat) (l : List Fr) (n : Bool) (x y : ByteArray) (U : World) : Prop where
  mf : MF w G l U
  bx : Box U gB n x y
theorem MB.step {w U U' : World} {G gB : Nat} {l : List Fr} {n : Bool} {x y : ByteArray} (h : MB w G gB l n x y U) (hb : Below U.heap.size U U') : MB w G gB l n x y U' := ⟨h.mf.step hb, h.bx.below hb h.bx.lt⟩
theorem MB.drew {w U : World} {G gB : Nat} {l : List Fr} {n : Bool} {x y : ByteArray} (h : MB w G gB l n x y U) : MB w G gB l n x y U.drew := ⟨h.mf.drew, h.bx.drew⟩
theorem MB.put {w U : World} {G gB : Nat} {l : List Fr} {n : Bool} {x y : ByteArray} (h : MB w G gB l n x y U) (hne : gB ≠ G) (hg : w.heap.size ≤ G) (i : Nat) (f : Fr) : MB w G gB (l.set i f) n x y (((U.setCell ⟨G, i * 3, none⟩ (.bool f.1)).setCell ⟨G, i * 3 + 1, none⟩ (.string f.2.1)).setCell ⟨G, i * 3 + 2, none⟩ (.string f.2.2)) :=
  ⟨h.mf.put hg i f, ((h.bx.away G _ _ hne).away G _ _ hne).away G _ _ hne⟩

set_option maxRecDepth 100000 in
set_option maxHeartbeats 1000000 in
theorem hShown_any (a b c d : Option Addr) (n1 n2 ca cb cc cd n x : Nat) (R : List (List Fr)) (r : List Fr) (f g : Nat → Rat) (w : World) (hR : FsS w c R) (hr : FrS w d r) (hf : Lst n f r) (hRl : R.length = n) (hg : ∀ i (h : i < R.length), ∃ hx : x < R[i].length, frQ R[i][x] = g i ∧ R[i][x].2.1.size + R[i][x].2.2.size ≤ 1500) (hm : ∀ i (h : i < R.length), R[i].length ≤ 100) (hn : n ≤ 100) :
    Calls Tryz.prog 29 #[.agg #[.slice a n1 ca, .slice b n2 cb, .slice c n cc], .slice d n cd, .int .i64 (x : Nat)] w fun e w' => ∃ G, e = .returned (.slice (some ⟨G, 0, none⟩) n n) ∧ w.heap.size ≤ G ∧ RowF w' G (lF n fun i => f i * g i) ∧ Below w.heap.size w w' := by
  obtain ⟨i0, hi0, hz0, hz1, hz2⟩ := info_parts Tryz.infoFrac
  have HFR := hid hR
  have HFr := hid hr
  have HLA := hid hf
  have HG := hid hg
  have HM := hid hm
  have HRL := hid hRl
  clear hR hr hf hg hm hRl
  have hfl := lF_length n fun i => f i * g i
  have HFG := hid (fun i (hi : i < n) => lF_get? (f := fun i => f i * g i) hi)
  generalize (lF n fun i => f i * g i) = FL at *
  have hB0 := (Below.refl w.heap.size w).alloc (Nat.le_refl _) (HC3 (.slice a n1 ca) (.slice b n2 cb) (.slice c n cc))
  have hH := HBox.new w (.slice a n1 ca) (.slice b n2 cb) (.slice c n cc)
  have HS0 : Hid ((w.alloc (HC3 (.slice a n1 ca) (.slice b n2 cb) (.slice c n cc))).heap.size = w.heap.size + 1) := by show _ = _; simp
  go_enter Tryz.func29, Tryz.ntmps29
  go_upto_region 1 with fail
  generalize (w.alloc (HC3 (.slice a n1 ca) (.slice b n2 cb) (.slice c n cc))) = w1 at *
  go_wp2_with (first | (at_make; refine wpList_make_full _ rfl _ _ 24 rfl w1.heap.size 32 i0 (.agg #[.bool false, .string ⟨#[]⟩, .string ⟨#[]⟩]) 3 Tryz.underlying24 hi0 hz0 hz1 .i64 .i64 _ _ n rfl rfl (by go_num) (by go_num) (by rw [hz2]; omega) (by unfold maxLen; omega) (Nat.le_refl _) ?_; intro w2 hown2 hgrow2))
  have hb2 := block_of_own3 hown2
  rw [made_frs] at hb2
  have hB2 : Below w1.heap.size w1 w2 := (Below.refl _ w1).grown hgrow2 (Nat.le_refl _) (fun k e => by cases e)
  rw [HS0.out] at hb2 ⊢
  have HK0 : Hid (MF w (w.heap.size + 1) (partF FL 0) w2) := ⟨by rw [partF_zero, hfl]; exact hb2, hB0.trans (hB2.mono hB0.size)⟩
  have HH := hid (hH.below hB2 hH.lt)
  have HW2 : Hid (Below w.heap.size w w2) := HK0.out.bel
  have hG : w.heap.size ≤ w.heap.size + 1 := by omega
  clear hown2 hgrow2 hb2 hB2 hB0 hH HS0
  go_loopw [15] (fun iv wr => ∃ i : Nat, i ≤ n ∧ iv = .int .i64 i ∧ Hid (MF w (w.heap.size + 1) (partF FL i) wr) ∧ Hid (HBox wr w.heap.size (.slice a n1 ca) (.slice b n2 cb) (.slice c n cc))) (fun iv _ => n - (intOf iv).toNat)
  case atStart => exact ⟨0, Nat.zero_le _, rfl, HK0, HH⟩
  case round =>
    obtain ⟨i, hi, rfl, HK1, HH1⟩ := hrel
    clear HK0 HH HW2
    by_cases hlt : i < n
    · have hia : i < r.length := by rw [HLA.out.len]; exact hlt
      have hiR : i < R.length := by rw [HRL.out]; exact hlt
      obtain ⟨ga, oa, rfl, hga, a0, a1, a2⟩ := HFr.out i hia
      obtain ⟨gc, oc, bc, cr, rfl, hgc, c0, hrow, hcr⟩ := HFR.out i hiR
      obtain ⟨hxr, hgx, hgs⟩ := HG.out i hiR
      obtain ⟨gr, or_, rfl, hgr, b0, b1, b2⟩ := hrow x hxr
      have hrm := HM.out i hiR
      obtain ⟨hd1, hd2⟩ := List.getElem?_eq_some_iff.1 (HFG.out i hlt)
      have HPS := hid (partF_set FL hd1)
      rw [hd2] at HPS
      have HMU : Hid (∀ V : World, Calls Tryz.prog 32 #[.agg #[.bool r[i].1, .string r[i].2.1, .string r[i].2.2], .agg #[.bool R[i][x].1, .string R[i][x].2.1, .string R[i][x].2.2]] V fun e w' => e = .returned (.agg #[.bool (qF (f i * g i)).1, .string (qF (f i * g i)).2.1, .string (qF (f i * g i)).2.2]) ∧ Below V.heap.size V w') := fun V => by
        have h1 := HLA.out.size i hia
        exact fMul_q (f i * g i) (HLA.out.is i hia) hgx rfl (by omega) (by omega)
      clear hd1 hd2 hrow hgx hgs
      generalize qF (f i * g i) = qf at *
      generalize r[i].1 = an at *
      generalize r[i].2.1 = ax at *
      generalize r[i].2.2 = ay at *
      generalize R[i][x].1 = bn at *
      generalize R[i][x].2.1 = bx at *
      generalize R[i][x].2.2 = by_ at *
      generalize R[i].length = rn at *
      have hA := (Below.refl wr.heap.size wr).alloc (Nat.le_refl _) (FC an ax ay)
      have HK : Hid (MB w (w.heap.size + 1) wr.heap.size (partF FL i) an ax ay (wr.alloc (FC an ax ay))) := ⟨HK1.out.step hA, Box.new wr an ax ay⟩
      have HH : Hid (HBox (wr.alloc (FC an ax ay)) w.heap.size (.slice a n1 ca) (.slice b n2 cb) (.slice (some ⟨gc, oc, none⟩) n cc)) := HH1.out.below hA HH1.out.lt
      have hne : wr.heap.size ≠ w.heap.size + 1 := by have := HK1.out.row.lt; omega
      have hgB : w.heap.size + 1 < wr.heap.size := HK1.out.row.lt
      have a0' := (HK1.out.bel.cell (p := ⟨ga, _, none⟩) hga).trans a0
      have a1' := (HK1.out.bel.cell (p := ⟨ga, _, none⟩) hga).trans a1
      have a2' := (HK1.out.bel.cell (p := ⟨ga, _, none⟩) hga).trans a2
      clear hA a0 a1 a2 HK1 HH1
      go_upto_region 5 with fail
      clear a0' a1' a2'
      generalize hgBe : wr.heap.size = gB at *
      generalize (wr.alloc (FC an ax ay)) = W at *
      have hbl := HK.out.mf.bel
      obtain ⟨-, -, e2⟩ := HH.out.cells
      have HELD : Hid (∀ u l, MB w (w.heap.size + 1) gB l an ax ay u → u.cell? ⟨w.heap.size, 2, none⟩ = some (.slice (some ⟨gc, oc, none⟩) n cc) → u.cell? ⟨gB, 0, none⟩ = some (.bool an) ∧ u.cell? ⟨gB, 1, none⟩ = some (.string ax) ∧ u.cell? ⟨gB, 2, none⟩ = some (.string ay) ∧ u.cell? ⟨w.heap.size, 2, none⟩ = some (.slice (some ⟨gc, oc, none⟩) n cc) ∧ u.cell? ⟨gc, oc + i, none⟩ = some (.slice (some ⟨gr, or_, none⟩) rn cr) ∧ u.cell? ⟨gr, or_ + x * 3, none⟩ = some (.bool bn) ∧ u.cell? ⟨gr, or_ + x * 3 + 1, none⟩ = some (.string bx) ∧ u.cell? ⟨gr, or_ + x * 3 + 2, none⟩ = some (.string by_)) := fun u l h e => ⟨h.bx.c0, h.bx.c1, h.bx.c2, e, (h.mf.bel.cell (p := ⟨gc, _, none⟩) hgc).trans c0, (h.mf.bel.cell (p := ⟨gr, _, none⟩) hgr).trans b0, (h.mf.bel.cell (p := ⟨gr, _, none⟩) hgr).trans b1, (h.mf.bel.cell (p := ⟨gr, _, none⟩) hgr).trans b2⟩
      clear c0 b0 b1 b2 hbl
      replace HK := hid HK.out.drew
      refine wp_region_held_drew (S := fun u => u.cell? ⟨gB, 0, none⟩ = some (.bool an) ∧ u.cell? ⟨gB, 1, none⟩ = some (.string ax) ∧ u.cell? ⟨gB, 2, none⟩ = some (.string ay) ∧ u.cell? ⟨w.heap.size, 2, none⟩ = some (.slice (some ⟨gc, oc, none⟩) n cc) ∧ u.cell? ⟨gc, oc + i, none⟩ = some (.slice (some ⟨gr, or_, none⟩) rn cr) ∧ u.cell? ⟨gr, or_ + x * 3, none⟩ = some (.bool bn) ∧ u.cell? ⟨gr, or_ + x * 3 + 1, none⟩ = some (.string bx) ∧ u.cell? ⟨gr, or_ + x * 3 + 2, none⟩ = some (.string by_)) (by kernel_rfl) (HELD.out _ _ HK.out e2) (fun hSd => ?_)
      have HHd : Hid (HBox W.drew w.heap.size (.slice a n1 ca) (.slice b n2 cb) (.slice (some ⟨gc, oc, none⟩) n cc)) := HH.out
      clear HH e2
      generalize W.drew = u0 at *
      refine wpAnyH_take (i := 0) (oi := _) (v := .slice (some ⟨w.heap.size + 1, 0, none⟩) n n) rfl (by kernel_rfl) (by kernel_rfl) (by kernel_rfl) (fun _ _ _ h => h) (Or.inl ⟨by rfl, ?_⟩) (by assumption) ?_
      · intro u' hSu
        (try simp only [List.getElem_toArray, List.getElem_cons_zero])
        go_simp
      (try simp only [List.getElem_toArray, List.getElem_cons_zero])
      (try simp only [Act.put, List.setIfInBounds_toArray, List.set_cons_zero, List.set_cons_succ])
      refine wpAnyH_take (i := 1) (oi := _) (v := .int .i64 (i : Nat)) rfl (by kernel_rfl) (by kernel_rfl) (by kernel_rfl) (fun _ _ _ h => h) (Or.inl ⟨by rfl, ?_⟩) (by assumption) ?_
      · intro u' hSu
        (try simp only [List.getElem_toArray, List.getElem_cons_zero, List.getElem_cons_succ])
        go_simp
      (try simp only [List.getElem_toArray, List.getElem_cons_zero, List.getElem_cons_succ])
      (try simp only [Act.put, List.setIfInBounds_toArray, List.set_cons_zero, List.set_cons_succ])
      refine wpAnyH_take (i := 2) (oi := _) (v := .agg #[.bool an, .string ax, .string ay]) rfl (by kernel_rfl) (by kernel_rfl) (by kernel_rfl) (fun _ _ _ h => h) (Or.inl ⟨by rfl, ?_⟩) (by assumption) ?_
      · intro u' hSu
        (try simp only [List.getElem_toArray, List.getElem_cons_zero, List.getElem_cons_succ])
        obtain ⟨s0, s1, s2, s3, s4, s5, s6, s7⟩ := hSu
        go_simp
      (try simp only [List.getElem_toArray, List.getElem_cons_zero, List.getElem_cons_succ])
      (try simp only [Act.put, List.setIfInBounds_toArray, List.set_cons_zero, List.set_cons_succ])
      refine wpAnyH_take (i := 3) (oi := _) (v := .pointer (some ⟨w.heap.size, 2, none⟩)) rfl (by kernel_rfl) (by kernel_rfl) (by kernel_rfl) (fun _ _ _ h => h) (Or.inl ⟨by rfl, ?_⟩) (by assumption) ?_
      · intro u' hSu
        (try simp only [List.getElem_toArray, List.getElem_cons_zero, List.getElem_cons_succ])
        go_simp
      (try simp only [List.getElem_toArray, List.getElem_cons_zero, List.getElem_cons_succ])
      (try simp only [Act.put, List.setIfInBounds_toArray, List.set_cons_zero, List.set_cons_succ])
      refine wpAnyH_take (i := 4) (oi := _) (v := .slice (some ⟨gc, oc, none⟩) n cc) rfl (by kernel_rfl) (by kernel_rfl) (by kernel_rfl) (fun _ _ _ h => h) (Or.inl ⟨by rfl, ?_⟩) (by assumption) ?_
      · intro u' hSu
        (try simp only [List.getElem_toArray, List.getElem_cons_zero, List.getElem_cons_succ])
        obtain ⟨s0, s1, s2, s3, s4, s5, s6, s7⟩ := hSu
        go_simp
      (try simp only [List.getElem_toArray, List.getElem_cons_zero, List.getElem_cons_succ])
      (try simp only [Act.put, List.setIfInBounds_toArray, List.set_cons_zero, List.set_cons_succ])
      refine wpAnyH_take (i := 5) (oi := _) (v := .int .i64 (i : Nat)) rfl (by kernel_rfl) (by kernel_rfl) (by kernel_rfl) (fun _ _ _ h => h) (Or.inl ⟨by rfl, ?_⟩) (by assumption) ?_
      · intro u' hSu
        (try simp only [List.getElem_toArray, List.getElem_cons_zero, List.getElem_cons_succ])
        go_simp
      (try simp only [List.getElem_toArray, List.getElem_cons_zero, List.getElem_cons_succ])
      (try simp only [Act.put, List.setIfInBounds_toArray, List.set_cons_zero, List.set_cons_succ])
      refine wpAnyH_take (i := 6) (oi := _) (v := .pointer (some ⟨gc, oc + i, none⟩)) rfl (by kernel_rfl) (by kernel_rfl) (by kernel_rfl) (fun _ _ _ h => h) (Or.inl ⟨by rfl, ?_⟩) (by assumption) ?_
      · intro u' hSu
        (try simp only [List.getElem_toArray, List.getElem_cons_zero, List.getElem_cons_succ])
        go_simp
      (try simp only [List.getElem_toArray, List.getElem_cons_zero, List.getElem_cons_succ])
      (try simp only [Act.put, List.setIfInBounds_toArray, List.set_cons_zero, List.set_cons_succ])
      refine wpAnyH_take (i := 7) (oi := _) (v := .slice (some ⟨gr, or_, none⟩) rn cr) rfl (by kernel_rfl) (by kernel_rfl) (by kernel_rfl) (fun _ _ _ h => h) (Or.inl ⟨by rfl, ?_⟩) (by assumption) ?_
      · intro u' hSu
        (try simp only [List.getElem_toArray, List.getElem_cons_zero, List.getElem_cons_succ])
        obtain ⟨s0, s1, s2, s3, s4, s5, s6, s7⟩ := hSu
        go_simp
      (try simp only [List.getElem_toArray, List.getElem_cons_zero, List.getElem_cons_succ])
      (try simp only [Act.put, List.setIfInBounds_toArray, List.set_cons_zero, List.set_cons_succ])
      refine wpAnyH_take (i := 8) (oi := _) (v := .int .i64 (x : Nat)) rfl (by kernel_rfl) (by kernel_rfl) (by kernel_rfl) (fun _ _ _ h => h) (Or.inl ⟨by rfl, ?_⟩) (by assumption) ?_
      · intro u' hSu
        (try simp only [List.getElem_toArray, List.getElem_cons_zero, List.getElem_cons_succ])
        go_simp
      (try simp only [List.getElem_toArray, List.getElem_cons_zero, List.getElem_cons_succ])
      (try simp only [Act.put, List.setIfInBounds_toArray, List.set_cons_zero, List.set_cons_succ])
      refine wpAnyH_take (i := 9) (oi := _) (v := .pointer (some ⟨gr, or_ + x * 3, none⟩)) rfl (by kernel_rfl) (by kernel_rfl) (by kernel_rfl) (fun _ _ _ h => h) (Or.inl ⟨by rfl, ?_⟩) (by assumption) ?_
      · intro u' hSu
        (try simp only [List.getElem_toArray, List.getElem_cons_zero, List.getElem_cons_succ])
        go_simp
      (try simp only [List.getElem_toArray, List.getElem_cons_zero, List.getElem_cons_succ])
      (try simp only [Act.put, List.setIfInBounds_toArray, List.set_cons_zero, List.set_cons_succ])
      refine wpAnyH_take (i := 10) (oi := _) (v := .agg #[.bool bn, .string bx, .string by_]) rfl (by kernel_rfl) (by kernel_rfl) (by kernel_rfl) (fun _ _ _ h => h) (Or.inl ⟨by rfl, ?_⟩) (by assumption) ?_
      · intro u' hSu
        (try simp only [List.getElem_toArray, List.getElem_cons_zero, List.getElem_cons_succ])
        obtain ⟨s0, s1, s2, s3, s4, s5, s6, s7⟩ := hSu
        go_simp
      (try simp only [List.getElem_toArray, List.getElem_cons_zero, List.getElem_cons_succ])
      (try simp only [Act.put, List.setIfInBounds_toArray, List.set_cons_zero, List.set_cons_succ])
      refine wpAnyH_ready (rs := [11]) (by kernel_rfl) (by simp) (AllReadyH.cons rfl ?_ (AllReadyH.nil))
      · intro K' hK'
        (try simp only [List.getElem_toArray, List.getElem_cons_zero, List.getElem_cons_succ])
        go_simp
        refine (HMU.out _).mono ?_
        rintro e u1 ⟨rfl, hb⟩
        replace HK := hid (HK.out.step hb)
        replace HHd := hid (HHd.out.below hb HHd.out.lt)
        refine hK'.out _ _ (HELD.out _ _ HK.out HHd.out.cells.2.2) (fun hSe => ?_)
        clear hK' K' hSd
        have hSd := hSe
        clear hSe hb
        (try simp only [List.getElem_toArray, List.getElem_cons_zero, List.getElem_cons_succ])
        (try simp only [Act.put, List.setIfInBounds_toArray, List.set_cons_zero, List.set_cons_succ])
        refine wpAnyH_take (i := 12) (oi := _) (v := .pointer (some ⟨w.heap.size + 1, i * 3, none⟩)) rfl (by kernel_rfl) (by kernel_rfl) (by kernel_rfl) (fun _ _ _ h => h) (Or.inl ⟨by rfl, ?_⟩) (by assumption) ?_
        · intro u' hSu
          (try simp only [List.getElem_toArray, List.getElem_cons_zero, List.getElem_cons_succ])
          go_simp
        (try simp only [List.getElem_toArray, List.getElem_cons_zero, List.getElem_cons_succ])
        (try simp only [Act.put, List.setIfInBounds_toArray, List.set_cons_zero, List.set_cons_succ])
        obtain ⟨k0, k1, k2⟩ := HK.out.mf.row.cells i (by rw [partF_length _ (by omega)]; omega)
        have f0 := HK.out.mf.row.fz (i * 3)
        have f1 := HK.out.mf.row.fz (i * 3 + 1)
        have f2 := HK.out.mf.row.fz (i * 3 + 2)
        generalize (partF FL i)[i]'(by rw [partF_length _ (by omega)]; omega) = z at *
        obtain ⟨zn, zx, zy⟩ := z
        simp only at k0 k1 k2
        refine wpAnyH_ready (rs := [13]) (by kernel_rfl) (by simp) (AllReadyH.cons rfl ?_ (AllReadyH.nil))
        · intro K' hK'
          (try simp only [List.getElem_toArray, List.getElem_cons_zero, List.getElem_cons_succ])
          go_simp
          have HHp : Hid (HBox (((u1.setCell ⟨w.heap.size + 1, i * 3, none⟩ (.bool qf.1)).setCell ⟨w.heap.size + 1, i * 3 + 1, none⟩ (.string qf.2.1)).setCell ⟨w.heap.size + 1, i * 3 + 2, none⟩ (.string qf.2.2)) w.heap.size (.slice a n1 ca) (.slice b n2 cb) (.slice (some ⟨gc, oc, none⟩) n cc)) := (((Below.heap_setCell _ ⟨w.heap.size + 1, i * 3 + 2, none⟩ _ w.heap.size (by simp)).trans (Below.heap_setCell _ ⟨w.heap.size + 1, i * 3 + 1, none⟩ _ w.heap.size (by simp))).trans (Below.heap_setCell _ ⟨w.heap.size + 1, i * 3, none⟩ _ w.heap.size (by simp))).trans HHd.out
          refine hK'.out _ _ (HELD.out _ _ (HK.out.put hne hG i qf) HHp.out.cells.2.2) (fun _ => wpAnyH_done (by kernel_rfl) ?_ _)
          clear hK' K' hSd
          replace HK := hid (HK.out.put hne hG i qf)
          rw [HPS.out] at HK
          clear k0 k1 k2 f0 f1 f2
          go_wp2
          go_roundw
          case rel => exact ⟨i + 1, by omega, by go_num, HK.out.mf, HHp⟩
          case measure => simp [intOf]; omega
    · obtain rfl : i = n := by omega
      have hfin := HK1.out.row
      rw [← hfl, partF_all] at hfin
      have HFI := hid hfin
      clear hfin
      go_wp2
      go_ret
      exact ⟨w.heap.size + 1, rfl, by omega, HFI.out, HK1.out.bel⟩

set_option maxRecDepth 100000 in
set_option maxHeartbeats 2000000 in
theorem chMoved_any (a c : Option Addr) (ca cc n : Nat) (l : List Fr) (R : List (List Fr)) (f : Nat → Rat) (g : Nat → Nat → Rat) (w : World) (ha : FrS w a l) (hR : FsS w c R) (hf : Lst n f l) (hRl : R.length = n) (hg : ∀ i (h : i < R.length), Lst n (g i) R[i]) (hsz : ∀ i j, i < n → j < n → qw (f i * g i j) ≤ 1500) (hn : n ≤ 4) :
    Calls Tryz.prog 70 #[.slice a n ca, .slice c n cc] w fun e w' => ∃ G, e = .returned (.slice (some ⟨G, 0, none⟩) n n) ∧ w.heap.size ≤ G ∧ RowF w' G (lF n fun j => sumR (fun i => f i * g i j) n) ∧ Below w.heap.size w w' := by
  obtain ⟨i0, hi0, hz0, hz1, hz2⟩ := info_parts Tryz.infoFrac
  have HFA := hid ha
  have HFR := hid hR
  have HLA := hid hf
  have HG := hid hg
  have HSZ := hid hsz
  have HRL := hid hRl
  clear ha hR hf hg hsz hRl
  have hfl := lF_length n fun j => sumR (fun i => f i * g i j) n
  have HFG := hid (fun j (hj : j < n) => lF_get? (f := fun j => sumR (fun i => f i * g i j) n) hj)
  generalize (lF n fun j => sumR (fun i => f i * g i j) n) = FL at *
  go_enter Tryz.func70, Tryz.ntmps70
  go_upto_region 2 with (at_make; refine wpList_make_full _ rfl _ _ 24 rfl w.heap.size 32 i0 (.agg #[.bool false, .string ⟨#[]⟩, .string ⟨#[]⟩]) 3 Tryz.underlying24 hi0 hz0 hz1 .i64 .i64 _ _ n rfl rfl (by go_num) (by go_num) (by rw [hz2]; omega) (by unfold maxLen; omega) (Nat.le_refl _) ?_; intro w2 hown2 hgrow2)
  have hb2 := block_of_own3 hown2
  rw [made_frs] at hb2
  have hB2 : Below w.heap.size w w2 := (Below.refl _ w).grown hgrow2 (Nat.le_refl _) (fun k e => by cases e)
  have HK0 : Hid (MF w w.heap.size (partF FL 0) w2) := ⟨by rw [partF_zero, hfl]; exact hb2, hB2⟩
  clear hown2 hgrow2 hb2 hB2
  go_wp2_with fail
  go_loopw [14] (fun jv wr => ∃ j : Nat, j ≤ n ∧ jv = .int .i64 j ∧ Hid (MF w w.heap.size (partF FL j) wr)) (fun jv _ => n - (intOf jv).toNat)
  case atStart => exact ⟨0, Nat.zero_le _, rfl, HK0⟩
  case round =>
    obtain ⟨j, hj, rfl, HK⟩ := hrel
    clear HK0
    by_cases hjl : j < n
    · have htl := lF_length n fun i => f i * g i j
      have HTG := hid (fun i (hi : i < n) => lF_get? (f := fun i => f i * g i j) hi)
      have HTL : Hid (Lst n (fun i => f i * g i j) (lF n fun i => f i * g i j)) := Lst.mk' fun i hi => HSZ.out i j hi hjl
      generalize (lF n fun i => f i * g i j) = TL at *
      generalize wr = W at *
      go_upto_region 6 with (at_make; refine wpList_make_full _ rfl _ _ 24 rfl W.heap.size 32 i0 (.agg #[.bool false, .string ⟨#[]⟩, .string ⟨#[]⟩]) 3 Tryz.underlying24 hi0 hz0 hz1 .i64 .i64 _ _ n rfl rfl (by go_num) (by go_num) (by rw [hz2]; omega) (by unfold maxLen; omega) (Nat.le_refl _) ?_; intro w2 hown2 hgrow2)
      have hb2 := block_of_own3 hown2
      rw [made_frs] at hb2
      have hB2 : Below W.heap.size W w2 := (Below.refl _ W).grown hgrow2 (Nat.le_refl _) (fun k e => by cases e)
      have HI0 : Hid (MF W W.heap.size (partF TL 0) w2) := ⟨by rw [partF_zero, htl]; exact hb2, hB2⟩
      clear hown2 hgrow2 hb2 hB2
      go_wp2_with fail
      go_loopw [22] (fun iv wr => ∃ i : Nat, i ≤ n ∧ iv = .int .i64 i ∧ Hid (MF W W.heap.size (partF TL i) wr)) (fun iv _ => n - (intOf iv).toNat)
      case atStart => exact ⟨0, Nat.zero_le _, rfl, HI0⟩
      case round =>
        obtain ⟨i, hi, rfl, HI⟩ := hrel
        clear HI0
        by_cases hlt : i < n
        · have hia : i < l.length := by rw [HLA.out.len]; exact hlt
          have hiR : i < R.length := by rw [HRL.out]; exact hlt
          have hjr : j < R[i].length := by rw [(HG.out i hiR).len]; exact hjl
          obtain ⟨ga, oa, rfl, hga, a0, a1, a2⟩ := HFA.out i hia
          obtain ⟨gc, oc, bc, cr, rfl, hgc, c0, hrow, hcr⟩ := HFR.out i hiR
          obtain ⟨gr, or_, rfl, hgr, b0, b1, b2⟩ := hrow j hjr
          obtain ⟨hd1, hd2⟩ := List.getElem?_eq_some_iff.1 (HTG.out i hlt)
          have HPS := hid (partF_set TL hd1)
          rw [hd2] at HPS
          have hrl := (HG.out i hiR).len
          have HMU : Hid (∀ V : World, Calls Tryz.prog 32 #[.agg #[.bool l[i].1, .string l[i].2.1, .string l[i].2.2], .agg #[.bool R[i][j].1, .string R[i][j].2.1, .string R[i][j].2.2]] V fun e w' => e = .returned (.agg #[.bool (qF (f i * g i j)).1, .string (qF (f i * g i j)).2.1, .string (qF (f i * g i j)).2.2]) ∧ Below V.heap.size V w') := fun V => by
            have h1 := HLA.out.size i hia
            have h2 := (HG.out i hiR).size j hjr
            exact fMul_q (f i * g i j) (HLA.out.is i hia) ((HG.out i hiR).is j hjr) rfl (by omega) (by omega)
          clear hd1 hd2 hrow
          generalize qF (f i * g i j) = qf at *
          generalize l[i].1 = an at *
          generalize l[i].2.1 = ax at *
          generalize l[i].2.2 = ay at *
          generalize R[i][j].1 = bn at *
          generalize R[i][j].2.1 = bx at *
          generalize R[i][j].2.2 = by_ at *
          generalize R[i].length = rn at *
          go_upto_region 9 with fail
          have HELD : Hid (∀ u, Below W.heap.size W u → u.cell? ⟨ga, oa + i * 3, none⟩ = some (.bool an) ∧ u.cell? ⟨ga, oa + i * 3 + 1, none⟩ = some (.string ax) ∧ u.cell? ⟨ga, oa + i * 3 + 2, none⟩ = some (.string ay) ∧ u.cell? ⟨gc, oc + i, none⟩ = some (.slice (some ⟨gr, or_, none⟩) rn cr) ∧ u.cell? ⟨gr, or_ + j * 3, none⟩ = some (.bool bn) ∧ u.cell? ⟨gr, or_ + j * 3 + 1, none⟩ = some (.string bx) ∧ u.cell? ⟨gr, or_ + j * 3 + 2, none⟩ = some (.string by_)) := fun u h0 => by
            have h := HK.out.bel.trans (h0.mono HK.out.bel.size)
            exact ⟨(h.cell (p := ⟨ga, _, none⟩) hga).trans a0, (h.cell (p := ⟨ga, _, none⟩) hga).trans a1, (h.cell (p := ⟨ga, _, none⟩) hga).trans a2, (h.cell (p := ⟨gc, _, none⟩) hgc).trans c0, (h.cell (p := ⟨gr, _, none⟩) hgr).trans b0, (h.cell (p := ⟨gr, _, none⟩) hgr).trans b1, (h.cell (p := ⟨gr, _, none⟩) hgr).trans b2⟩
          clear a0 a1 a2 c0 b0 b1 b2
          replace HI := hid HI.out.drew
          refine wp_region_held_drew (S := fun u => u.cell? ⟨ga, oa + i * 3, none⟩ = some (.bool an) ∧ u.cell? ⟨ga, oa + i * 3 + 1, none⟩ = some (.string ax) ∧ u.cell? ⟨ga, oa + i * 3 + 2, none⟩ = some (.string ay) ∧ u.cell? ⟨gc, oc + i, none⟩ = some (.slice (some ⟨gr, or_, none⟩) rn cr) ∧ u.cell? ⟨gr, or_ + j * 3, none⟩ = some (.bool bn) ∧ u.cell? ⟨gr, or_ + j * 3 + 1, none⟩ = some (.string bx) ∧ u.cell? ⟨gr, or_ + j * 3 + 2, none⟩ = some (.string by_)) (by kernel_rfl) (HELD.out _ HI.out.bel) (fun hSd => ?_)
          generalize wr.drew = u0 at *
          refine wpAnyH_take (i := 0) (oi := _) (v := .slice (some ⟨W.heap.size, 0, none⟩) n n) rfl (by kernel_rfl) (by kernel_rfl) (by kernel_rfl) (fun _ _ _ h => h) (Or.inl ⟨by rfl, ?_⟩) (by assumption) ?_
          · intro u' hSu
            (try simp only [List.getElem_toArray, List.getElem_cons_zero])
            go_simp
          (try simp only [List.getElem_toArray, List.getElem_cons_zero])
          (try simp only [Act.put, List.setIfInBounds_toArray, List.set_cons_zero, List.set_cons_succ])
          refine wpAnyH_take (i := 1) (oi := _) (v := .int .i64 (i : Nat)) rfl (by kernel_rfl) (by kernel_rfl) (by kernel_rfl) (fun _ _ _ h => h) (Or.inl ⟨by rfl, ?_⟩) (by assumption) ?_
          · intro u' hSu
            (try simp only [List.getElem_toArray, List.getElem_cons_zero, List.getElem_cons_succ])
            go_simp
          (try simp only [List.getElem_toArray, List.getElem_cons_zero, List.getElem_cons_succ])
          (try simp only [Act.put, List.setIfInBounds_toArray, List.set_cons_zero, List.set_cons_succ])
          refine wpAnyH_take (i := 2) (oi := _) (v := .slice (some ⟨ga, oa, none⟩) n ca) rfl (by kernel_rfl) (by kernel_rfl) (by kernel_rfl) (fun _ _ _ h => h) (Or.inl ⟨by rfl, ?_⟩) (by assumption) ?_
          · intro u' hSu
            (try simp only [List.getElem_toArray, List.getElem_cons_zero, List.getElem_cons_succ])
            go_simp
          (try simp only [List.getElem_toArray, List.getElem_cons_zero, List.getElem_cons_succ])
          (try simp only [Act.put, List.setIfInBounds_toArray, List.set_cons_zero, List.set_cons_succ])
          refine wpAnyH_take (i := 3) (oi := _) (v := .int .i64 (i : Nat)) rfl (by kernel_rfl) (by kernel_rfl) (by kernel_rfl) (fun _ _ _ h => h) (Or.inl ⟨by rfl, ?_⟩) (by assumption) ?_
          · intro u' hSu
            (try simp only [List.getElem_toArray, List.getElem_cons_zero, List.getElem_cons_succ])
            go_simp
          (try simp only [List.getElem_toArray, List.getElem_cons_zero, List.getElem_cons_succ])
          (try simp only [Act.put, List.setIfInBounds_toArray, List.set_cons_zero, List.set_cons_succ])
          refine wpAnyH_take (i := 4) (oi := _) (v := .pointer (some ⟨ga, oa + i * 3, none⟩)) rfl (by kernel_rfl) (by kernel_rfl) (by kernel_rfl) (fun _ _ _ h => h) (Or.inl ⟨by rfl, ?_⟩) (by assumption) ?_
          · intro u' hSu
            (try simp only [List.getElem_toArray, List.getElem_cons_zero, List.getElem_cons_succ])
            go_simp
          (try simp only [List.getElem_toArray, List.getElem_cons_zero, List.getElem_cons_succ])
          (try simp only [Act.put, List.setIfInBounds_toArray, List.set_cons_zero, List.set_cons_succ])
          refine wpAnyH_take (i := 5) (oi := _) (v := .agg #[.bool an, .string ax, .string ay]) rfl (by kernel_rfl) (by kernel_rfl) (by kernel_rfl) (fun _ _ _ h => h) (Or.inl ⟨by rfl, ?_⟩) (by assumption) ?_
          · intro u' hSu
            (try simp only [List.getElem_toArray, List.getElem_cons_zero, List.getElem_cons_succ])
            obtain ⟨s0, s1, s2, s3, s4, s5, s6⟩ := hSu
            go_simp
          (try simp only [List.getElem_toArray, List.getElem_cons_zero, List.getElem_cons_succ])
          (try simp only [Act.put, List.setIfInBounds_toArray, List.set_cons_zero, List.set_cons_succ])
          refine wpAnyH_take (i := 6) (oi := _) (v := .slice (some ⟨gc, oc, none⟩) n cc) rfl (by kernel_rfl) (by kernel_rfl) (by kernel_rfl) (fun _ _ _ h => h) (Or.inl ⟨by rfl, ?_⟩) (by assumption) ?_
          · intro u' hSu
            (try simp only [List.getElem_toArray, List.getElem_cons_zero, List.getElem_cons_succ])
            go_simp
          (try simp only [List.getElem_toArray, List.getElem_cons_zero, List.getElem_cons_succ])
          (try simp only [Act.put, List.setIfInBounds_toArray, List.set_cons_zero, List.set_cons_succ])
          refine wpAnyH_take (i := 7) (oi := _) (v := .int .i64 (i : Nat)) rfl (by kernel_rfl) (by kernel_rfl) (by kernel_rfl) (fun _ _ _ h => h) (Or.inl ⟨by rfl, ?_⟩) (by assumption) ?_
          · intro u' hSu
            (try simp only [List.getElem_toArray, List.getElem_cons_zero, List.getElem_cons_succ])
            go_simp
          (try simp only [List.getElem_toArray, List.getElem_cons_zero, List.getElem_cons_succ])
          (try simp only [Act.put, List.setIfInBounds_toArray, List.set_cons_zero, List.set_cons_succ])
          refine wpAnyH_take (i := 8) (oi := _) (v := .pointer (some ⟨gc, oc + i, none⟩)) rfl (by kernel_rfl) (by kernel_rfl) (by kernel_rfl) (fun _ _ _ h => h) (Or.inl ⟨by rfl, ?_⟩) (by assumption) ?_
          · intro u' hSu
            (try simp only [List.getElem_toArray, List.getElem_cons_zero, List.getElem_cons_succ])
            go_simp
          (try simp only [List.getElem_toArray, List.getElem_cons_zero, List.getElem_cons_succ])
          (try simp only [Act.put, List.setIfInBounds_toArray, List.set_cons_zero, List.set_cons_succ])
          refine wpAnyH_take (i := 9) (oi := _) (v := .slice (some ⟨gr, or_, none⟩) rn cr) rfl (by kernel_rfl) (by kernel_rfl) (by kernel_rfl) (fun _ _ _ h => h) (Or.inl ⟨by rfl, ?_⟩) (by assumption) ?_
          · intro u' hSu
            (try simp only [List.getElem_toArray, List.getElem_cons_zero, List.getElem_cons_succ])
            obtain ⟨s0, s1, s2, s3, s4, s5, s6⟩ := hSu
            go_simp
          (try simp only [List.getElem_toArray, List.getElem_cons_zero, List.getElem_cons_succ])
          (try simp only [Act.put, List.setIfInBounds_toArray, List.set_cons_zero, List.set_cons_succ])
          refine wpAnyH_take (i := 10) (oi := _) (v := .int .i64 (j : Nat)) rfl (by kernel_rfl) (by kernel_rfl) (by kernel_rfl) (fun _ _ _ h => h) (Or.inl ⟨by rfl, ?_⟩) (by assumption) ?_
          · intro u' hSu
            (try simp only [List.getElem_toArray, List.getElem_cons_zero, List.getElem_cons_succ])
            go_simp
          (try simp only [List.getElem_toArray, List.getElem_cons_zero, List.getElem_cons_succ])
          (try simp only [Act.put, List.setIfInBounds_toArray, List.set_cons_zero, List.set_cons_succ])
          refine wpAnyH_take (i := 11) (oi := _) (v := .pointer (some ⟨gr, or_ + j * 3, none⟩)) rfl (by kernel_rfl) (by kernel_rfl) (by kernel_rfl) (fun _ _ _ h => h) (Or.inl ⟨by rfl, ?_⟩) (by assumption) ?_
          · intro u' hSu
            (try simp only [List.getElem_toArray, List.getElem_cons_zero, List.getElem_cons_succ])
            go_simp
          (try simp only [List.getElem_toArray, List.getElem_cons_zero, List.getElem_cons_succ])
          (try simp only [Act.put, List.setIfInBounds_toArray, List.set_cons_zero, List.set_cons_succ])
          refine wpAnyH_take (i := 12) (oi := _) (v := .agg #[.bool bn, .string bx, .string by_]) rfl (by kernel_rfl) (by kernel_rfl) (by kernel_rfl) (fun _ _ _ h => h) (Or.inl ⟨by rfl, ?_⟩) (by assumption) ?_
          · intro u' hSu
            (try simp only [List.getElem_toArray, List.getElem_cons_zero, List.getElem_cons_succ])
            obtain ⟨s0, s1, s2, s3, s4, s5, s6⟩ := hSu
            go_simp
          (try simp only [List.getElem_toArray, List.getElem_cons_zero, List.getElem_cons_succ])
          (try simp only [Act.put, List.setIfInBounds_toArray, List.set_cons_zero, List.set_cons_succ])
          refine wpAnyH_ready (rs := [13]) (by kernel_rfl) (by simp) (AllReadyH.cons rfl ?_ (AllReadyH.nil))
          · intro K' hK'
            (try simp only [List.getElem_toArray, List.getElem_cons_zero, List.getElem_cons_succ])
            go_simp
            refine (HMU.out _).mono ?_
            rintro e u1 ⟨rfl, hb⟩
            replace HI := hid (HI.out.step hb)
            refine hK'.out _ _ (HELD.out _ HI.out.bel) (fun hSe => ?_)
            clear hK' K' hSd
            have hSd := hSe
            clear hSe hb
            (try simp only [List.getElem_toArray, List.getElem_cons_zero, List.getElem_cons_succ])
            (try simp only [Act.put, List.setIfInBounds_toArray, List.set_cons_zero, List.set_cons_succ])
            refine wpAnyH_take (i := 14) (oi := _) (v := .pointer (some ⟨W.heap.size, i * 3, none⟩)) rfl (by kernel_rfl) (by kernel_rfl) (by kernel_rfl) (fun _ _ _ h => h) (Or.inl ⟨by rfl, ?_⟩) (by assumption) ?_
            · intro u' hSu
              (try simp only [List.getElem_toArray, List.getElem_cons_zero, List.getElem_cons_succ])
              go_simp
            (try simp only [List.getElem_toArray, List.getElem_cons_zero, List.getElem_cons_succ])
            (try simp only [Act.put, List.setIfInBounds_toArray, List.set_cons_zero, List.set_cons_succ])
            obtain ⟨k0, k1, k2⟩ := HI.out.row.cells i (by rw [partF_length _ (by omega)]; omega)
            have f0 := HI.out.row.fz (i * 3)
            have f1 := HI.out.row.fz (i * 3 + 1)
            have f2 := HI.out.row.fz (i * 3 + 2)
            generalize (partF TL i)[i]'(by rw [partF_length _ (by omega)]; omega) = z at *
            obtain ⟨zn, zx, zy⟩ := z
            simp only at k0 k1 k2
            refine wpAnyH_ready (rs := [15]) (by kernel_rfl) (by simp) (AllReadyH.cons rfl ?_ (AllReadyH.nil))
            · intro K' hK'
              (try simp only [List.getElem_toArray, List.getElem_cons_zero, List.getElem_cons_succ])
              go_simp
              refine hK'.out _ _ (HELD.out _ (HI.out.put (Nat.le_refl _) i qf).bel) (fun _ => wpAnyH_done (by kernel_rfl) ?_ _)
              clear hK' K' hSd
              replace HI := hid (HI.out.put (Nat.le_refl _) i qf)
              rw [HPS.out] at HI
              clear k0 k1 k2 f0 f1 f2
              go_wp2
              go_roundw
              case rel => exact ⟨i + 1, by omega, by go_num, HI⟩
              case measure => simp [intOf]; omega
        · obtain rfl : i = n := by omega
          have hfin := HI.out.row
          rw [← htl, partF_all] at hfin
          obtain ⟨hd1, hd2⟩ := List.getElem?_eq_some_iff.1 (HFG.out j hjl)
          have HPS := hid (partF_set FL hd1)
          rw [hd2] at HPS
          have HSU : Hid (Calls Tryz.prog 19 #[.slice (some ⟨W.heap.size, 0, none⟩) i i] wr fun e w' => e = .returned (.agg #[.bool (qF (sumR (fun k => f k * g k j) i)).1, .string (qF (sumR (fun k => f k * g k j) i)).2.1, .string (qF (sumR (fun k => f k * g k j) i)).2.2]) ∧ Below wr.heap.size wr w') := by
            have h := fSum_any (some ⟨W.heap.size, 0, none⟩) i TL wr hfin.fr (HTL.out.fw hn) (by rw [HTL.out.len]; omega)
            rw [HTL.out.len, HTL.out.fsum] at h
            exact h
          have HB := hid HI.out.bel
          clear hfin hd1 hd2 HI
          generalize qF (sumR (fun k => f k * g k j) i) = qf at *
          go_wp2_with fail
          refine HSU.out.mono ?_
          rintro e w5 ⟨rfl, hb5⟩
          replace HK := hid (HK.out.step (HB.out.trans (hb5.mono HB.out.size)))
          clear hb5
          obtain ⟨k0, k1, k2⟩ := HK.out.row.cells j (by rw [partF_length _ (by omega)]; omega)
          have f0 := HK.out.row.fz (j * 3)
          have f1 := HK.out.row.fz (j * 3 + 1)
          have f2 := HK.out.row.fz (j * 3 + 2)
          generalize (partF FL j)[j]'(by rw [partF_length _ (by omega)]; omega) = z at *
          obtain ⟨zn, zx, zy⟩ := z
          simp only at k0 k1 k2
          have HK2 := hid (HK.out.put (Nat.le_refl _) j qf)
          rw [HPS.out] at HK2
          go_wp2
          go_roundw
          case rel => exact ⟨j + 1, by omega, by go_num, HK2⟩
          case measure => simp [intOf]; omega
    · obtain rfl : j = n := by omega
      have hfin := HK.out.row
      rw [← hfl, partF_all] at hfin
      have HFI := hid hfin
      clear hfin
      go_wp2
      go_ret
      exact ⟨w.heap.size, rfl, Nat.le_refl _, HFI.out, HK.out.bel⟩
end Go.Proofs.YtnnfmfdjgdgdhaaGreatDoor


/- Package table: the closure of Out. -/
namespace Go.Proofs.YtnnfmfdjgdgdhaaGreatDoor
open Go.RowKit Go.Shelf

theorem fits_mono {m n : Nat} {q : Rat} (h : Fits m q) (hm : m ≤ n) : Fits n q := by
  obtain ⟨A, D, h1, h2, h3, h4⟩ := h
  exact ⟨A, D, h1, h2, Nat.lt_of_lt_of_le h3 (pow_mono hm), Nat.lt_of_lt_of_le h4 (pow_mono hm)⟩
theorem great_one (f g : Fr) : great f g = f ∨ great f g = g := by
  rw [great]
  by_cases h : cmpQ (frQ f) (frQ g) < 0
  · rw [if_pos h]; exact .inr rfl
  · rw [if_neg h]; exact .inl rfl
theorem qF_size (q : Rat) : (qF q).2.1.size + (qF q).2.2.size = qw q := rfl
theorem outN_fits (most : Bool) (T : Nat → Fr) : ∀ k, (∀ x, x ≤ k → (T x).2.1.size + (T x).2.2.size + 2 ≤ 8192) → Fits ((k + 1) * 8192) (frQ (outN most T k))
  | 0, h => fits_mono (fits_val _ _ _) (by have := h 0 (Nat.le_refl _); show (T 0).2.1.size + (T 0).2.2.size + 1 ≤ _; omega)
  | k + 1, h => by
    have h1 := outN_fits most T k fun x hx => h x (by omega)
    have h2 : Fits 8191 (frQ (T (k + 1))) := fits_mono (fits_val _ _ _) (by have := h (k + 1) (Nat.le_refl _); omega)
    rw [outN]
    cases most with
    | true =>
      rw [if_pos rfl]
      rcases great_one (outN true T k) (T (k + 1)) with e | e
      · rw [e]; exact fits_mono h1 (by omega)
      · rw [e]; exact fits_mono h2 (by omega)
    | false =>
      rw [if_neg (by decide), frQ_qF]
      exact fits_mono (fits_add h1 h2) (by omega)
theorem out_ar1 (k : Nat) : 2 * ((k + 1) * 8192) ≤ 2 * ((k + 1 + 1) * 8192) := by omega
theorem out_ar2 (k : Nat) : 8192 ≤ 2 * ((k + 1 + 1) * 8192) := by omega
theorem great_size {f g : Fr} {A : Nat} (h1 : f.2.1.size + f.2.2.size ≤ A) (h2 : g.2.1.size + g.2.2.size ≤ A) : (great f g).2.1.size + (great f g).2.2.size ≤ A := by
  rcases great_one f g with e | e
  · rw [e]; exact h1
  · rw [e]; exact h2
theorem outN_size (most : Bool) (T : Nat → Fr) : ∀ k, (∀ x, x ≤ k → (T x).2.1.size + (T x).2.2.size + 2 ≤ 8192) → (outN most T k).2.1.size + (outN most T k).2.2.size ≤ 2 * ((k + 1) * 8192)
  | 0, h => by have := h 0 (Nat.le_refl _); rw [outN]; omega
  | k + 1, h => by
    have h1 := outN_size most T k fun x hx => h x (by omega)
    have h2 := h (k + 1) (Nat.le_refl _)
    have h3 := outN_fits most T (k + 1) h
    rw [outN] at h3 ⊢
    cases most with
    | true =>
      rw [if_pos rfl]
      exact great_size (Nat.le_trans h1 (out_ar1 k)) (Nat.le_trans (Nat.le_trans (Nat.le_add_right _ 2) h2) (out_ar2 k))
    | false =>
      rw [if_neg (by decide)] at h3 ⊢
      rw [frQ_qF] at h3
      have h4 := fits_qw h3
      rw [qF_size]
      exact h4
/-- A way to make two fractions one. -/
def Pairs (most : Bool) (pf : Nat) : Prop := (∀ args w, (callFunc pf args).run Tryz.prog w = .ok (.enter pf args) w) ∧ ∀ (f g : Fr) (V : World), f.2.1.size + f.2.2.size ≤ 100000 → g.2.1.size + g.2.2.size ≤ 100000 → Calls Tryz.prog pf #[frV f, frV g] V fun e w' => e = .returned (frV (if most then great f g else qF (frQ f + frQ g))) ∧ Below V.heap.size V w'
theorem pairs_sum : Pairs false 44 := ⟨enters_of Tryz.func44 (by kernel_rfl) rfl, fun f g V h1 h2 => fAdd_q (n := f.1) (m := g.1) (x := f.2.1) (y := f.2.2) (u := g.2.1) (v := g.2.2) (w := V) (frQ f + frQ g) rfl rfl rfl h1 h2⟩
end Go.Proofs.YtnnfmfdjgdgdhaaGreatDoor


/- Package table: Out. -/
namespace Go.Proofs.YtnnfmfdjgdgdhaaGreatDoor
open Go.RowKit Go.Shelf

theorem outL_length (S vars rest : List Nat) (v : Nat) (most : Bool) (l : List Fr) : (outL S vars rest v most l).length = cnt S rest := by simp [outL]
theorem outL_get (S vars rest : List Nat) (v : Nat) (most : Bool) (l : List Fr) {k : Nat} (h : k < (outL S vars rest v most l).length) : (outL S vars rest v most l)[k] = qF (frQ (outN most (fun x => celF l (pos S (withV (asg S rest k) v x) vars)) (sz S v - 1))) := by simp [outL]

end Go.Proofs.YtnnfmfdjgdgdhaaGreatDoor


/- The variables of two tables together. -/
namespace Go.Proofs.YtnnfmfdjgdgdhaaGreatDoor
open Go.RowKit Go.Shelf Go.Sort Go.Lib

theorem rise_extI : ∀ {a b : List Int}, a.Pairwise (· < ·) → b.Pairwise (· < ·) → (∀ x, x ∈ a ↔ x ∈ b) → a = b
  | [], [], _, _, _ => rfl
  | [], y :: b, _, _, h => absurd ((h y).2 List.mem_cons_self) (by simp)
  | x :: a, [], _, _, h => absurd ((h x).1 List.mem_cons_self) (by simp)
  | x :: a, y :: b, ha, hb, h => by
    rw [List.pairwise_cons] at ha hb
    have e : x = y := by
      have h1 := (h x).1 List.mem_cons_self
      have h2 := (h y).2 List.mem_cons_self
      rw [List.mem_cons] at h1 h2
      rcases h1 with h1 | h1
      · exact h1
      · rcases h2 with h2 | h2
        · exact h2.symm
        · have := hb.1 x h1
          have := ha.1 y h2
          omega
    subst e
    rw [rise_extI ha.2 hb.2 fun z => ?_]
    constructor
    · intro hz
      have h1 := (h z).1 (List.mem_cons_of_mem _ hz)
      have := ha.1 z hz
      rw [List.mem_cons] at h1
      rcases h1 with h1 | h1
      · omega
      · exact h1
    · intro hz
      have h1 := (h z).2 (List.mem_cons_of_mem _ hz)
      have := hb.1 z hz
      rw [List.mem_cons] at h1
      rcases h1 with h1 | h1
      · omega
      · exact h1
theorem compact_upto {d : Array Int} (hs : ∀ i j, i ≤ j → j < d.size → d[i]! ≤ d[j]!) : ∀ m, m ≤ d.size → (compactUpTo d m).Pairwise (· < ·) ∧ ∀ x, x ∈ compactUpTo d m ↔ ∃ j, j < m ∧ d[j]! = x
  | 0, _ => ⟨by simp [compactUpTo], fun x => by simp [compactUpTo]⟩
  | m + 1, hm => by
    obtain ⟨h1, h2⟩ := compact_upto hs m (by omega)
    rw [compactUpTo_succ]
    by_cases hk : keeps d m = true
    · rw [if_pos hk]
      constructor
      · rw [List.pairwise_append]
        refine ⟨h1, by simp, fun x hx y hy => ?_⟩
        obtain ⟨j, hj, rfl⟩ := (h2 x).1 hx
        rw [List.mem_singleton] at hy
        subst hy
        rw [keeps, decide_eq_true_iff] at hk
        rcases hk with hk | hk
        · omega
        · have e1 := hs j (m - 1) (by omega) (by omega)
          have e2 := hs (m - 1) m (by omega) (by omega)
          omega
      · intro x
        rw [List.mem_append, h2, List.mem_singleton]
        constructor
        · rintro (⟨j, hj, rfl⟩ | rfl)
          · exact ⟨j, by omega, rfl⟩
          · exact ⟨m, by omega, rfl⟩
        · rintro ⟨j, hj, rfl⟩
          by_cases e : j = m
          · exact .inr (by rw [e])
          · exact .inl ⟨j, by omega, rfl⟩
    · rw [if_neg hk, List.append_nil]
      refine ⟨h1, fun x => ?_⟩
      rw [h2]
      have hk' : ¬ (m = 0 ∨ d[m]! ≠ d[m - 1]!) := fun h => hk (by rw [keeps, decide_eq_true_iff]; exact h)
      have hm0 : m ≠ 0 := fun h => hk' (.inl h)
      have hmm : d[m]! = d[m - 1]! := Classical.byContradiction fun h => hk' (.inr h)
      constructor
      · rintro ⟨j, hj, rfl⟩
        exact ⟨j, by omega, rfl⟩
      · rintro ⟨j, hj, rfl⟩
        by_cases e : j = m
        · exact ⟨m - 1, by omega, by rw [e, hmm]⟩
        · exact ⟨j, by omega, rfl⟩
/-- What together answers. -/
def togL (la lb : List Int) : List Int := Lib.compact ((la ++ lb).mergeSort fun x y => decide (x ≤ y))
theorem togL_rise (la lb : List Int) : (togL la lb).Pairwise (· < ·) ∧ ∀ x, x ∈ togL la lb ↔ x ∈ la ∨ x ∈ lb := by
  have hp : ((la ++ lb).mergeSort fun x y => decide (x ≤ y)).Pairwise (fun x y => decide (x ≤ y) = true) := List.pairwise_mergeSort (fun a b c h1 h2 => by simp at h1 h2 ⊢; omega) (fun a b => by simp; omega) _
  have hm : ∀ x, x ∈ ((la ++ lb).mergeSort fun x y => decide (x ≤ y)) ↔ x ∈ la ∨ x ∈ lb := fun x => by rw [List.mem_mergeSort, List.mem_append]
  rw [togL]
  generalize ((la ++ lb).mergeSort fun x y => decide (x ≤ y)) = zs at hp hm
  have hs : ∀ i j, i ≤ j → j < zs.toArray.size → zs.toArray[i]! ≤ zs.toArray[j]! := fun i j hij hj => by
    have hj' : j < zs.length := by simpa using hj
    rw [getElem!_pos zs.toArray i (by omega), getElem!_pos zs.toArray j hj]
    by_cases e : i = j
    · subst e; exact Int.le_refl _
    · have := List.pairwise_iff_getElem.1 hp i j (by omega) hj' (by omega)
      simpa using this
  obtain ⟨h1, h2⟩ := compact_upto hs zs.toArray.size (Nat.le_refl _)
  have e : Lib.compact zs = compactUpTo zs.toArray zs.toArray.size := by rw [Lib.compact]; simp
  rw [e]
  refine ⟨h1, fun x => ?_⟩
  rw [h2, ← hm]
  constructor
  · rintro ⟨j, hj, rfl⟩
    rw [getElem!_pos zs.toArray j hj]
    simp
  · intro hx
    obtain ⟨j, hj, rfl⟩ := List.getElem_of_mem hx
    exact ⟨j, by simpa using hj, by rw [getElem!_pos zs.toArray j (by simpa using hj)]; simp⟩
theorem togL_nil : togL [] [] = [] := List.eq_nil_iff_forall_not_mem.2 fun x hx => by have := ((togL_rise [] []).2 x).1 hx; simp at this
theorem inB_iff {k : Int} {l : List Int} : inB k l = true ↔ k ∈ l := by simp [inB]
theorem togL_both {la lb : List Int} {n : Nat} (ha : Up la n) (hb : Up lb n) : togL la lb = iL (bothN n la lb) := by
  obtain ⟨h1, h2⟩ := togL_rise la lb
  have ha' := (up_iff.1 ha).1
  have hb' := (up_iff.1 hb).1
  refine rise_extI h1 ?_ fun x => ?_
  · rw [iL, List.pairwise_map]
    exact ((range_rise n).filter _).imp fun h => by omega
  · rw [h2, iL, List.mem_map]
    constructor
    · intro hx
      have hr : 0 ≤ x ∧ x < n := hx.elim (ha' x) (hb' x)
      refine ⟨x.toNat, List.mem_filter.2 ⟨List.mem_range.2 (by omega), ?_⟩, by omega⟩
      rw [Bool.or_eq_true, inB_iff, inB_iff, Int.toNat_of_nonneg hr.1]
      exact hx
    · rintro ⟨v, hv, rfl⟩
      have := (List.mem_filter.1 hv).2
      rw [Bool.or_eq_true, inB_iff, inB_iff] at this
      exact this
theorem togL_up {la lb : List Int} {n : Nat} (ha : Up la n) (hb : Up lb n) : Up (togL la lb) n := by
  obtain ⟨h1, h2⟩ := togL_rise la lb
  exact up_iff.2 ⟨fun x hx => ((h2 x).1 hx).elim ((up_iff.1 ha).1 x) ((up_iff.1 hb).1 x), h1⟩
end Go.Proofs.YtnnfmfdjgdgdhaaGreatDoor


/- Package table: together. -/
namespace Go.Proofs.YtnnfmfdjgdgdhaaGreatDoor
open Go.RowKit Go.Shelf Go.Sort Go.Lib

end Go.Proofs.YtnnfmfdjgdgdhaaGreatDoor


/- Package table: the closure of Product. -/
namespace Go.Proofs.YtnnfmfdjgdgdhaaGreatDoor
open Go.RowKit Go.Shelf

end Go.Proofs.YtnnfmfdjgdgdhaaGreatDoor


/- Package table: Product. -/
namespace Go.Proofs.YtnnfmfdjgdgdhaaGreatDoor
open Go.RowKit Go.Shelf

/-- What is no nil function lies elsewhere. -/
theorem nil_far {V : World} {B b j : Nat} {t : TypeId} {x : Value} (h : Boxed V B t .nilFunc) (hx : V.cell? ⟨b, j, none⟩ = some x) (hn : x ≠ .nilFunc) : b ≠ B := fun e => by
  subst e
  rw [cell_of_row V b j _ _ (0, 0) h] at hx
  match j with
  | 0 => simp at hx; exact hn hx.symm
  | j + 1 => simp at hx
theorem intS_nil {V : World} {B : Nat} {t : TypeId} {c : Option Addr} {l : List Int} (h : Boxed V B t .nilFunc) (hi : IntS V c l) (y : Value) : IntS (V.setCell ⟨B, 0, none⟩ y) c l := fun k hk => by
  obtain ⟨g, o, rfl, hlt, hc⟩ := hi k hk
  have hne := nil_far h hc (by simp)
  exact ⟨g, o, rfl, Nat.lt_of_lt_of_le hlt (KeepsOthers.setCell V _ _).size, (World.cell?_setCell_other _ _ _ _ (fun e => hne (congrArg Addr.block e).symm)).trans hc⟩
theorem prodL_length (S va vb U : List Nat) (la lb : List Fr) : (prodL S va vb U la lb).length = cnt S U := by simp [prodL]
theorem prodL_get (S va vb U : List Nat) (la lb : List Fr) {k : Nat} (h : k < (prodL S va vb U la lb).length) : (prodL S va vb U la lb)[k] = qF (frQ (celF la (pos S (asg S U k) va)) * frQ (celF lb (pos S (asg S U k) vb))) := by simp [prodL]
theorem stand_lt {sizes vars U : List Int} {K m : Nat} (hk : checkA sizes vars m = 0) (hK : K < cnt (toN sizes) (toN U)) : pos (toN sizes) (asg (toN sizes) (toN U) K) (toN vars) < m := by
  obtain ⟨h1, h2, h3⟩ := checkA_parts hk
  rw [h3]
  exact pos_lt _ (fun u => asg_lt h1.pos _ _ u hK) _

end Go.Proofs.YtnnfmfdjgdgdhaaGreatDoor

