/- Lists of fractions that packages hidden and chain make: times, shown, moved; the first greatest. -/
import Derived.Test.YtbejijgelljeaaaGreatDoorFillBToHidQ
import Derived.Shelf.Slices.CompactI
import Derived.Laws.EntriesVeiled
namespace Go.Proofs.YtbejijgelljeaaaGreatDoor
open Go.RowKit Go.Shelf

/-- So many fractions in lowest terms. -/
def lF (n : Nat) (f : Nat → Rat) : List Fr := (List.range n).map fun i => qF (f i)
theorem lF_length (n : Nat) (f : Nat → Rat) : (lF n f).length = n := by simp [lF]
theorem lF_get {n : Nat} {f : Nat → Rat} {i : Nat} (h : i < (lF n f).length) : (lF n f)[i] = qF (f i) := by simp [lF]
theorem lF_get? {n : Nat} {f : Nat → Rat} {i : Nat} (h : i < n) : (lF n f)[i]? = some (qF (f i)) := by
  rw [List.getElem?_eq_getElem (by rw [lF_length]; exact h), lF_get]
theorem lF_congr {n : Nat} {f g : Nat → Rat} (h : ∀ i, i < n → f i = g i) : lF n f = lF n g := by
  refine List.ext_getElem (by rw [lF_length, lF_length]) fun i h1 h2 => ?_
  rw [lF_get, lF_get, h i (by rw [lF_length] at h1; exact h1)]
theorem fsum_lF (f : Nat → Rat) : ∀ n, fsum (lF n f) = sumR f n
  | 0 => rfl
  | n + 1 => by
    have e : lF (n + 1) f = lF n f ++ [qF (f n)] := by simp [lF, List.range_succ]
    rw [e, fsum_snoc, fsum_lF f n, sumR]
    congr 1
    exact frQ_qF _
/-- Numbers, each as long as may be, stand for these. -/
structure Lst (n : Nat) (f : Nat → Rat) (l : List Fr) : Prop where
  len : l.length = n
  is : ∀ i (h : i < l.length), frQ l[i] = f i
  size : ∀ i (h : i < l.length), l[i].2.1.size + l[i].2.2.size ≤ 1500
theorem Lst.mk' {n : Nat} {f : Nat → Rat} (h : ∀ i, i < n → qw (f i) ≤ 1500) : Lst n f (lF n f) := by
  refine ⟨lF_length n f, fun i hi => by rw [lF_get]; exact frQ_qF _, fun i hi => ?_⟩
  rw [lF_get]
  show (nu (f i)).size + (de (f i)).size ≤ 1500
  rw [own_size]
  exact h i (by rw [lF_length] at hi; exact hi)
theorem Sm.qw {k : Nat} {q : Rat} (h : Sm k q) (hk : k ≤ 60) : qw q ≤ 1500 := by
  have := fits_qw h.fits
  omega
theorem Lst.fw {n : Nat} {f : Nat → Rat} {l : List Fr} (h : Lst n f l) (hn : n ≤ 4) : fw l ≤ 10000 := by
  have key : ∀ l : List Fr, (∀ i (h : i < l.length), l[i].2.1.size + l[i].2.2.size ≤ 1500) → Go.Proofs.YtbejijgelljeaaaGreatDoor.fw l ≤ 1510 * l.length := fun l => by
    induction l with
    | nil => intro _; exact Nat.zero_le _
    | cons f l ih =>
      intro h
      have h1 := h 0 (Nat.succ_pos _)
      have h2 := ih fun i hi => h (i + 1) (by simpa using hi)
      simp only [List.getElem_cons_zero] at h1
      simp only [Go.Proofs.YtbejijgelljeaaaGreatDoor.fw, List.length_cons]
      omega
  have h1 := key l h.size
  have h2 := h.len
  rw [h2] at h1
  have : 1510 * n ≤ 1510 * 4 := Nat.mul_le_mul_left _ hn
  omega
theorem Lst.fsum {n : Nat} {f : Nat → Rat} : ∀ {l : List Fr}, Lst n f l → fsum l = sumR f n := by
  intro l h
  have key : ∀ (l : List Fr) (n : Nat), l.length = n → (∀ i (h : i < l.length), frQ l[i] = f i) → Go.Proofs.YtbejijgelljeaaaGreatDoor.fsum l = sumR f n := fun l => by
    induction l using snoc_ind with
    | h0 => intro n hn _; subst hn; rfl
    | h1 l x ih =>
      intro n hn hi
      obtain rfl : n = l.length + 1 := by rw [← hn]; simp
      rw [fsum_snoc, sumR, ih l.length rfl fun i h => ?_]
      · congr 1
        have := hi l.length (by simp)
        rw [List.getElem_append_right (Nat.le_refl _)] at this
        exact (show frQ x = f l.length by simpa using this)
      · have := hi i (by simp; omega)
        rw [List.getElem_append_left h] at this
        exact this
  exact key l n h.len h.is
/-- A list under way in the block G. -/
structure MF (w : World) (G : Nat) (l : List Fr) (U : World) : Prop where
  row : RowF U G l
  bel : Below w.heap.size w U
theorem MF.step {w U U' : World} {G : Nat} {l : List Fr} (h : MF w G l U) (hb : Below U.heap.size U U') : MF w G l U' := ⟨h.row.below hb h.row.lt, h.bel.trans (hb.mono h.bel.size)⟩
theorem MF.drew {w U : World} {G : Nat} {l : List Fr} (h : MF w G l U) : MF w G l U.drew := ⟨h.row, h.bel.drew⟩
theorem MF.put {w U : World} {G : Nat} {l : List Fr} (h : MF w G l U) (hg : w.heap.size ≤ G) (i : Nat) (f : Fr) : MF w G (l.set i f) (((U.setCell ⟨G, i * 3, none⟩ (.bool f.1)).setCell ⟨G, i * 3 + 1, none⟩ (.string f.2.1)).setCell ⟨G, i * 3 + 2, none⟩ (.string f.2.2)) :=
  ⟨h.row.put i f, ((h.bel.setCell (p := ⟨G, i * 3, none⟩) hg _).setCell (p := ⟨G, i * 3 + 1, none⟩) hg _).setCell (p := ⟨G, i * 3 + 2, none⟩) hg _⟩

end Go.Proofs.YtbejijgelljeaaaGreatDoor


/- shown of package hidden, moved of package chain. -/
namespace Go.Proofs.YtbejijgelljeaaaGreatDoor
open Go.RowKit Go.Shelf

theorem Box.away {w : World} {g : Nat} {n : Bool} {x y : ByteArray} (h : Box w g n x y) (b j : Nat) (v : Value) (hne : g ≠ b) : Box (w.setCell ⟨b, j, none⟩ v) g n x y := (Below.heap_setCell w ⟨b, j, none⟩ v g hne).trans h
/-- A list under way in the block G, a fraction's box beside it. -/
structure MB (w : World) (G gB : Nat) (l : List Fr) (n : Bool) (x y : ByteArray) (U : World) : Prop where
  mf : MF w G l U
  bx : Box U gB n x y
theorem MB.step {w U U' : World} {G gB : Nat} {l : List Fr} {n : Bool} {x y : ByteArray} (h : MB w G gB l n x y U) (hb : Below U.heap.size U U') : MB w G gB l n x y U' := ⟨h.mf.step hb, h.bx.below hb h.bx.lt⟩
theorem MB.drew {w U : World} {G gB : Nat} {l : List Fr} {n : Bool} {x y : ByteArray} (h : MB w G gB l n x y U) : MB w G gB l n x y U.drew := ⟨h.mf.drew, h.bx.drew⟩
theorem MB.put {w U : World} {G gB : Nat} {l : List Fr} {n : Bool} {x y : ByteArray} (h : MB w G gB l n x y U) (hne : gB ≠ G) (hg : w.heap.size ≤ G) (i : Nat) (f : Fr) : MB w G gB (l.set i f) n x y (((U.setCell ⟨G, i * 3, none⟩ (.bool f.1)).setCell ⟨G, i * 3 + 1, none⟩ (.string f.2.1)).setCell ⟨G, i * 3 + 2, none⟩ (.string f.2.2)) :=
  ⟨h.mf.put hg i f, ((h.bx.away G _ _ hne).away G _ _ hne).away G _ _ hne⟩

set_option maxRecDepth 100000 in
set_option maxHeartbeats 2000000 in
theorem chMoved_any (a c : Option Addr) (ca cc n : Nat) (l : List Fr) (R : List (List Fr)) (f : Nat → Rat) (g : Nat → Nat → Rat) (w : World) (ha : FrS w a l) (hR : FsS w c R) (hf : Lst n f l) (hRl : R.length = n) (hg : ∀ i (h : i < R.length), Lst n (g i) R[i]) (hsz : ∀ i j, i < n → j < n → qw (f i * g i j) ≤ 1500) (hn : n ≤ 4) :
    Calls Tryz.prog 48 #[.slice a n ca, .slice c n cc] w fun e w' => ∃ G, e = .returned (.slice (some ⟨G, 0, none⟩) n n) ∧ w.heap.size ≤ G ∧ RowF w' G (lF n fun j => sumR (fun i => f i * g i j) n) ∧ Below w.heap.size w w' := by
  obtain ⟨i0, hi0, hz0, hz1, hz2⟩ := info_parts Tryz.infoFrac
  have HFA := hid ha
  have HFR := hid hR
  have HLA := hid hf
  have HG := hid hg
  have HSZ := hid hsz
  have HRL := hid hRl
  clear ha hR hf hg hsz hRl
  have hfl := lF_length n fun j => sumR (fun i => f i * g i j) n
  have HFG := hid (fun j (hj : j < n) => lF_get? (f := fun j => sumR (fun i => f i * g i j) n) hj)
  generalize (lF n fun j => sumR (fun i => f i * g i j) n) = FL at *
  go_enter Tryz.func48, Tryz.ntmps48
  go_upto_region 2 with (at_make; refine wpList_make_full _ rfl _ _ 27 rfl w.heap.size 33 i0 (.agg #[.bool false, .string ⟨#[]⟩, .string ⟨#[]⟩]) 3 Tryz.underlying27 hi0 hz0 hz1 .i64 .i64 _ _ n rfl rfl (by go_num) (by go_num) (by rw [hz2]; omega) (by unfold maxLen; omega) (Nat.le_refl _) ?_; intro w2 hown2 hgrow2)
  have hb2 := block_of_own3 hown2
  rw [made_frs] at hb2
  have hB2 : Below w.heap.size w w2 := (Below.refl _ w).grown hgrow2 (Nat.le_refl _) (fun k e => by cases e)
  have HK0 : Hid (MF w w.heap.size (partF FL 0) w2) := ⟨by rw [partF_zero, hfl]; exact hb2, hB2⟩
  clear hown2 hgrow2 hb2 hB2
  go_wp2_with fail
  go_loopw [14] (fun jv wr => ∃ j : Nat, j ≤ n ∧ jv = .int .i64 j ∧ Hid (MF w w.heap.size (partF FL j) wr)) (fun jv _ => n - (intOf jv).toNat)
  case atStart => exact ⟨0, Nat.zero_le _, rfl, HK0⟩
  case round =>
    obtain ⟨j, hj, rfl, HK⟩ := hrel
    clear HK0
    by_cases hjl : j < n
    · have htl := lF_length n fun i => f i * g i j
      have HTG := hid (fun i (hi : i < n) => lF_get? (f := fun i => f i * g i j) hi)
      have HTL : Hid (Lst n (fun i => f i * g i j) (lF n fun i => f i * g i j)) := Lst.mk' fun i hi => HSZ.out i j hi hjl
      generalize (lF n fun i => f i * g i j) = TL at *
      generalize wr = W at *
      go_upto_region 6 with (at_make; refine wpList_make_full _ rfl _ _ 27 rfl W.heap.size 33 i0 (.agg #[.bool false, .string ⟨#[]⟩, .string ⟨#[]⟩]) 3 Tryz.underlying27 hi0 hz0 hz1 .i64 .i64 _ _ n rfl rfl (by go_num) (by go_num) (by rw [hz2]; omega) (by unfold maxLen; omega) (Nat.le_refl _) ?_; intro w2 hown2 hgrow2)
      have hb2 := block_of_own3 hown2
      rw [made_frs] at hb2
      have hB2 : Below W.heap.size W w2 := (Below.refl _ W).grown hgrow2 (Nat.le_refl _) (fun k e => by cases e)
      have HI0 : Hid (MF W W.heap.size (partF TL 0) w2) := ⟨by rw [partF_zero, htl]; exact hb2, hB2⟩
      clear hown2 hgrow2 hb2 hB2
      go_wp2_with fail
      go_loopw [22] (fun iv wr => ∃ i : Nat, i ≤ n ∧ iv = .int .i64 i ∧ Hid (MF W W.heap.size (partF TL i) wr)) (fun iv _ => n - (intOf iv).toNat)
      case atStart => exact ⟨0, Nat.zero_le _, rfl, HI0⟩
      case round =>
        obtain ⟨i, hi, rfl, HI⟩ := hrel
        clear HI0
        by_cases hlt : i < n
        · have hia : i < l.length := by rw [HLA.out.len]; exact hlt
          have hiR : i < R.length := by rw [HRL.out]; exact hlt
          have hjr : j < R[i].length := by rw [(HG.out i hiR).len]; exact hjl
          obtain ⟨ga, oa, rfl, hga, a0, a1, a2⟩ := HFA.out i hia
          obtain ⟨gc, oc, bc, cr, rfl, hgc, c0, hrow, hcr⟩ := HFR.out i hiR
          obtain ⟨gr, or_, rfl, hgr, b0, b1, b2⟩ := hrow j hjr
          obtain ⟨hd1, hd2⟩ := List.getElem?_eq_some_iff.1 (HTG.out i hlt)
          have HPS := hid (partF_set TL hd1)
          rw [hd2] at HPS
          have hrl := (HG.out i hiR).len
          have HMU : Hid (∀ V : World, Calls Tryz.prog 54 #[.agg #[.bool l[i].1, .string l[i].2.1, .string l[i].2.2], .agg #[.bool R[i][j].1, .string R[i][j].2.1, .string R[i][j].2.2]] V fun e w' => e = .returned (.agg #[.bool (qF (f i * g i j)).1, .string (qF (f i * g i j)).2.1, .string (qF (f i * g i j)).2.2]) ∧ Below V.heap.size V w') := fun V => by
            have h1 := HLA.out.size i hia
            have h2 := (HG.out i hiR).size j hjr
            exact fMul_q (f i * g i j) (HLA.out.is i hia) ((HG.out i hiR).is j hjr) rfl (by omega) (by omega)
          clear hd1 hd2 hrow
          generalize qF (f i * g i j) = qf at *
          generalize l[i].1 = an at *
          generalize l[i].2.1 = ax at *
          generalize l[i].2.2 = ay at *
          generalize R[i][j].1 = bn at *
          generalize R[i][j].2.1 = bx at *
          generalize R[i][j].2.2 = by_ at *
          generalize R[i].length = rn at *
          go_upto_region 9 with fail
          have HELD : Hid (∀ u, Below W.heap.size W u → u.cell? ⟨ga, oa + i * 3, none⟩ = some (.bool an) ∧ u.cell? ⟨ga, oa + i * 3 + 1, none⟩ = some (.string ax) ∧ u.cell? ⟨ga, oa + i * 3 + 2, none⟩ = some (.string ay) ∧ u.cell? ⟨gc, oc + i, none⟩ = some (.slice (some ⟨gr, or_, none⟩) rn cr) ∧ u.cell? ⟨gr, or_ + j * 3, none⟩ = some (.bool bn) ∧ u.cell? ⟨gr, or_ + j * 3 + 1, none⟩ = some (.string bx) ∧ u.cell? ⟨gr, or_ + j * 3 + 2, none⟩ = some (.string by_)) := fun u h0 => by
            have h := HK.out.bel.trans (h0.mono HK.out.bel.size)
            exact ⟨(h.cell (p := ⟨ga, _, none⟩) hga).trans a0, (h.cell (p := ⟨ga, _, none⟩) hga).trans a1, (h.cell (p := ⟨ga, _, none⟩) hga).trans a2, (h.cell (p := ⟨gc, _, none⟩) hgc).trans c0, (h.cell (p := ⟨gr, _, none⟩) hgr).trans b0, (h.cell (p := ⟨gr, _, none⟩) hgr).trans b1, (h.cell (p := ⟨gr, _, none⟩) hgr).trans b2⟩
          clear a0 a1 a2 c0 b0 b1 b2
          replace HI := hid HI.out.drew
          refine wp_region_held_drew (S := fun u => u.cell? ⟨ga, oa + i * 3, none⟩ = some (.bool an) ∧ u.cell? ⟨ga, oa + i * 3 + 1, none⟩ = some (.string ax) ∧ u.cell? ⟨ga, oa + i * 3 + 2, none⟩ = some (.string ay) ∧ u.cell? ⟨gc, oc + i, none⟩ = some (.slice (some ⟨gr, or_, none⟩) rn cr) ∧ u.cell? ⟨gr, or_ + j * 3, none⟩ = some (.bool bn) ∧ u.cell? ⟨gr, or_ + j * 3 + 1, none⟩ = some (.string bx) ∧ u.cell? ⟨gr, or_ + j * 3 + 2, none⟩ = some (.string by_)) (by kernel_rfl) (HELD.out _ HI.out.bel) (fun hSd => ?_)
          generalize wr.drew = u0 at *
          refine wpAnyH_take (i := 0) (oi := _) (v := .slice (some ⟨W.heap.size, 0, none⟩) n n) rfl (by kernel_rfl) (by kernel_rfl) (by kernel_rfl) (fun _ _ _ h => h) (Or.inl ⟨by rfl, ?_⟩) (by assumption) ?_
          · intro u' hSu
            (try simp only [List.getElem_toArray, List.getElem_cons_zero])
            go_simp
          (try simp only [List.getElem_toArray, List.getElem_cons_zero])
          (try simp only [Act.put, List.setIfInBounds_toArray, List.set_cons_zero, List.set_cons_succ])
          refine wpAnyH_take (i := 1) (oi := _) (v := .int .i64 (i : Nat)) rfl (by kernel_rfl) (by kernel_rfl) (by kernel_rfl) (fun _ _ _ h => h) (Or.inl ⟨by rfl, ?_⟩) (by assumption) ?_
          · intro u' hSu
            (try simp only [List.getElem_toArray, List.getElem_cons_zero, List.getElem_cons_succ])
            go_simp
          (try simp only [List.getElem_toArray, List.getElem_cons_zero, List.getElem_cons_succ])
          (try simp only [Act.put, List.setIfInBounds_toArray, List.set_cons_zero, List.set_cons_succ])
          refine wpAnyH_take (i := 2) (oi := _) (v := .slice (some ⟨ga, oa, none⟩) n ca) rfl (by kernel_rfl) (by kernel_rfl) (by kernel_rfl) (fun _ _ _ h => h) (Or.inl ⟨by rfl, ?_⟩) (by assumption) ?_
          · intro u' hSu
            (try simp only [List.getElem_toArray, List.getElem_cons_zero, List.getElem_cons_succ])
            go_simp
          (try simp only [List.getElem_toArray, List.getElem_cons_zero, List.getElem_cons_succ])
          (try simp only [Act.put, List.setIfInBounds_toArray, List.set_cons_zero, List.set_cons_succ])
          refine wpAnyH_take (i := 3) (oi := _) (v := .int .i64 (i : Nat)) rfl (by kernel_rfl) (by kernel_rfl) (by kernel_rfl) (fun _ _ _ h => h) (Or.inl ⟨by rfl, ?_⟩) (by assumption) ?_
          · intro u' hSu
            (try simp only [List.getElem_toArray, List.getElem_cons_zero, List.getElem_cons_succ])
            go_simp
          (try simp only [List.getElem_toArray, List.getElem_cons_zero, List.getElem_cons_succ])
          (try simp only [Act.put, List.setIfInBounds_toArray, List.set_cons_zero, List.set_cons_succ])
          refine wpAnyH_take (i := 4) (oi := _) (v := .pointer (some ⟨ga, oa + i * 3, none⟩)) rfl (by kernel_rfl) (by kernel_rfl) (by kernel_rfl) (fun _ _ _ h => h) (Or.inl ⟨by rfl, ?_⟩) (by assumption) ?_
          · intro u' hSu
            (try simp only [List.getElem_toArray, List.getElem_cons_zero, List.getElem_cons_succ])
            go_simp
          (try simp only [List.getElem_toArray, List.getElem_cons_zero, List.getElem_cons_succ])
          (try simp only [Act.put, List.setIfInBounds_toArray, List.set_cons_zero, List.set_cons_succ])
          refine wpAnyH_take (i := 5) (oi := _) (v := .agg #[.bool an, .string ax, .string ay]) rfl (by kernel_rfl) (by kernel_rfl) (by kernel_rfl) (fun _ _ _ h => h) (Or.inl ⟨by rfl, ?_⟩) (by assumption) ?_
          · intro u' hSu
            (try simp only [List.getElem_toArray, List.getElem_cons_zero, List.getElem_cons_succ])
            obtain ⟨s0, s1, s2, s3, s4, s5, s6⟩ := hSu
            go_simp
          (try simp only [List.getElem_toArray, List.getElem_cons_zero, List.getElem_cons_succ])
          (try simp only [Act.put, List.setIfInBounds_toArray, List.set_cons_zero, List.set_cons_succ])
          refine wpAnyH_take (i := 6) (oi := _) (v := .slice (some ⟨gc, oc, none⟩) n cc) rfl (by kernel_rfl) (by kernel_rfl) (by kernel_rfl) (fun _ _ _ h => h) (Or.inl ⟨by rfl, ?_⟩) (by assumption) ?_
          · intro u' hSu
            (try simp only [List.getElem_toArray, List.getElem_cons_zero, List.getElem_cons_succ])
            go_simp
          (try simp only [List.getElem_toArray, List.getElem_cons_zero, List.getElem_cons_succ])
          (try simp only [Act.put, List.setIfInBounds_toArray, List.set_cons_zero, List.set_cons_succ])
          refine wpAnyH_take (i := 7) (oi := _) (v := .int .i64 (i : Nat)) rfl (by kernel_rfl) (by kernel_rfl) (by kernel_rfl) (fun _ _ _ h => h) (Or.inl ⟨by rfl, ?_⟩) (by assumption) ?_
          · intro u' hSu
            (try simp only [List.getElem_toArray, List.getElem_cons_zero, List.getElem_cons_succ])
            go_simp
          (try simp only [List.getElem_toArray, List.getElem_cons_zero, List.getElem_cons_succ])
          (try simp only [Act.put, List.setIfInBounds_toArray, List.set_cons_zero, List.set_cons_succ])
          refine wpAnyH_take (i := 8) (oi := _) (v := .pointer (some ⟨gc, oc + i, none⟩)) rfl (by kernel_rfl) (by kernel_rfl) (by kernel_rfl) (fun _ _ _ h => h) (Or.inl ⟨by rfl, ?_⟩) (by assumption) ?_
          · intro u' hSu
            (try simp only [List.getElem_toArray, List.getElem_cons_zero, List.getElem_cons_succ])
            go_simp
          (try simp only [List.getElem_toArray, List.getElem_cons_zero, List.getElem_cons_succ])
          (try simp only [Act.put, List.setIfInBounds_toArray, List.set_cons_zero, List.set_cons_succ])
          refine wpAnyH_take (i := 9) (oi := _) (v := .slice (some ⟨gr, or_, none⟩) rn cr) rfl (by kernel_rfl) (by kernel_rfl) (by kernel_rfl) (fun _ _ _ h => h) (Or.inl ⟨by rfl, ?_⟩) (by assumption) ?_
          · intro u' hSu
            (try simp only [List.getElem_toArray, List.getElem_cons_zero, List.getElem_cons_succ])
            obtain ⟨s0, s1, s2, s3, s4, s5, s6⟩ := hSu
            go_simp
          (try simp only [List.getElem_toArray, List.getElem_cons_zero, List.getElem_cons_succ])
          (try simp only [Act.put, List.setIfInBounds_toArray, List.set_cons_zero, List.set_cons_succ])
          refine wpAnyH_take (i := 10) (oi := _) (v := .int .i64 (j : Nat)) rfl (by kernel_rfl) (by kernel_rfl) (by kernel_rfl) (fun _ _ _ h => h) (Or.inl ⟨by rfl, ?_⟩) (by assumption) ?_
          · intro u' hSu
            (try simp only [List.getElem_toArray, List.getElem_cons_zero, List.getElem_cons_succ])
            go_simp
          (try simp only [List.getElem_toArray, List.getElem_cons_zero, List.getElem_cons_succ])
          (try simp only [Act.put, List.setIfInBounds_toArray, List.set_cons_zero, List.set_cons_succ])
          refine wpAnyH_take (i := 11) (oi := _) (v := .pointer (some ⟨gr, or_ + j * 3, none⟩)) rfl (by kernel_rfl) (by kernel_rfl) (by kernel_rfl) (fun _ _ _ h => h) (Or.inl ⟨by rfl, ?_⟩) (by assumption) ?_
          · intro u' hSu
            (try simp only [List.getElem_toArray, List.getElem_cons_zero, List.getElem_cons_succ])
            go_simp
          (try simp only [List.getElem_toArray, List.getElem_cons_zero, List.getElem_cons_succ])
          (try simp only [Act.put, List.setIfInBounds_toArray, List.set_cons_zero, List.set_cons_succ])
          refine wpAnyH_take (i := 12) (oi := _) (v := .agg #[.bool bn, .string bx, .string by_]) rfl (by kernel_rfl) (by kernel_rfl) (by kernel_rfl) (fun _ _ _ h => h) (Or.inl ⟨by rfl, ?_⟩) (by assumption) ?_
          · intro u' hSu
            (try simp only [List.getElem_toArray, List.getElem_cons_zero, List.getElem_cons_succ])
            obtain ⟨s0, s1, s2, s3, s4, s5, s6⟩ := hSu
            go_simp
          (try simp only [List.getElem_toArray, List.getElem_cons_zero, List.getElem_cons_succ])
          (try simp only [Act.put, List.setIfInBounds_toArray, List.set_cons_zero, List.set_cons_succ])
          refine wpAnyH_ready (rs := [13]) (by kernel_rfl) (by simp) (AllReadyH.cons rfl ?_ (AllReadyH.nil))
          · intro K' hK'
            (try simp only [List.getElem_toArray, List.getElem_cons_zero, List.getElem_cons_succ])
            go_simp
            refine (HMU.out _).mono ?_
            rintro e u1 ⟨rfl, hb⟩
            replace HI := hid (HI.out.step hb)
            refine hK'.out _ _ (HELD.out _ HI.out.bel) (fun hSe => ?_)
            clear hK' K' hSd
            have hSd := hSe
            clear hSe hb
            (try simp only [List.getElem_toArray, List.getElem_cons_zero, List.getElem_cons_succ])
            (try simp only [Act.put, List.setIfInBounds_toArray, List.set_cons_zero, List.set_cons_succ])
            refine wpAnyH_take (i := 14) (oi := _) (v := .pointer (some ⟨W.heap.size, i * 3, none⟩)) rfl (by kernel_rfl) (by kernel_rfl) (by kernel_rfl) (fun _ _ _ h => h) (Or.inl ⟨by rfl, ?_⟩) (by assumption) ?_
            · intro u' hSu
              (try simp only [List.getElem_toArray, List.getElem_cons_zero, List.getElem_cons_succ])
              go_simp
            (try simp only [List.getElem_toArray, List.getElem_cons_zero, List.getElem_cons_succ])
            (try simp only [Act.put, List.setIfInBounds_toArray, List.set_cons_zero, List.set_cons_succ])
            obtain ⟨k0, k1, k2⟩ := HI.out.row.cells i (by rw [partF_length _ (by omega)]; omega)
            have f0 := HI.out.row.fz (i * 3)
            have f1 := HI.out.row.fz (i * 3 + 1)
            have f2 := HI.out.row.fz (i * 3 + 2)
            generalize (partF TL i)[i]'(by rw [partF_length _ (by omega)]; omega) = z at *
            obtain ⟨zn, zx, zy⟩ := z
            simp only at k0 k1 k2
            refine wpAnyH_ready (rs := [15]) (by kernel_rfl) (by simp) (AllReadyH.cons rfl ?_ (AllReadyH.nil))
            · intro K' hK'
              (try simp only [List.getElem_toArray, List.getElem_cons_zero, List.getElem_cons_succ])
              go_simp
              refine hK'.out _ _ (HELD.out _ (HI.out.put (Nat.le_refl _) i qf).bel) (fun _ => wpAnyH_done (by kernel_rfl) ?_ _)
              clear hK' K' hSd
              replace HI := hid (HI.out.put (Nat.le_refl _) i qf)
              rw [HPS.out] at HI
              clear k0 k1 k2 f0 f1 f2
              go_wp2
              go_roundw
              case rel => exact ⟨i + 1, by omega, by go_num, HI⟩
              case measure => simp [intOf]; omega
        · obtain rfl : i = n := by omega
          have hfin := HI.out.row
          rw [← htl, partF_all] at hfin
          obtain ⟨hd1, hd2⟩ := List.getElem?_eq_some_iff.1 (HFG.out j hjl)
          have HPS := hid (partF_set FL hd1)
          rw [hd2] at HPS
          have HSU : Hid (Calls Tryz.prog 60 #[.slice (some ⟨W.heap.size, 0, none⟩) i i] wr fun e w' => e = .returned (.agg #[.bool (qF (sumR (fun k => f k * g k j) i)).1, .string (qF (sumR (fun k => f k * g k j) i)).2.1, .string (qF (sumR (fun k => f k * g k j) i)).2.2]) ∧ Below wr.heap.size wr w') := by
            have h := fSum_any (some ⟨W.heap.size, 0, none⟩) i TL wr hfin.fr (HTL.out.fw hn) (by rw [HTL.out.len]; omega)
            rw [HTL.out.len, HTL.out.fsum] at h
            exact h
          have HB := hid HI.out.bel
          clear hfin hd1 hd2 HI
          generalize qF (sumR (fun k => f k * g k j) i) = qf at *
          go_wp2_with fail
          refine HSU.out.mono ?_
          rintro e w5 ⟨rfl, hb5⟩
          replace HK := hid (HK.out.step (HB.out.trans (hb5.mono HB.out.size)))
          clear hb5
          obtain ⟨k0, k1, k2⟩ := HK.out.row.cells j (by rw [partF_length _ (by omega)]; omega)
          have f0 := HK.out.row.fz (j * 3)
          have f1 := HK.out.row.fz (j * 3 + 1)
          have f2 := HK.out.row.fz (j * 3 + 2)
          generalize (partF FL j)[j]'(by rw [partF_length _ (by omega)]; omega) = z at *
          obtain ⟨zn, zx, zy⟩ := z
          simp only at k0 k1 k2
          have HK2 := hid (HK.out.put (Nat.le_refl _) j qf)
          rw [HPS.out] at HK2
          go_wp2
          go_roundw
          case rel => exact ⟨j + 1, by omega, by go_num, HK2⟩
          case measure => simp [intOf]; omega
    · obtain rfl : j = n := by omega
      have hfin := HK.out.row
      rw [← hfl, partF_all] at hfin
      have HFI := hid hfin
      clear hfin
      go_wp2
      go_ret
      exact ⟨w.heap.size, rfl, Nat.le_refl _, HFI.out, HK.out.bel⟩
end Go.Proofs.YtbejijgelljeaaaGreatDoor


/- Package table: the closure of Out. -/
namespace Go.Proofs.YtbejijgelljeaaaGreatDoor
open Go.RowKit Go.Shelf

theorem fits_mono {m n : Nat} {q : Rat} (h : Fits m q) (hm : m ≤ n) : Fits n q := by
  obtain ⟨A, D, h1, h2, h3, h4⟩ := h
  exact ⟨A, D, h1, h2, Nat.lt_of_lt_of_le h3 (pow_mono hm), Nat.lt_of_lt_of_le h4 (pow_mono hm)⟩
theorem great_one (f g : Fr) : great f g = f ∨ great f g = g := by
  rw [great]
  by_cases h : cmpQ (frQ f) (frQ g) < 0
  · rw [if_pos h]; exact .inr rfl
  · rw [if_neg h]; exact .inl rfl
theorem qF_size (q : Rat) : (qF q).2.1.size + (qF q).2.2.size = qw q := rfl
theorem outN_fits (most : Bool) (T : Nat → Fr) : ∀ k, (∀ x, x ≤ k → (T x).2.1.size + (T x).2.2.size + 2 ≤ 8192) → Fits ((k + 1) * 8192) (frQ (outN most T k))
  | 0, h => fits_mono (fits_val _ _ _) (by have := h 0 (Nat.le_refl _); show (T 0).2.1.size + (T 0).2.2.size + 1 ≤ _; omega)
  | k + 1, h => by
    have h1 := outN_fits most T k fun x hx => h x (by omega)
    have h2 : Fits 8191 (frQ (T (k + 1))) := fits_mono (fits_val _ _ _) (by have := h (k + 1) (Nat.le_refl _); omega)
    rw [outN]
    cases most with
    | true =>
      rw [if_pos rfl]
      rcases great_one (outN true T k) (T (k + 1)) with e | e
      · rw [e]; exact fits_mono h1 (by omega)
      · rw [e]; exact fits_mono h2 (by omega)
    | false =>
      rw [if_neg (by decide), frQ_qF]
      exact fits_mono (fits_add h1 h2) (by omega)
theorem out_ar1 (k : Nat) : 2 * ((k + 1) * 8192) ≤ 2 * ((k + 1 + 1) * 8192) := by omega
theorem out_ar2 (k : Nat) : 8192 ≤ 2 * ((k + 1 + 1) * 8192) := by omega
theorem great_size {f g : Fr} {A : Nat} (h1 : f.2.1.size + f.2.2.size ≤ A) (h2 : g.2.1.size + g.2.2.size ≤ A) : (great f g).2.1.size + (great f g).2.2.size ≤ A := by
  rcases great_one f g with e | e
  · rw [e]; exact h1
  · rw [e]; exact h2
theorem outN_size (most : Bool) (T : Nat → Fr) : ∀ k, (∀ x, x ≤ k → (T x).2.1.size + (T x).2.2.size + 2 ≤ 8192) → (outN most T k).2.1.size + (outN most T k).2.2.size ≤ 2 * ((k + 1) * 8192)
  | 0, h => by have := h 0 (Nat.le_refl _); rw [outN]; omega
  | k + 1, h => by
    have h1 := outN_size most T k fun x hx => h x (by omega)
    have h2 := h (k + 1) (Nat.le_refl _)
    have h3 := outN_fits most T (k + 1) h
    rw [outN] at h3 ⊢
    cases most with
    | true =>
      rw [if_pos rfl]
      exact great_size (Nat.le_trans h1 (out_ar1 k)) (Nat.le_trans (Nat.le_trans (Nat.le_add_right _ 2) h2) (out_ar2 k))
    | false =>
      rw [if_neg (by decide)] at h3 ⊢
      rw [frQ_qF] at h3
      have h4 := fits_qw h3
      rw [qF_size]
      exact h4
/-- A way to make two fractions one. -/
def Pairs (most : Bool) (pf : Nat) : Prop := (∀ args w, (callFunc pf args).run Tryz.prog w = .ok (.enter pf args) w) ∧ ∀ (f g : Fr) (V : World), f.2.1.size + f.2.2.size ≤ 100000 → g.2.1.size + g.2.2.size ≤ 100000 → Calls Tryz.prog pf #[frV f, frV g] V fun e w' => e = .returned (frV (if most then great f g else qF (frQ f + frQ g))) ∧ Below V.heap.size V w'
theorem pairs_sum : Pairs false 84 := ⟨enters_of Tryz.func84 (by kernel_rfl) rfl, fun f g V h1 h2 => fAdd_q (n := f.1) (m := g.1) (x := f.2.1) (y := f.2.2) (u := g.2.1) (v := g.2.2) (w := V) (frQ f + frQ g) rfl rfl rfl h1 h2⟩
end Go.Proofs.YtbejijgelljeaaaGreatDoor


/- Package table: Out. -/
namespace Go.Proofs.YtbejijgelljeaaaGreatDoor
open Go.RowKit Go.Shelf

theorem outL_length (S vars rest : List Nat) (v : Nat) (most : Bool) (l : List Fr) : (outL S vars rest v most l).length = cnt S rest := by simp [outL]
theorem outL_get (S vars rest : List Nat) (v : Nat) (most : Bool) (l : List Fr) {k : Nat} (h : k < (outL S vars rest v most l).length) : (outL S vars rest v most l)[k] = qF (frQ (outN most (fun x => celF l (pos S (withV (asg S rest k) v x) vars)) (sz S v - 1))) := by simp [outL]

end Go.Proofs.YtbejijgelljeaaaGreatDoor


/- The variables of two tables together. -/
namespace Go.Proofs.YtbejijgelljeaaaGreatDoor
open Go.RowKit Go.Shelf Go.Sort Go.Lib

theorem rise_extI : ∀ {a b : List Int}, a.Pairwise (· < ·) → b.Pairwise (· < ·) → (∀ x, x ∈ a ↔ x ∈ b) → a = b
  | [], [], _, _, _ => rfl
  | [], y :: b, _, _, h => absurd ((h y).2 List.mem_cons_self) (by simp)
  | x :: a, [], _, _, h => absurd ((h x).1 List.mem_cons_self) (by simp)
  | x :: a, y :: b, ha, hb, h => by
    rw [List.pairwise_cons] at ha hb
    have e : x = y := by
      have h1 := (h x).1 List.mem_cons_self
      have h2 := (h y).2 List.mem_cons_self
      rw [List.mem_cons] at h1 h2
      rcases h1 with h1 | h1
      · exact h1
      · rcases h2 with h2 | h2
        · exact h2.symm
        · have := hb.1 x h1
          have := ha.1 y h2
          omega
    subst e
    rw [rise_extI ha.2 hb.2 fun z => ?_]
    constructor
    · intro hz
      have h1 := (h z).1 (List.mem_cons_of_mem _ hz)
      have := ha.1 z hz
      rw [List.mem_cons] at h1
      rcases h1 with h1 | h1
      · omega
      · exact h1
    · intro hz
      have h1 := (h z).2 (List.mem_cons_of_mem _ hz)
      have := hb.1 z hz
      rw [List.mem_cons] at h1
      rcases h1 with h1 | h1
      · omega
      · exact h1
theorem compact_upto {d : Array Int} (hs : ∀ i j, i ≤ j → j < d.size → d[i]! ≤ d[j]!) : ∀ m, m ≤ d.size → (compactUpTo d m).Pairwise (· < ·) ∧ ∀ x, x ∈ compactUpTo d m ↔ ∃ j, j < m ∧ d[j]! = x
  | 0, _ => ⟨by simp [compactUpTo], fun x => by simp [compactUpTo]⟩
  | m + 1, hm => by
    obtain ⟨h1, h2⟩ := compact_upto hs m (by omega)
    rw [compactUpTo_succ]
    by_cases hk : keeps d m = true
    · rw [if_pos hk]
      constructor
      · rw [List.pairwise_append]
        refine ⟨h1, by simp, fun x hx y hy => ?_⟩
        obtain ⟨j, hj, rfl⟩ := (h2 x).1 hx
        rw [List.mem_singleton] at hy
        subst hy
        rw [keeps, decide_eq_true_iff] at hk
        rcases hk with hk | hk
        · omega
        · have e1 := hs j (m - 1) (by omega) (by omega)
          have e2 := hs (m - 1) m (by omega) (by omega)
          omega
      · intro x
        rw [List.mem_append, h2, List.mem_singleton]
        constructor
        · rintro (⟨j, hj, rfl⟩ | rfl)
          · exact ⟨j, by omega, rfl⟩
          · exact ⟨m, by omega, rfl⟩
        · rintro ⟨j, hj, rfl⟩
          by_cases e : j = m
          · exact .inr (by rw [e])
          · exact .inl ⟨j, by omega, rfl⟩
    · rw [if_neg hk, List.append_nil]
      refine ⟨h1, fun x => ?_⟩
      rw [h2]
      have hk' : ¬ (m = 0 ∨ d[m]! ≠ d[m - 1]!) := fun h => hk (by rw [keeps, decide_eq_true_iff]; exact h)
      have hm0 : m ≠ 0 := fun h => hk' (.inl h)
      have hmm : d[m]! = d[m - 1]! := Classical.byContradiction fun h => hk' (.inr h)
      constructor
      · rintro ⟨j, hj, rfl⟩
        exact ⟨j, by omega, rfl⟩
      · rintro ⟨j, hj, rfl⟩
        by_cases e : j = m
        · exact ⟨m - 1, by omega, by rw [e, hmm]⟩
        · exact ⟨j, by omega, rfl⟩
/-- What together answers. -/
def togL (la lb : List Int) : List Int := Lib.compact ((la ++ lb).mergeSort fun x y => decide (x ≤ y))
theorem togL_rise (la lb : List Int) : (togL la lb).Pairwise (· < ·) ∧ ∀ x, x ∈ togL la lb ↔ x ∈ la ∨ x ∈ lb := by
  have hp : ((la ++ lb).mergeSort fun x y => decide (x ≤ y)).Pairwise (fun x y => decide (x ≤ y) = true) := List.pairwise_mergeSort (fun a b c h1 h2 => by simp at h1 h2 ⊢; omega) (fun a b => by simp; omega) _
  have hm : ∀ x, x ∈ ((la ++ lb).mergeSort fun x y => decide (x ≤ y)) ↔ x ∈ la ∨ x ∈ lb := fun x => by rw [List.mem_mergeSort, List.mem_append]
  rw [togL]
  generalize ((la ++ lb).mergeSort fun x y => decide (x ≤ y)) = zs at hp hm
  have hs : ∀ i j, i ≤ j → j < zs.toArray.size → zs.toArray[i]! ≤ zs.toArray[j]! := fun i j hij hj => by
    have hj' : j < zs.length := by simpa using hj
    rw [getElem!_pos zs.toArray i (by omega), getElem!_pos zs.toArray j hj]
    by_cases e : i = j
    · subst e; exact Int.le_refl _
    · have := List.pairwise_iff_getElem.1 hp i j (by omega) hj' (by omega)
      simpa using this
  obtain ⟨h1, h2⟩ := compact_upto hs zs.toArray.size (Nat.le_refl _)
  have e : Lib.compact zs = compactUpTo zs.toArray zs.toArray.size := by rw [Lib.compact]; simp
  rw [e]
  refine ⟨h1, fun x => ?_⟩
  rw [h2, ← hm]
  constructor
  · rintro ⟨j, hj, rfl⟩
    rw [getElem!_pos zs.toArray j hj]
    simp
  · intro hx
    obtain ⟨j, hj, rfl⟩ := List.getElem_of_mem hx
    exact ⟨j, by simpa using hj, by rw [getElem!_pos zs.toArray j (by simpa using hj)]; simp⟩
theorem togL_nil : togL [] [] = [] := List.eq_nil_iff_forall_not_mem.2 fun x hx => by have := ((togL_rise [] []).2 x).1 hx; simp at this
theorem inB_iff {k : Int} {l : List Int} : inB k l = true ↔ k ∈ l := by simp [inB]
theorem togL_both {la lb : List Int} {n : Nat} (ha : Up la n) (hb : Up lb n) : togL la lb = iL (bothN n la lb) := by
  obtain ⟨h1, h2⟩ := togL_rise la lb
  have ha' := (up_iff.1 ha).1
  have hb' := (up_iff.1 hb).1
  refine rise_extI h1 ?_ fun x => ?_
  · rw [iL, List.pairwise_map]
    exact ((range_rise n).filter _).imp fun h => by omega
  · rw [h2, iL, List.mem_map]
    constructor
    · intro hx
      have hr : 0 ≤ x ∧ x < n := hx.elim (ha' x) (hb' x)
      refine ⟨x.toNat, List.mem_filter.2 ⟨List.mem_range.2 (by omega), ?_⟩, by omega⟩
      rw [Bool.or_eq_true, inB_iff, inB_iff, Int.toNat_of_nonneg hr.1]
      exact hx
    · rintro ⟨v, hv, rfl⟩
      have := (List.mem_filter.1 hv).2
      rw [Bool.or_eq_true, inB_iff, inB_iff] at this
      exact this
theorem togL_up {la lb : List Int} {n : Nat} (ha : Up la n) (hb : Up lb n) : Up (togL la lb) n := by
  obtain ⟨h1, h2⟩ := togL_rise la lb
  exact up_iff.2 ⟨fun x hx => ((h2 x).1 hx).elim ((up_iff.1 ha).1 x) ((up_iff.1 hb).1 x), h1⟩
end Go.Proofs.YtbejijgelljeaaaGreatDoor


/- Package table: together. -/
namespace Go.Proofs.YtbejijgelljeaaaGreatDoor
open Go.RowKit Go.Shelf Go.Sort Go.Lib

end Go.Proofs.YtbejijgelljeaaaGreatDoor


/- Package table: the closure of Product. -/
namespace Go.Proofs.YtbejijgelljeaaaGreatDoor
open Go.RowKit Go.Shelf

end Go.Proofs.YtbejijgelljeaaaGreatDoor


/- Package table: Product. -/
namespace Go.Proofs.YtbejijgelljeaaaGreatDoor
open Go.RowKit Go.Shelf

/-- What is no nil function lies elsewhere. -/
theorem nil_far {V : World} {B b j : Nat} {t : TypeId} {x : Value} (h : Boxed V B t .nilFunc) (hx : V.cell? ⟨b, j, none⟩ = some x) (hn : x ≠ .nilFunc) : b ≠ B := fun e => by
  subst e
  rw [cell_of_row V b j _ _ (0, 0) h] at hx
  match j with
  | 0 => simp at hx; exact hn hx.symm
  | j + 1 => simp at hx
theorem intS_nil {V : World} {B : Nat} {t : TypeId} {c : Option Addr} {l : List Int} (h : Boxed V B t .nilFunc) (hi : IntS V c l) (y : Value) : IntS (V.setCell ⟨B, 0, none⟩ y) c l := fun k hk => by
  obtain ⟨g, o, rfl, hlt, hc⟩ := hi k hk
  have hne := nil_far h hc (by simp)
  exact ⟨g, o, rfl, Nat.lt_of_lt_of_le hlt (KeepsOthers.setCell V _ _).size, (World.cell?_setCell_other _ _ _ _ (fun e => hne (congrArg Addr.block e).symm)).trans hc⟩
theorem prodL_length (S va vb U : List Nat) (la lb : List Fr) : (prodL S va vb U la lb).length = cnt S U := by simp [prodL]
theorem prodL_get (S va vb U : List Nat) (la lb : List Fr) {k : Nat} (h : k < (prodL S va vb U la lb).length) : (prodL S va vb U la lb)[k] = qF (frQ (celF la (pos S (asg S U k) va)) * frQ (celF lb (pos S (asg S U k) vb))) := by simp [prodL]
theorem stand_lt {sizes vars U : List Int} {K m : Nat} (hk : checkA sizes vars m = 0) (hK : K < cnt (toN sizes) (toN U)) : pos (toN sizes) (asg (toN sizes) (toN U) K) (toN vars) < m := by
  obtain ⟨h1, h2, h3⟩ := checkA_parts hk
  rw [h3]
  exact pos_lt _ (fun u => asg_lt h1.pos _ _ u hK) _

end Go.Proofs.YtbejijgelljeaaaGreatDoor


/- Plain facts for the sums' order: taking two variables out in either order leaves the same numbers; what has nothing of a variable may be taken out of the sum. -/
namespace Go.Proofs.YtbejijgelljeaaaGreatDoor
open Go.RowKit Go.Shelf

theorem pos_congr (S : List Nat) {f g : Nat → Nat} : ∀ {vs : List Nat}, (∀ u ∈ vs, f u = g u) → pos S f vs = pos S g vs := by
  intro vs h
  have key : ∀ (vs : List Nat) (k : Nat), (∀ u ∈ vs, f u = g u) → vs.foldl (fun k v => k * sz S v + f v) k = vs.foldl (fun k v => k * sz S v + g v) k := by
    intro vs
    induction vs with
    | nil => intro k _; rfl
    | cons v vs ih =>
      intro k h
      rw [List.foldl_cons, List.foldl_cons, h v List.mem_cons_self, ih _ fun u hu => h u (List.mem_cons_of_mem _ hu)]
  exact key vs 0 h
theorem pos_cons (S : List Nat) (f : Nat → Nat) (v : Nat) (vs : List Nat) : pos S f (v :: vs) = f v * cnt S vs + pos S f vs := by
  show vs.foldl (fun k v => k * sz S v + f v) (0 * sz S v + f v) = _
  rw [foldl_pos S f vs, Nat.zero_mul, Nat.zero_add]
theorem asg_pos {S : List Nat} (hp : Pos S) {f : Nat → Nat} (hf : ∀ u, f u < sz S u) : ∀ {vs : List Nat}, vs.Nodup → ∀ u ∈ vs, asg S vs (pos S f vs) u = f u
  | [], _, u, hu => by cases hu
  | v :: vs, hn, u, hu => by
    rw [List.nodup_cons] at hn
    have hlt := pos_lt f hf vs
    have hc := cnt_pos hp vs
    rw [pos_cons, asg]
    by_cases e : u = v
    · rw [if_pos e, e, Nat.mul_comm, Nat.mul_add_div hc, Nat.div_eq_of_lt hlt, Nat.add_zero]
    · rw [if_neg e, Nat.mul_comm, Nat.mul_add_mod, Nat.mod_eq_of_lt hlt]
      exact asg_pos hp hf hn.2 u ((List.mem_cons.1 hu).resolve_left e)
theorem celF_map {n k : Nat} (g : Nat → Fr) (h : k < n) : celF ((List.range n).map g) k = g k := by
  rw [celF_eq (by simpa using h)]; simp

/-- What two make. -/
def opQ (most : Bool) (p q : Rat) : Rat := if most then (if p < q then q else p) else p + q
/-- What is left of so many numbers. -/
def outQ (most : Bool) (g : Nat → Rat) : Nat → Rat
  | 0 => g 0
  | k + 1 => opQ most (outQ most g k) (g (k + 1))
theorem cmpQ_neg {p q : Rat} : cmpQ p q < 0 ↔ p < q := by
  rw [cmpQ]
  by_cases h : p < q
  · rw [if_pos h]; exact ⟨fun _ => h, fun _ => by decide⟩
  · rw [if_neg h]
    by_cases e : p = q
    · rw [if_pos e]; exact ⟨fun h => absurd h (by decide), fun h' => absurd h' h⟩
    · rw [if_neg e]; exact ⟨fun h => absurd h (by decide), fun h' => absurd h' h⟩
theorem frQ_outN (most : Bool) (T : Nat → Fr) : ∀ k, frQ (outN most T k) = outQ most (fun x => frQ (T x)) k
  | 0 => rfl
  | k + 1 => by
    rw [outN, outQ, ← frQ_outN most T k]
    cases most with
    | false => simp only [opQ, Bool.false_eq_true, if_false]; exact frQ_qF _
    | true =>
      simp only [opQ, if_true, great]
      by_cases h : cmpQ (frQ (outN true T k)) (frQ (T (k + 1))) < 0
      · rw [if_pos h, if_pos (cmpQ_neg.1 h)]
      · rw [if_neg h, if_neg fun e => h (cmpQ_neg.2 e)]
theorem outQ_congr (most : Bool) {g h : Nat → Rat} : ∀ {k : Nat}, (∀ x, x ≤ k → g x = h x) → outQ most g k = outQ most h k
  | 0, e => e 0 (Nat.le_refl _)
  | k + 1, e => by rw [outQ, outQ, outQ_congr most fun x hx => e x (by omega), e (k + 1) (Nat.le_refl _)]
theorem opQ_comm (most : Bool) (p q : Rat) : opQ most p q = opQ most q p := by
  cases most with
  | false => exact Rat.add_comm p q
  | true =>
    simp only [opQ, if_true]
    rcases Rat.le_total (a := p) (b := q) with h | h
    · by_cases e : p = q
      · subst e; rfl
      · have h1 : p < q := Rat.lt_of_le_of_ne h e
        rw [if_pos h1, if_neg (Rat.not_lt.2 h)]
    · by_cases e : q = p
      · subst e; rfl
      · have h1 : q < p := Rat.lt_of_le_of_ne h e
        rw [if_neg (Rat.not_lt.2 h), if_pos h1]
theorem rlt {p q r : Rat} (h1 : p < q) (h2 : q < r) : p < r := Rat.not_le.1 fun h => Rat.not_le.2 h1 (Rat.le_trans (Rat.le_of_lt h2) h)
theorem opQ_assoc (most : Bool) (p q r : Rat) : opQ most (opQ most p q) r = opQ most p (opQ most q r) := by
  cases most with
  | false => exact Rat.add_assoc p q r
  | true =>
    simp only [opQ, if_true]
    by_cases h1 : p < q
    · by_cases h2 : q < r
      · rw [if_pos h1, if_pos h2, if_pos (rlt h1 h2)]
      · rw [if_pos h1, if_neg h2, if_pos h1]
    · by_cases h2 : q < r
      · rw [if_neg h1, if_pos h2]
      · rw [if_neg h1, if_neg h2, if_neg h1, if_neg]
        exact Rat.not_lt.2 (Rat.le_trans (Rat.not_lt.1 h2) (Rat.not_lt.1 h1))
theorem opQ_four (most : Bool) (p q r s : Rat) : opQ most (opQ most p q) (opQ most r s) = opQ most (opQ most p r) (opQ most q s) := by
  rw [opQ_assoc, opQ_assoc, ← opQ_assoc most q r s, opQ_comm most q r, opQ_assoc most r q s]
theorem outQ_op (most : Bool) (g h : Nat → Rat) : ∀ k, outQ most (fun x => opQ most (g x) (h x)) k = opQ most (outQ most g k) (outQ most h k)
  | 0 => rfl
  | k + 1 => by rw [outQ, outQ, outQ, outQ_op most g h k, opQ_four]
theorem outQ_swap (most : Bool) (g : Nat → Nat → Rat) (m : Nat) : ∀ n, outQ most (fun x => outQ most (fun y => g x y) m) n = outQ most (fun y => outQ most (fun x => g x y) n) m
  | 0 => rfl
  | n + 1 => by
    rw [outQ, outQ_swap most g m n, ← outQ_op]
    rfl
theorem outQ_mul (A : Rat) (g : Nat → Rat) : ∀ k, outQ false (fun x => A * g x) k = A * outQ false g k
  | 0 => rfl
  | k + 1 => by
    rw [outQ, outQ, outQ_mul A g k]
    simp only [opQ, Bool.false_eq_true, if_false]
    rw [Rat.mul_add]

theorem withV_comm (f : Nat → Nat) {u v : Nat} (x y : Nat) (h : u ≠ v) : withV (withV f v x) u y = withV (withV f u y) v x := by
  funext z
  simp only [withV]
  by_cases e : z = u
  · rw [if_pos e, if_neg (by omega), if_pos e]
  · rw [if_neg e, if_neg e]
/-- A number of what is left. -/
theorem out_cell {S vars rest : List Nat} (hp : Pos S) (hr : rest.Nodup) {v : Nat} (hv : ∀ u ∈ vars, u = v ∨ u ∈ rest) (most : Bool) (l : List Fr) {f : Nat → Nat} (hf : ∀ u, f u < sz S u) :
    frQ (celF (outL S vars rest v most l) (pos S f rest)) = outQ most (fun x => frQ (celF l (pos S (withV f v x) vars))) (sz S v - 1) := by
  rw [outL, celF_map _ (pos_lt f hf rest), frQ_qF, frQ_outN]
  refine outQ_congr most fun x _ => ?_
  rw [pos_congr S (f := withV (asg S rest (pos S f rest)) v x) (g := withV f v x)]
  intro u hu
  simp only [withV]
  by_cases e : u = v
  · rw [if_pos e, if_pos e]
  · rw [if_neg e, if_neg e]; exact asg_pos hp hf hr u ((hv u hu).resolve_left e)
theorem prod_cell {S va vb U : List Nat} (hp : Pos S) (hr : U.Nodup) (hva : ∀ u ∈ va, u ∈ U) (hvb : ∀ u ∈ vb, u ∈ U) (la lb : List Fr) {f : Nat → Nat} (hf : ∀ u, f u < sz S u) :
    frQ (celF (prodL S va vb U la lb) (pos S f U)) = frQ (celF la (pos S f va)) * frQ (celF lb (pos S f vb)) := by
  rw [prodL, celF_map _ (pos_lt f hf U), frQ_qF, pos_congr S (f := asg S U (pos S f U)) (g := f) fun u hu => asg_pos hp hf hr u (hva u hu), pos_congr S (f := asg S U (pos S f U)) (g := f) fun u hu => asg_pos hp hf hr u (hvb u hu)]
theorem map_range_congr {n : Nat} {g h : Nat → Fr} (e : ∀ k, k < n → g k = h k) : (List.range n).map g = (List.range n).map h := List.map_congr_left fun k hk => e k (List.mem_range.1 hk)
/-- Two variables may be taken out in either order. -/
theorem out_swap {S vars ru rv R : List Nat} (hp : Pos S) {u v : Nat} (huv : u ≠ v) (hru : ru.Nodup) (hrv : rv.Nodup) (h1 : ∀ x ∈ vars, x = u ∨ x ∈ ru) (h2 : ∀ x ∈ vars, x = v ∨ x ∈ rv) (most : Bool) (l : List Fr) :
    outL S ru R v most (outL S vars ru u most l) = outL S rv R u most (outL S vars rv v most l) := by
  show (List.range (cnt S R)).map _ = (List.range (cnt S R)).map _
  refine map_range_congr fun K hK => ?_
  rw [frQ_outN, frQ_outN]
  have hf := fun z => asg_lt hp R K z hK
  have su := sz_pos hp u
  have sv := sz_pos hp v
  congr 1
  rw [outQ_congr most (h := fun x => outQ most (fun y => frQ (celF l (pos S (withV (withV (asg S R K) v x) u y) vars))) (sz S u - 1)) fun x hx => out_cell hp hru h1 most l (withV_lt hf (by omega)),
    outQ_congr most (k := sz S u - 1) (h := fun y => outQ most (fun x => frQ (celF l (pos S (withV (withV (asg S R K) u y) v x) vars))) (sz S v - 1)) fun y hy => out_cell hp hrv h2 most l (withV_lt hf (by omega)),
    outQ_swap]
  refine outQ_congr most fun y _ => outQ_congr most fun x _ => ?_
  rw [withV_comm _ _ _ huv]
/-- What has nothing of a variable may be taken out of the sum. -/
theorem out_prod {S va vb rb U R : List Nat} (hp : Pos S) {v : Nat} (hU : U.Nodup) (hrb : rb.Nodup) (h1 : ∀ x ∈ va, x ∈ U) (h2 : ∀ x ∈ vb, x ∈ U) (h3 : ∀ x ∈ vb, x = v ∨ x ∈ rb) (hv : ¬ v ∈ va) (la lb : List Fr) :
    outL S U R v false (prodL S va vb U la lb) = prodL S va rb R la (outL S vb rb v false lb) := by
  show (List.range (cnt S R)).map _ = (List.range (cnt S R)).map _
  refine map_range_congr fun K hK => ?_
  rw [frQ_outN]
  have hf := fun z => asg_lt hp R K z hK
  have sv := sz_pos hp v
  congr 1
  rw [outQ_congr false (h := fun x => frQ (celF la (pos S (asg S R K) va)) * frQ (celF lb (pos S (withV (asg S R K) v x) vb))) fun x hx => ?_, outQ_mul, out_cell hp hrb h3 false lb hf]
  rw [prod_cell hp hU h1 h2 la lb (withV_lt hf (by omega)), pos_congr S (f := withV (asg S R K) v x) (g := asg S R K) (vs := va)]
  intro u hu
  rw [withV, if_neg fun e => hv (by rw [← e]; exact hu)]
theorem prod_comm (S va vb U : List Nat) (la lb : List Fr) : prodL S va vb U la lb = prodL S vb va U lb la := by
  rw [prodL, prodL]
  exact map_range_congr fun K _ => by rw [Rat.mul_comm]

/-- Numbers in lowest terms, of so many bytes at most. -/
def Sml (s : Nat) (l : List Fr) : Prop := ∀ f ∈ l, ∃ q, f = qF q ∧ qw q ≤ s
theorem Sml.fw {s : Nat} : ∀ {l : List Fr}, Sml s l → fw l ≤ (s + 2) * l.length
  | [], _ => by simp [Go.Proofs.YtbejijgelljeaaaGreatDoor.fw]
  | f :: l, h => by
    obtain ⟨q, rfl, hq⟩ := h f List.mem_cons_self
    have ih := Sml.fw (s := s) (l := l) fun g hg => h g (List.mem_cons_of_mem _ hg)
    have e : (nu q).size + (de q).size = qw q := rfl
    show (nu q).size + (de q).size + 2 + Go.Proofs.YtbejijgelljeaaaGreatDoor.fw l ≤ _
    rw [List.length_cons, Nat.mul_add, Nat.mul_one]
    omega
theorem Sml.cel {s : Nat} {l : List Fr} (h : Sml s l) {k : Nat} (hk : k < l.length) : qw (frQ (celF l k)) ≤ s := by
  obtain ⟨q, hq, hs⟩ := h (celF l k) (by rw [celF_eq hk]; exact List.getElem_mem hk)
  rw [hq, frQ_qF]; exact hs
theorem opQ_most {s : Nat} {p q : Rat} (hp : qw p ≤ s) (hq : qw q ≤ s) : qw (opQ true p q) ≤ s := by
  simp only [opQ, if_true]
  by_cases h : p < q
  · rw [if_pos h]; exact hq
  · rw [if_neg h]; exact hp
theorem outQ_size {s : Nat} (most : Bool) {g : Nat → Rat} : ∀ {k : Nat}, k ≤ 2 → (∀ x, x ≤ k → qw (g x) ≤ s) → qw (outQ most g k) ≤ 10 * s + 3
  | 0, _, h => by have := h 0 (Nat.le_refl _); rw [outQ]; omega
  | 1, _, h => by
    have h0 := h 0 (by omega)
    have h1 := h 1 (by omega)
    cases most with
    | false =>
      have := qw_add (g 0) (g 1)
      show qw (g 0 + g 1) ≤ _
      omega
    | true => exact Nat.le_trans (opQ_most h0 h1) (by omega)
  | 2, _, h => by
    have h0 := h 0 (by omega)
    have h1 := h 1 (by omega)
    have h2 := h 2 (by omega)
    cases most with
    | false =>
      have := qw_add (g 0) (g 1)
      have := qw_add (g 0 + g 1) (g 2)
      show qw (g 0 + g 1 + g 2) ≤ _
      omega
    | true => exact Nat.le_trans (opQ_most (opQ_most h0 h1) h2) (by omega)
  | k + 3, hk, _ => by omega
theorem Sml.out {S vars rest : List Nat} {v s : Nat} {l : List Fr} (h : Sml s l) (hp : Pos S) (hl : l.length = cnt S vars) (hs : sz S v ≤ 3) (most : Bool) : Sml (10 * s + 3) (outL S vars rest v most l) := by
  intro f hf
  obtain ⟨K, hK, rfl⟩ := List.mem_map.1 hf
  have hf' := fun z => asg_lt hp rest K z (List.mem_range.1 hK)
  have sv := sz_pos hp v
  refine ⟨_, rfl, ?_⟩
  rw [frQ_outN]
  exact outQ_size most (by omega) fun x hx => h.cel (by rw [hl]; exact pos_lt _ (withV_lt hf' (by omega)) _)
theorem Sml.prod {S va vb U : List Nat} {s t : Nat} {la lb : List Fr} (ha : Sml s la) (hb : Sml t lb) (hp : Pos S) (hla : la.length = cnt S va) (hlb : lb.length = cnt S vb) : Sml (s + t) (prodL S va vb U la lb) := by
  intro f hf
  obtain ⟨K, hK, rfl⟩ := List.mem_map.1 hf
  have hf' := fun z => asg_lt hp U K z (List.mem_range.1 hK)
  refine ⟨_, rfl, ?_⟩
  have h1 := ha.cel (k := pos S (asg S U K) va) (by rw [hla]; exact pos_lt _ hf' _)
  have h2 := hb.cel (k := pos S (asg S U K) vb) (by rw [hlb]; exact pos_lt _ hf' _)
  have := qw_mul (frQ (celF la (pos S (asg S U K) va))) (frQ (celF lb (pos S (asg S U K) vb)))
  omega
theorem cnt_three {S : List Nat} (h : ∀ v, sz S v ≤ 3) : ∀ vs : List Nat, cnt S vs ≤ 3 ^ vs.length
  | [] => Nat.le_refl _
  | v :: vs => by rw [cnt, List.length_cons, Nat.pow_succ, Nat.mul_comm]; exact Nat.mul_le_mul (cnt_three h vs) (h v)
theorem int_size {z : Int} (h : z.natAbs ≤ 255) : qw (z : Rat) ≤ 2 := by
  show (B z.natAbs).size + (B 1).size ≤ 2
  have h1 := B_one_size
  have h2 : (B z.natAbs).size ≤ 1 := by rw [B_size]; exact bn_fits 1 _ (by show _ < 256; omega)
  omega
end Go.Proofs.YtbejijgelljeaaaGreatDoor


/- The law's tables: what Out and Product answer there, and that the orders agree. -/
namespace Go.Proofs.YtbejijgelljeaaaGreatDoor
open Go.RowKit Go.Shelf

/-- Sizes of the law. -/
structure Sz3 (sizes : List Int) : Prop where
  fine : Fine sizes
  three : ∀ i (h : i < sizes.length), sizes[i] ≤ 3
  many : 3 ≤ sizes.length
  few : sizes.length ≤ 5
theorem Sz3.sz {sizes : List Int} (h : Sz3 sizes) (v : Nat) : sz (toN sizes) v ≤ 3 := by
  by_cases hv : v < sizes.length
  · have := h.fine.sz_eq hv
    have := h.three v hv
    omega
  · rw [Go.Proofs.YtbejijgelljeaaaGreatDoor.sz, List.getElem?_eq_none (by rw [toN_length]; omega)]; simp
/-- A table of the law. -/
structure TL (sizes vars : List Int) (l : List Fr) (s : Nat) : Prop where
  up : Up vars sizes.length
  len : l.length = cnt (toN sizes) (toN vars)
  sml : Sml s l
theorem TL.check {sizes vars : List Int} {l : List Fr} {s : Nat} (h : TL sizes vars l s) (hs : Sz3 sizes) : checkA sizes vars l.length = 0 := checkA_yes (countB_of hs.fine h.up) h.len
theorem cnt_few {sizes vars : List Int} (hs : Sz3 sizes) (h : Up vars sizes.length) : cnt (toN sizes) (toN vars) ≤ 243 := by
  have h1 := cnt_three hs.sz (toN vars)
  have h2 := h.length
  have h3 := hs.few
  rw [toN_length] at h1
  exact Nat.le_trans h1 (Nat.pow_le_pow_right (by decide) (show vars.length ≤ 5 by omega))
theorem TL.few {sizes vars : List Int} {l : List Fr} {s : Nat} (h : TL sizes vars l s) (hs : Sz3 sizes) : l.length ≤ 243 := by rw [h.len]; exact cnt_few hs h.up
theorem TL.fw {sizes vars : List Int} {l : List Fr} {s : Nat} (h : TL sizes vars l s) (hs : Sz3 sizes) (hS : s ≤ 30) : fw l ≤ 8192 := by
  have h1 := h.sml.fw
  have h2 := Nat.mul_le_mul (show s + 2 ≤ 32 by omega) (h.few hs)
  omega
theorem TL.out {sizes vars : List Int} {l : List Fr} {s : Nat} (h : TL sizes vars l s) (hs : Sz3 sizes) (v : Nat) (most : Bool) : TL sizes (lessN vars v) (outL (toN sizes) (toN vars) (toN (lessN vars (v : Int))) v most l) (10 * s + 3) :=
  ⟨lessN_up h.up _, outL_length _ _ _ _ _ _, h.sml.out hs.fine.pos h.len (hs.sz v) most⟩
theorem TL.prod {sizes va vb : List Int} {la lb : List Fr} {s t : Nat} (ha : TL sizes va la s) (hb : TL sizes vb lb t) (hs : Sz3 sizes) : TL sizes (togL va vb) (prodL (toN sizes) (toN va) (toN vb) (toN (togL va vb)) la lb) (s + t) :=
  ⟨togL_up ha.up hb.up, prodL_length _ _ _ _ _ _, ha.sml.prod hb.sml hs.fine.pos ha.len hb.len⟩
theorem up_len {vars sizes : List Int} (h : Up vars sizes.length) (hs : Sz3 sizes) : vars.length ≤ 140737488355328 := by have := h.length; have := hs.few; omega
theorem sz_len {sizes : List Int} (hs : Sz3 sizes) : sizes.length ≤ 140737488355328 := by have := hs.few; omega
theorem lessN_comm (l : List Int) (u v : Int) : lessN (lessN l u) v = lessN (lessN l v) u := by
  rw [lessN, lessN, lessN, lessN, List.filter_filter, List.filter_filter]
  exact List.filter_congr fun x _ => Bool.and_comm _ _
theorem mem_less {l : List Int} {x v : Int} : x ∈ lessN l v ↔ x ∈ l ∧ x ≠ v := by simp [lessN]
theorem less_in {vars : List Int} {n : Nat} (h : Up vars n) (u : Nat) : ∀ x ∈ toN vars, x = u ∨ x ∈ toN (lessN vars (u : Int)) := by
  intro x hx
  obtain ⟨y, hy, rfl⟩ := List.mem_map.1 hx
  have h1 := (up_iff.1 h).1 y hy
  by_cases e : y = (u : Int)
  · left; omega
  · exact .inr (List.mem_map.2 ⟨y, mem_less.2 ⟨hy, e⟩, rfl⟩)
theorem toN_sub {va vb : List Int} (h : ∀ x ∈ va, x ∈ vb) : ∀ x ∈ toN va, x ∈ toN vb := by
  intro x hx
  obtain ⟨y, hy, rfl⟩ := List.mem_map.1 hx
  exact List.mem_map.2 ⟨y, h y hy, rfl⟩
theorem togL_sub {va vb : List Int} {n : Nat} (hb : Up vb n) (h : ∀ x ∈ va, x ∈ vb) : togL va vb = vb :=
  rise_extI (togL_rise va vb).1 (up_iff.1 hb).2 fun x => by rw [(togL_rise va vb).2]; exact ⟨fun e => e.elim (h x) id, .inr⟩
theorem togL_sub' {va vb : List Int} {n : Nat} (hb : Up vb n) (h : ∀ x ∈ va, x ∈ vb) : togL vb va = vb :=
  rise_extI (togL_rise vb va).1 (up_iff.1 hb).2 fun x => by rw [(togL_rise vb va).2]; exact ⟨fun e => e.elim id (h x), .inl⟩
theorem out_len {S vars rest : List Nat} {v : Nat} {most : Bool} {l : List Fr} (h : cnt S rest ≤ 243) : (outL S vars rest v most l).length ≤ 100000 := by rw [outL_length]; omega

theorem up_short {sizes V : List Int} (hs : Sz3 sizes) (h : Up V sizes.length) : V.length ≤ 100000 := by have := h.length; have := hs.few; omega
end Go.Proofs.YtbejijgelljeaaaGreatDoor


/- The document's answer: Out. -/
namespace Go.Proofs.YtbejijgelljeaaaGreatDoor
open Go.RowKit Go.Shelf

theorem cmp_turn (p q : Rat) : 0 < cmpQ p q ↔ cmpQ q p < 0 := by
  rw [cmpQ, cmpQ]
  by_cases h1 : p < q
  · have h2 : ¬ q < p := Rat.not_lt.2 (Rat.le_of_lt h1)
    have h3 : ¬ q = p := fun h => by rw [h] at h1; exact Rat.lt_irrefl h1
    rw [if_pos h1, if_neg h2, if_neg h3]; decide
  · rw [if_neg h1]
    by_cases h2 : p = q
    · subst h2
      rw [if_neg h1, if_pos rfl]
    · have h3 : q < p := Rat.not_le.1 fun h4 => h1 (Rat.lt_of_le_of_ne h4 h2)
      rw [if_neg h2, if_pos h3]; decide
/-- What is left of the first so many; ahead of the first nothing. -/
def leftN (most : Bool) (T : Nat → Fr) (x : Nat) : Fr := if x = 0 then frZ else outN most T (x - 1)
theorem leftN_zero (most : Bool) (T : Nat → Fr) : leftN most T 0 = frZ := rfl
theorem leftN_one (most : Bool) (T : Nat → Fr) : leftN most T 1 = T 0 := rfl
theorem leftN_sum (T : Nat → Fr) {x : Nat} (h : x ≠ 0) : leftN false T (x + 1) = qF (frQ (leftN false T x) + frQ (T x)) := by
  obtain ⟨y, rfl⟩ : ∃ y, x = y + 1 := ⟨x - 1, by omega⟩
  rfl
theorem leftN_up (T : Nat → Fr) {x : Nat} (h : x ≠ 0) (hc : 0 < cmpQ (frQ (T x)) (frQ (leftN true T x))) : leftN true T (x + 1) = T x := by
  obtain ⟨y, rfl⟩ : ∃ y, x = y + 1 := ⟨x - 1, by omega⟩
  change 0 < cmpQ (frQ (T (y + 1))) (frQ (outN true T y)) at hc
  show great (outN true T y) (T (y + 1)) = _
  rw [great, if_pos ((cmp_turn _ _).1 hc)]
theorem leftN_keep (T : Nat → Fr) {x : Nat} (h : x ≠ 0) (hc : ¬ 0 < cmpQ (frQ (T x)) (frQ (leftN true T x))) : leftN true T (x + 1) = leftN true T x := by
  obtain ⟨y, rfl⟩ : ∃ y, x = y + 1 := ⟨x - 1, by omega⟩
  change ¬ 0 < cmpQ (frQ (T (y + 1))) (frQ (outN true T y)) at hc
  show great (outN true T y) (T (y + 1)) = outN true T y
  rw [great, if_neg (fun h => hc ((cmp_turn _ _).2 h))]
theorem left_ar {x : Nat} (hx : x ≤ 3) : 2 * ((x - 1 + 1) * 8192) ≤ 50000 := by omega
theorem leftN_size (most : Bool) (T : Nat → Fr) (x : Nat) (hx : x ≤ 3) (h : ∀ y, y < x → (T y).2.1.size + (T y).2.2.size + 2 ≤ 8192) : (leftN most T x).2.1.size + (leftN most T x).2.2.size ≤ 50000 := by
  by_cases h0 : x = 0
  · subst h0; rw [leftN_zero]; decide
  · have e : leftN most T x = outN most T (x - 1) := if_neg h0
    rw [e]
    exact Nat.le_trans (outN_size most T (x - 1) fun y hy => h y (by omega)) (left_ar hx)
theorem spr_with (n : Nat) (f : Nat → Nat) (v z x : Nat) : (spr n (withV f v z)).set v x = spr n (withV f v x) := by
  rw [spr_set]
  exact spr_congr fun u _ => by
    rw [withV, withV, withV]
    by_cases e : u = v
    · rw [if_pos e, if_pos e]
    · rw [if_neg e, if_neg e, if_neg e]
theorem spr_self (n : Nat) (f : Nat → Nat) (v : Nat) : spr n f = spr n (withV f v (f v)) := spr_congr fun u _ => by
  rw [withV]
  by_cases e : u = v
  · rw [if_pos e, e]
  · rw [if_neg e]
theorem left_ar2 {x : Nat} (hx : x ≤ 4) : 2 * ((x - 1 + 1) * 8192) ≤ 65536 := by omega
theorem leftN_lt (most : Bool) (T : Nat → Fr) (x : Nat) (h1 : 1 ≤ x) (hx : x ≤ 4) (h : ∀ y, y < x → (T y).2.1.size + (T y).2.2.size + 2 ≤ 8192) : (leftN most T x).2.1.size + (leftN most T x).2.2.size ≤ 65536 := by
  have e : leftN most T x = outN most T (x - 1) := if_neg (by omega)
  rw [e]
  exact Nat.le_trans (outN_size most T (x - 1) fun y hy => h y (by omega)) (left_ar2 hx)

/-- What the inner loop of Out holds. -/
def OI (V0 V : World) (G B : Nat) (n v z : Nat) (F : Nat → Nat) (f : Fr) : Prop := RowI V G (spr n (withV F v z)) ∧ Box V B f.1 f.2.1 f.2.2 ∧ Below V0.heap.size V0 V
theorem OI.step {V0 V V' : World} {G B n v z : Nat} {F : Nat → Nat} {f : Fr} (h : OI V0 V G B n v z F f) (hb : Below V.heap.size V V') : OI V0 V' G B n v z F f := ⟨h.1.below hb h.1.lt, h.2.1.below hb h.2.1.lt, h.2.2.trans (hb.mono h.2.2.size)⟩
theorem rows_apart {V : World} {G B : Nat} {l : List Nat} {n : Bool} {x y : ByteArray} (h1 : RowI V G l) (h2 : Box V B n x y) : G ≠ B := fun e => by
  subst e
  rw [RowI] at h1
  rw [Box, h1] at h2
  simp at h2

end Go.Proofs.YtbejijgelljeaaaGreatDoor


/- The document's answer: TableBest. -/
namespace Go.Proofs.YtbejijgelljeaaaGreatDoor
open Go.RowKit Go.Shelf

theorem bestN_up {l : List Fr} {i : Nat} (h : 1 ≤ i) (hc : 0 < cmpQ (frQ (celF l i)) (frQ (celF l (bestN l (i - 1))))) : bestN l i = i := by
  obtain ⟨k, rfl⟩ : ∃ k, i = k + 1 := ⟨i - 1, by omega⟩
  rw [Nat.add_sub_cancel] at hc
  rw [bestN, if_pos ((cmp_turn _ _).1 hc)]
theorem bestN_keep {l : List Fr} {i : Nat} (h : 1 ≤ i) (hc : ¬ 0 < cmpQ (frQ (celF l i)) (frQ (celF l (bestN l (i - 1))))) : bestN l i = bestN l (i - 1) := by
  obtain ⟨k, rfl⟩ : ∃ k, i = k + 1 := ⟨i - 1, by omega⟩
  rw [Nat.add_sub_cancel] at hc ⊢
  rw [bestN, if_neg (fun h => hc ((cmp_turn _ _).2 h))]

end Go.Proofs.YtbejijgelljeaaaGreatDoor


/- Package table: Norm's closure. -/
namespace Go.Proofs.YtbejijgelljeaaaGreatDoor
open Go.RowKit Go.Shelf

end Go.Proofs.YtbejijgelljeaaaGreatDoor

