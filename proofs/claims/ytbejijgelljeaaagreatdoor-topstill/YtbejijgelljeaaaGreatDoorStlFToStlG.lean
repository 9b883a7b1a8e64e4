/- moved and Step of package chain, for longer numbers. -/
import Derived.Test.YtbejijgelljeaaaGreatDoorStlDToStlE
namespace Go.Proofs.YtbejijgelljeaaaGreatDoor
open Go.RowKit Go.Shelf

/-- Numbers, each as long as may be, stand for these. -/
structure LsW (n : Nat) (f : Nat → Rat) (l : List Fr) : Prop where
  len : l.length = n
  is : ∀ i (h : i < l.length), frQ l[i] = f i
  size : ∀ i (h : i < l.length), l[i].2.1.size + l[i].2.2.size ≤ 20000
theorem LsW.mk' {n : Nat} {f : Nat → Rat} (h : ∀ i, i < n → qw (f i) ≤ 20000) : LsW n f (lF n f) := by
  refine ⟨lF_length n f, fun i hi => by rw [lF_get]; exact frQ_qF _, fun i hi => ?_⟩
  rw [lF_get]
  show (nu (f i)).size + (de (f i)).size ≤ 20000
  rw [own_size]
  exact h i (by rw [lF_length] at hi; exact hi)
theorem fsum_is {f : Nat → Rat} : ∀ (l : List Fr) (n : Nat), l.length = n → (∀ i (h : i < l.length), frQ l[i] = f i) → fsum l = sumR f n := fun l => by
  induction l using snoc_ind with
  | h0 => intro n hn _; subst hn; rfl
  | h1 l x ih =>
    intro n hn hi
    obtain rfl : n = l.length + 1 := by rw [← hn]; simp
    rw [fsum_snoc, sumR, ih l.length rfl fun i h => ?_]
    · congr 1
      have := hi l.length (by simp)
      rw [List.getElem_append_right (Nat.le_refl _)] at this
      exact (show frQ x = f l.length by simpa using this)
    · have := hi i (by simp; omega)
      rw [List.getElem_append_left h] at this
      exact this
theorem LsW.fsum {n : Nat} {f : Nat → Rat} {l : List Fr} (h : LsW n f l) : fsum l = sumR f n := fsum_is l n h.len h.is
theorem LsW.fsumk {n k : Nat} {f : Nat → Rat} {l : List Fr} (h : LsW n f l) (hk : k ≤ n) : Go.Proofs.YtbejijgelljeaaaGreatDoor.fsum (l.take k) = sumR f k := by
  refine fsum_is _ k (by rw [List.length_take, h.len]; omega) fun i hi => ?_
  rw [List.getElem_take]
  exact h.is i (by rw [List.length_take] at hi; omega)

set_option maxRecDepth 100000 in
set_option maxHeartbeats 2000000 in
theorem chMoved_long (a c : Option Addr) (ca cc n : Nat) (l : List Fr) (R : List (List Fr)) (f : Nat → Rat) (g : Nat → Nat → Rat) (w : World) (ha : FrS w a l) (hR : FsS w c R) (hf : LsW n f l) (hRl : R.length = n) (hg : ∀ i (h : i < R.length), LsW n (g i) R[i]) (hsz : ∀ i j, i < n → j < n → qw (f i * g i j) ≤ 20000) (hps : ∀ j k, j < n → k ≤ n → qw (sumR (fun i => f i * g i j) k) ≤ 40000) (hn : n ≤ 6) :
    Calls Tryz.prog 48 #[.slice a n ca, .slice c n cc] w fun e w' => ∃ G, e = .returned (.slice (some ⟨G, 0, none⟩) n n) ∧ w.heap.size ≤ G ∧ RowF w' G (lF n fun j => sumR (fun i => f i * g i j) n) ∧ Below w.heap.size w w' := by
  obtain ⟨i0, hi0, hz0, hz1, hz2⟩ := info_parts Tryz.infoFrac
  have HFA := hid ha
  have HFR := hid hR
  have HLA := hid hf
  have HG := hid hg
  have HSZ := hid hsz
  have HPQ := hid hps
  have HRL := hid hRl
  clear ha hR hf hg hsz hRl hps
  have hfl := lF_length n fun j => sumR (fun i => f i * g i j) n
  have HFG := hid (fun j (hj : j < n) => lF_get? (f := fun j => sumR (fun i => f i * g i j) n) hj)
  generalize (lF n fun j => sumR (fun i => f i * g i j) n) = FL at *
  go_enter Tryz.func48, Tryz.ntmps48
  go_upto_region 2 with (at_make; refine wpList_make_full _ rfl _ _ 27 rfl w.heap.size 33 i0 (.agg #[.bool false, .string ⟨#[]⟩, .string ⟨#[]⟩]) 3 Tryz.underlying27 hi0 hz0 hz1 .i64 .i64 _ _ n rfl rfl (by go_num) (by go_num) (by rw [hz2]; omega) (by unfold maxLen; omega) (Nat.le_refl _) ?_; intro w2 hown2 hgrow2)
  have hb2 := block_of_own3 hown2
  rw [made_frs] at hb2
  have hB2 : Below w.heap.size w w2 := (Below.refl _ w).grown hgrow2 (Nat.le_refl _) (fun k e => by cases e)
  have HK0 : Hid (MF w w.heap.size (partF FL 0) w2) := ⟨by rw [partF_zero, hfl]; exact hb2, hB2⟩
  clear hown2 hgrow2 hb2 hB2
  go_wp2_with fail
  go_loopw [14] (fun jv wr => ∃ j : Nat, j ≤ n ∧ jv = .int .i64 j ∧ Hid (MF w w.heap.size (partF FL j) wr)) (fun jv _ => n - (intOf jv).toNat)
  case atStart => exact ⟨0, Nat.zero_le _, rfl, HK0⟩
  case round =>
    obtain ⟨j, hj, rfl, HK⟩ := hrel
    clear HK0
    by_cases hjl : j < n
    · have htl := lF_length n fun i => f i * g i j
      have HTG := hid (fun i (hi : i < n) => lF_get? (f := fun i => f i * g i j) hi)
      have HTL : Hid (LsW n (fun i => f i * g i j) (lF n fun i => f i * g i j)) := LsW.mk' fun i hi => HSZ.out i j hi hjl
      generalize (lF n fun i => f i * g i j) = TL at *
      generalize wr = W at *
      go_upto_region 6 with (at_make; refine wpList_make_full _ rfl _ _ 27 rfl W.heap.size 33 i0 (.agg #[.bool false, .string ⟨#[]⟩, .string ⟨#[]⟩]) 3 Tryz.underlying27 hi0 hz0 hz1 .i64 .i64 _ _ n rfl rfl (by go_num) (by go_num) (by rw [hz2]; omega) (by unfold maxLen; omega) (Nat.le_refl _) ?_; intro w2 hown2 hgrow2)
      have hb2 := block_of_own3 hown2
      rw [made_frs] at hb2
      have hB2 : Below W.heap.size W w2 := (Below.refl _ W).grown hgrow2 (Nat.le_refl _) (fun k e => by cases e)
      have HI0 : Hid (MF W W.heap.size (partF TL 0) w2) := ⟨by rw [partF_zero, htl]; exact hb2, hB2⟩
      clear hown2 hgrow2 hb2 hB2
      go_wp2_with fail
      go_loopw [22] (fun iv wr => ∃ i : Nat, i ≤ n ∧ iv = .int .i64 i ∧ Hid (MF W W.heap.size (partF TL i) wr)) (fun iv _ => n - (intOf iv).toNat)
      case atStart => exact ⟨0, Nat.zero_le _, rfl, HI0⟩
      case round =>
        obtain ⟨i, hi, rfl, HI⟩ := hrel
        clear HI0
        by_cases hlt : i < n
        · have hia : i < l.length := by rw [HLA.out.len]; exact hlt
          have hiR : i < R.length := by rw [HRL.out]; exact hlt
          have hjr : j < R[i].length := by rw [(HG.out i hiR).len]; exact hjl
          obtain ⟨ga, oa, rfl, hga, a0, a1, a2⟩ := HFA.out i hia
          obtain ⟨gc, oc, bc, cr, rfl, hgc, c0, hrow, hcr⟩ := HFR.out i hiR
          obtain ⟨gr, or_, rfl, hgr, b0, b1, b2⟩ := hrow j hjr
          obtain ⟨hd1, hd2⟩ := List.getElem?_eq_some_iff.1 (HTG.out i hlt)
          have HPS := hid (partF_set TL hd1)
          rw [hd2] at HPS
          have hrl := (HG.out i hiR).len
          have HMU : Hid (∀ V : World, Calls Tryz.prog 54 #[.agg #[.bool l[i].1, .string l[i].2.1, .string l[i].2.2], .agg #[.bool R[i][j].1, .string R[i][j].2.1, .string R[i][j].2.2]] V fun e w' => e = .returned (.agg #[.bool (qF (f i * g i j)).1, .string (qF (f i * g i j)).2.1, .string (qF (f i * g i j)).2.2]) ∧ Below V.heap.size V w') := fun V => by
            have h1 := HLA.out.size i hia
            have h2 := (HG.out i hiR).size j hjr
            exact fMul_q (f i * g i j) (HLA.out.is i hia) ((HG.out i hiR).is j hjr) rfl (by omega) (by omega)
          clear hd1 hd2 hrow
          generalize qF (f i * g i j) = qf at *
          generalize l[i].1 = an at *
          generalize l[i].2.1 = ax at *
          generalize l[i].2.2 = ay at *
          generalize R[i][j].1 = bn at *
          generalize R[i][j].2.1 = bx at *
          generalize R[i][j].2.2 = by_ at *
          generalize R[i].length = rn at *
          go_upto_region 9 with fail
          have HELD : Hid (∀ u, Below W.heap.size W u → u.cell? ⟨ga, oa + i * 3, none⟩ = some (.bool an) ∧ u.cell? ⟨ga, oa + i * 3 + 1, none⟩ = some (.string ax) ∧ u.cell? ⟨ga, oa + i * 3 + 2, none⟩ = some (.string ay) ∧ u.cell? ⟨gc, oc + i, none⟩ = some (.slice (some ⟨gr, or_, none⟩) rn cr) ∧ u.cell? ⟨gr, or_ + j * 3, none⟩ = some (.bool bn) ∧ u.cell? ⟨gr, or_ + j * 3 + 1, none⟩ = some (.string bx) ∧ u.cell? ⟨gr, or_ + j * 3 + 2, none⟩ = some (.string by_)) := fun u h0 => by
            have h := HK.out.bel.trans (h0.mono HK.out.bel.size)
            exact ⟨(h.cell (p := ⟨ga, _, none⟩) hga).trans a0, (h.cell (p := ⟨ga, _, none⟩) hga).trans a1, (h.cell (p := ⟨ga, _, none⟩) hga).trans a2, (h.cell (p := ⟨gc, _, none⟩) hgc).trans c0, (h.cell (p := ⟨gr, _, none⟩) hgr).trans b0, (h.cell (p := ⟨gr, _, none⟩) hgr).trans b1, (h.cell (p := ⟨gr, _, none⟩) hgr).trans b2⟩
          clear a0 a1 a2 c0 b0 b1 b2
          replace HI := hid HI.out.drew
          refine wp_region_held_drew (S := fun u => u.cell? ⟨ga, oa + i * 3, none⟩ = some (.bool an) ∧ u.cell? ⟨ga, oa + i * 3 + 1, none⟩ = some (.string ax) ∧ u.cell? ⟨ga, oa + i * 3 + 2, none⟩ = some (.string ay) ∧ u.cell? ⟨gc, oc + i, none⟩ = some (.slice (some ⟨gr, or_, none⟩) rn cr) ∧ u.cell? ⟨gr, or_ + j * 3, none⟩ = some (.bool bn) ∧ u.cell? ⟨gr, or_ + j * 3 + 1, none⟩ = some (.string bx) ∧ u.cell? ⟨gr, or_ + j * 3 + 2, none⟩ = some (.string by_)) (by kernel_rfl) (HELD.out _ HI.out.bel) (fun hSd => ?_)
          generalize wr.drew = u0 at *
          refine wpAnyH_take (i := 0) (oi := _) (v := .slice (some ⟨W.heap.size, 0, none⟩) n n) rfl (by kernel_rfl) (by kernel_rfl) (by kernel_rfl) (fun _ _ _ h => h) (Or.inl ⟨by rfl, ?_⟩) (by assumption) ?_
          · intro u' hSu
            (try simp only [List.getElem_toArray, List.getElem_cons_zero])
            go_simp
          (try simp only [List.getElem_toArray, List.getElem_cons_zero])
          (try simp only [Act.put, List.setIfInBounds_toArray, List.set_cons_zero, List.set_cons_succ])
          refine wpAnyH_take (i := 1) (oi := _) (v := .int .i64 (i : Nat)) rfl (by kernel_rfl) (by kernel_rfl) (by kernel_rfl) (fun _ _ _ h => h) (Or.inl ⟨by rfl, ?_⟩) (by assumption) ?_
          · intro u' hSu
            (try simp only [List.getElem_toArray, List.getElem_cons_zero, List.getElem_cons_succ])
            go_simp
          (try simp only [List.getElem_toArray, List.getElem_cons_zero, List.getElem_cons_succ])
          (try simp only [Act.put, List.setIfInBounds_toArray, List.set_cons_zero, List.set_cons_succ])
          refine wpAnyH_take (i := 2) (oi := _) (v := .slice (some ⟨ga, oa, none⟩) n ca) rfl (by kernel_rfl) (by kernel_rfl) (by kernel_rfl) (fun _ _ _ h => h) (Or.inl ⟨by rfl, ?_⟩) (by assumption) ?_
          · intro u' hSu
            (try simp only [List.getElem_toArray, List.getElem_cons_zero, List.getElem_cons_succ])
            go_simp
          (try simp only [List.getElem_toArray, List.getElem_cons_zero, List.getElem_cons_succ])
          (try simp only [Act.put, List.setIfInBounds_toArray, List.set_cons_zero, List.set_cons_succ])
          refine wpAnyH_take (i := 3) (oi := _) (v := .int .i64 (i : Nat)) rfl (by kernel_rfl) (by kernel_rfl) (by kernel_rfl) (fun _ _ _ h => h) (Or.inl ⟨by rfl, ?_⟩) (by assumption) ?_
          · intro u' hSu
            (try simp only [List.getElem_toArray, List.getElem_cons_zero, List.getElem_cons_succ])
            go_simp
          (try simp only [List.getElem_toArray, List.getElem_cons_zero, List.getElem_cons_succ])
          (try simp only [Act.put, List.setIfInBounds_toArray, List.set_cons_zero, List.set_cons_succ])
          refine wpAnyH_take (i := 4) (oi := _) (v := .pointer (some ⟨ga, oa + i * 3, none⟩)) rfl (by kernel_rfl) (by kernel_rfl) (by kernel_rfl) (fun _ _ _ h => h) (Or.inl ⟨by rfl, ?_⟩) (by assumption) ?_
          · intro u' hSu
            (try simp only [List.getElem_toArray, List.getElem_cons_zero, List.getElem_cons_succ])
            go_simp
          (try simp only [List.getElem_toArray, List.getElem_cons_zero, List.getElem_cons_succ])
          (try simp only [Act.put, List.setIfInBounds_toArray, List.set_cons_zero, List.set_cons_succ])
          refine wpAnyH_take (i := 5) (oi := _) (v := .agg #[.bool an, .string ax, .string ay]) rfl (by kernel_rfl) (by kernel_rfl) (by kernel_rfl) (fun _ _ _ h => h) (Or.inl ⟨by rfl, ?_⟩) (by assumption) ?_
          · intro u' hSu
            (try simp only [List.getElem_toArray, List.getElem_cons_zero, List.getElem_cons_succ])
            obtain ⟨s0, s1, s2, s3, s4, s5, s6⟩ := hSu
            go_simp
          (try simp only [List.getElem_toArray, List.getElem_cons_zero, List.getElem_cons_succ])
          (try simp only [Act.put, List.setIfInBounds_toArray, List.set_cons_zero, List.set_cons_succ])
          refine wpAnyH_take (i := 6) (oi := _) (v := .slice (some ⟨gc, oc, none⟩) n cc) rfl (by kernel_rfl) (by kernel_rfl) (by kernel_rfl) (fun _ _ _ h => h) (Or.inl ⟨by rfl, ?_⟩) (by assumption) ?_
          · intro u' hSu
            (try simp only [List.getElem_toArray, List.getElem_cons_zero, List.getElem_cons_succ])
            go_simp
          (try simp only [List.getElem_toArray, List.getElem_cons_zero, List.getElem_cons_succ])
          (try simp only [Act.put, List.setIfInBounds_toArray, List.set_cons_zero, List.set_cons_succ])
          refine wpAnyH_take (i := 7) (oi := _) (v := .int .i64 (i : Nat)) rfl (by kernel_rfl) (by kernel_rfl) (by kernel_rfl) (fun _ _ _ h => h) (Or.inl ⟨by rfl, ?_⟩) (by assumption) ?_
          · intro u' hSu
            (try simp only [List.getElem_toArray, List.getElem_cons_zero, List.getElem_cons_succ])
            go_simp
          (try simp only [List.getElem_toArray, List.getElem_cons_zero, List.getElem_cons_succ])
          (try simp only [Act.put, List.setIfInBounds_toArray, List.set_cons_zero, List.set_cons_succ])
          refine wpAnyH_take (i := 8) (oi := _) (v := .pointer (some ⟨gc, oc + i, none⟩)) rfl (by kernel_rfl) (by kernel_rfl) (by kernel_rfl) (fun _ _ _ h => h) (Or.inl ⟨by rfl, ?_⟩) (by assumption) ?_
          · intro u' hSu
            (try simp only [List.getElem_toArray, List.getElem_cons_zero, List.getElem_cons_succ])
            go_simp
          (try simp only [List.getElem_toArray, List.getElem_cons_zero, List.getElem_cons_succ])
          (try simp only [Act.put, List.setIfInBounds_toArray, List.set_cons_zero, List.set_cons_succ])
          refine wpAnyH_take (i := 9) (oi := _) (v := .slice (some ⟨gr, or_, none⟩) rn cr) rfl (by kernel_rfl) (by kernel_rfl) (by kernel_rfl) (fun _ _ _ h => h) (Or.inl ⟨by rfl, ?_⟩) (by assumption) ?_
          · intro u' hSu
            (try simp only [List.getElem_toArray, List.getElem_cons_zero, List.getElem_cons_succ])
            obtain ⟨s0, s1, s2, s3, s4, s5, s6⟩ := hSu
            go_simp
          (try simp only [List.getElem_toArray, List.getElem_cons_zero, List.getElem_cons_succ])
          (try simp only [Act.put, List.setIfInBounds_toArray, List.set_cons_zero, List.set_cons_succ])
          refine wpAnyH_take (i := 10) (oi := _) (v := .int .i64 (j : Nat)) rfl (by kernel_rfl) (by kernel_rfl) (by kernel_rfl) (fun _ _ _ h => h) (Or.inl ⟨by rfl, ?_⟩) (by assumption) ?_
          · intro u' hSu
            (try simp only [List.getElem_toArray, List.getElem_cons_zero, List.getElem_cons_succ])
            go_simp
          (try simp only [List.getElem_toArray, List.getElem_cons_zero, List.getElem_cons_succ])
          (try simp only [Act.put, List.setIfInBounds_toArray, List.set_cons_zero, List.set_cons_succ])
          refine wpAnyH_take (i := 11) (oi := _) (v := .pointer (some ⟨gr, or_ + j * 3, none⟩)) rfl (by kernel_rfl) (by kernel_rfl) (by kernel_rfl) (fun _ _ _ h => h) (Or.inl ⟨by rfl, ?_⟩) (by assumption) ?_
          · intro u' hSu
            (try simp only [List.getElem_toArray, List.getElem_cons_zero, List.getElem_cons_succ])
            go_simp
          (try simp only [List.getElem_toArray, List.getElem_cons_zero, List.getElem_cons_succ])
          (try simp only [Act.put, List.setIfInBounds_toArray, List.set_cons_zero, List.set_cons_succ])
          refine wpAnyH_take (i := 12) (oi := _) (v := .agg #[.bool bn, .string bx, .string by_]) rfl (by kernel_rfl) (by kernel_rfl) (by kernel_rfl) (fun _ _ _ h => h) (Or.inl ⟨by rfl, ?_⟩) (by assumption) ?_
          · intro u' hSu
            (try simp only [List.getElem_toArray, List.getElem_cons_zero, List.getElem_cons_succ])
            obtain ⟨s0, s1, s2, s3, s4, s5, s6⟩ := hSu
            go_simp
          (try simp only [List.getElem_toArray, List.getElem_cons_zero, List.getElem_cons_succ])
          (try simp only [Act.put, List.setIfInBounds_toArray, List.set_cons_zero, List.set_cons_succ])
          refine wpAnyH_ready (rs := [13]) (by kernel_rfl) (by simp) (AllReadyH.cons rfl ?_ (AllReadyH.nil))
          · intro K' hK'
            (try simp only [List.getElem_toArray, List.getElem_cons_zero, List.getElem_cons_succ])
            go_simp
            refine (HMU.out _).mono ?_
            rintro e u1 ⟨rfl, hb⟩
            replace HI := hid (HI.out.step hb)
            refine hK'.out _ _ (HELD.out _ HI.out.bel) (fun hSe => ?_)
            clear hK' K' hSd
            have hSd := hSe
            clear hSe hb
            (try simp only [List.getElem_toArray, List.getElem_cons_zero, List.getElem_cons_succ])
            (try simp only [Act.put, List.setIfInBounds_toArray, List.set_cons_zero, List.set_cons_succ])
            refine wpAnyH_take (i := 14) (oi := _) (v := .pointer (some ⟨W.heap.size, i * 3, none⟩)) rfl (by kernel_rfl) (by kernel_rfl) (by kernel_rfl) (fun _ _ _ h => h) (Or.inl ⟨by rfl, ?_⟩) (by assumption) ?_
            · intro u' hSu
              (try simp only [List.getElem_toArray, List.getElem_cons_zero, List.getElem_cons_succ])
              go_simp
            (try simp only [List.getElem_toArray, List.getElem_cons_zero, List.getElem_cons_succ])
            (try simp only [Act.put, List.setIfInBounds_toArray, List.set_cons_zero, List.set_cons_succ])
            obtain ⟨k0, k1, k2⟩ := HI.out.row.cells i (by rw [partF_length _ (by omega)]; omega)
            have f0 := HI.out.row.fz (i * 3)
            have f1 := HI.out.row.fz (i * 3 + 1)
            have f2 := HI.out.row.fz (i * 3 + 2)
            generalize (partF TL i)[i]'(by rw [partF_length _ (by omega)]; omega) = z at *
            obtain ⟨zn, zx, zy⟩ := z
            simp only at k0 k1 k2
            refine wpAnyH_ready (rs := [15]) (by kernel_rfl) (by simp) (AllReadyH.cons rfl ?_ (AllReadyH.nil))
            · intro K' hK'
              (try simp only [List.getElem_toArray, List.getElem_cons_zero, List.getElem_cons_succ])
              go_simp
              refine hK'.out _ _ (HELD.out _ (HI.out.put (Nat.le_refl _) i qf).bel) (fun _ => wpAnyH_done (by kernel_rfl) ?_ _)
              clear hK' K' hSd
              replace HI := hid (HI.out.put (Nat.le_refl _) i qf)
              rw [HPS.out] at HI
              clear k0 k1 k2 f0 f1 f2
              go_wp2
              go_roundw
              case rel => exact ⟨i + 1, by omega, by go_num, HI⟩
              case measure => simp [intOf]; omega
        · obtain rfl : i = n := by omega
          have hfin := HI.out.row
          rw [← htl, partF_all] at hfin
          obtain ⟨hd1, hd2⟩ := List.getElem?_eq_some_iff.1 (HFG.out j hjl)
          have HPS := hid (partF_set FL hd1)
          rw [hd2] at HPS
          have HSU : Hid (Calls Tryz.prog 60 #[.slice (some ⟨W.heap.size, 0, none⟩) i i] wr fun e w' => e = .returned (.agg #[.bool (qF (sumR (fun k => f k * g k j) i)).1, .string (qF (sumR (fun k => f k * g k j) i)).2.1, .string (qF (sumR (fun k => f k * g k j) i)).2.2]) ∧ Below wr.heap.size wr w') := by
            have h := fSum_cw (some ⟨W.heap.size, 0, none⟩) i TL wr hfin.fr (fun q hq => Nat.le_trans (HTL.out.size q hq) (by omega)) (fun q hq => by rw [HTL.out.fsumk (by rw [HTL.out.len] at hq; exact hq)]; exact HPQ.out j q hjl (by rw [HTL.out.len] at hq; exact hq)) (by rw [HTL.out.len]; omega)
            rw [HTL.out.len, HTL.out.fsum] at h
            exact h
          have HB := hid HI.out.bel
          clear hfin hd1 hd2 HI
          generalize qF (sumR (fun k => f k * g k j) i) = qf at *
          go_wp2_with fail
          refine HSU.out.mono ?_
          rintro e w5 ⟨rfl, hb5⟩
          replace HK := hid (HK.out.step (HB.out.trans (hb5.mono HB.out.size)))
          clear hb5
          obtain ⟨k0, k1, k2⟩ := HK.out.row.cells j (by rw [partF_length _ (by omega)]; omega)
          have f0 := HK.out.row.fz (j * 3)
          have f1 := HK.out.row.fz (j * 3 + 1)
          have f2 := HK.out.row.fz (j * 3 + 2)
          generalize (partF FL j)[j]'(by rw [partF_length _ (by omega)]; omega) = z at *
          obtain ⟨zn, zx, zy⟩ := z
          simp only at k0 k1 k2
          have HK2 := hid (HK.out.put (Nat.le_refl _) j qf)
          rw [HPS.out] at HK2
          go_wp2
          go_roundw
          case rel => exact ⟨j + 1, by omega, by go_num, HK2⟩
          case measure => simp [intOf]; omega
    · obtain rfl : j = n := by omega
      have hfin := HK.out.row
      rw [← hfl, partF_all] at hfin
      have HFI := hid hfin
      clear hfin
      go_wp2
      go_ret
      exact ⟨w.heap.size, rfl, Nat.le_refl _, HFI.out, HK.out.bel⟩

set_option maxRecDepth 100000 in
set_option maxHeartbeats 400000 in
theorem chStep_long (a c : Option Addr) (ca cc n : Nat) (f : Nat → Rat) (P : Nat → Nat → Rat) (w : World) (ha : FrS w a (lF n f)) (hR : FsS w c (mR n P)) (hm : ChM n P) (hf : ∀ i, i < n → Fits 3413 (f i)) :
    Calls Tryz.prog 20 #[.slice a n ca, .slice c n cc] w fun e w' => ∃ G, e = .returned (.tuple #[.slice (some ⟨G, 0, none⟩) n n, .int .i64 0]) ∧ w.heap.size ≤ G ∧ RowF w' G (lF n fun j => sumR (fun i => f i * P i j) n) ∧ Below w.heap.size w w' := by
  have h5 := hm.five
  have HC := hid (chCheck_yes c cc n (mR n P) w hR hm.ok hm.one (by omega))
  have HM := hid (fun (U : World) (hU : Below w.heap.size w U) => chMoved_long a c ca cc n (lF n f) (mR n P) f P U (ha.below hU) (hR.below hU) (LsW.mk' fun i hi => by have := fits_qw (hf i hi); omega) (mR_length n P) (fun i hi => by rw [mR_get]; exact LsW.mk' fun j hj => by have := fits_qw (hm.fit i j (by rw [mR_length] at hi; exact hi) hj); omega) (fun i j hi hj => by have := fits_qw (fits_tim (hf i hi) (hm.fit i j hi hj)); omega) (fun j k hj hk => by
    have h1 := fits_qw (fits_sumR (f := fun i => f i * P i j) (c := 3414) (n := k) fun i hi => fits_tim (hf i (by omega)) (hm.fit i j (by omega) hj))
    have h2 : k * (3414 + 1) ≤ 5 * (3414 + 1) := Nat.mul_le_mul_right _ (by omega)
    omega) (by omega))
  clear ha hR hm hf
  go_enter Tryz.func20, Tryz.ntmps20
  go_wp2_with fail
  refine HC.out.mono ?_
  rintro e w1 ⟨rfl, hb1⟩
  have HB1 := hid hb1
  clear hb1
  go_wp2_with fail
  refine (HM.out _ HB1.out).mono ?_
  rintro e w2 ⟨G, rfl, hG, hr, hb2⟩
  have HB2 := hid (HB1.out.trans (hb2.mono HB1.out.size))
  have HRR := hid hr
  have hGw : w.heap.size ≤ G := Nat.le_trans HB1.out.size hG
  clear hr hb2 hG
  go_wp2
  go_ret2
  exact ⟨G, rfl, hGw, HRR.out, HB2.out⟩

set_option maxRecDepth 100000 in
set_option maxHeartbeats 400000 in
theorem topSame_any (a b : Option Addr) (ca cb n : Nat) (l : List Fr) (w : World) (ha : FrS w a l) (hb : FrS w b l) (hl : l.length = n) (hn : n ≤ 1000) :
    Calls Tryz.prog 21 #[.slice a n ca, .slice b n cb] w fun e w' => e = .returned (.bool true) ∧ Below w.heap.size w w' := by
  have HA := hid ha
  have HB := hid hb
  have HL := hid hl
  clear ha hb hl
  go_enter Tryz.func21, Tryz.ntmps21
  go_wp2_with fail
  go_loopw [5] (fun iv wr => ∃ i : Nat, i ≤ n ∧ iv = .int .i64 i ∧ Hid (Below w.heap.size w wr)) (fun iv _ => n - (intOf iv).toNat)
  case atStart => exact ⟨0, Nat.zero_le _, rfl, Below.refl _ _⟩
  case round =>
    obtain ⟨i, hi, rfl, HW⟩ := hrel
    by_cases hlt : i < n
    · have hil : i < l.length := by rw [HL.out]; exact hlt
      obtain ⟨g, o, rfl, hg, a0, a1, a2⟩ := (HA.out.below HW.out) i hil
      obtain ⟨g2, o2, rfl, hg2, b0, b1, b2⟩ := (HB.out.below HW.out) i hil
      generalize l[i] = f at *
      obtain ⟨fn, fx, fy⟩ := f
      simp only at a0 a1 a2 b0 b1 b2
      go_wp2_with fail
      go_quiet (fail)
      go_wp2
      go_roundw
      case rel => exact ⟨i + 1, by omega, by go_num, below_dn HW.out _⟩
      case measure => simp [intOf]; omega
    · obtain rfl : n = i := by omega
      go_wp2
      go_ret
      exact ⟨rfl, HW.out⟩
set_option maxRecDepth 100000 in
set_option maxHeartbeats 400000 in
theorem topHeavy_one (g n : Nat) (b : Option Addr) (c : Nat) (w : World) (hc : w.cell? ⟨g, 0, none⟩ = some (.slice b n c)) (hn : n ≤ 140737488355328) :
    Calls Tryz.prog 17 #[.slice (some ⟨g, 0, none⟩) 1 1] w fun e w' => e = .returned (.bool (decide (512 < n))) ∧ w' = w := by
  have HC := hid hc
  clear hc
  go_enter Tryz.func17, Tryz.ntmps17
  go_wp2_with fail
  go_loopw [3, 4] (fun sv iv wr => ∃ i s : Nat, i ≤ 1 ∧ iv = .int .i64 i ∧ sv = .int .i64 (s : Nat) ∧ Hid (s = i * n) ∧ w = wr) (fun _ iv _ => 1 - (intOf iv).toNat)
  case atStart => exact ⟨0, 0, Nat.zero_le _, rfl, rfl, by show _ = _; simp, rfl⟩
  case round =>
    obtain ⟨i, s, hi, rfl, rfl, HS, rfl⟩ := hrel
    by_cases hlt : i < 1
    · have hi0 : i = 0 := by omega
      have c0 := HC.out
      have hs0 : s = 0 := by rw [HS.out, hi0, Nat.zero_mul]
      subst hi0
      subst hs0
      go_wp2
      go_roundw
      case rel => exact ⟨1, n, by omega, by go_num, by go_num, by show _ = _; simp, trivial⟩
      case measure => simp [intOf]
    · have HSN : Hid (s = n) := by show _ = _; rw [HS.out, show i = 1 by omega, Nat.one_mul]
      have hsb : s ≤ 140737488355328 := by rw [HSN.out]; exact hn
      have HD : Hid (decide (512 < n) = decide (512 < s)) := by show _ = _; rw [HSN.out]
      clear HS HSN
      have hI1 : ¬ ((i : Int) < 1) := by omega
      have hI2 : ¬ i = 0 := by omega
      have hI3 : decide ((i : Int) < 1) = false := decide_eq_false hI1
      go_wp2
      go_ret
      refine ⟨?_, rfl⟩
      rw [HD.out]
      first | rfl | (show Ending.returned (.bool _) = _; congr 2; simp; omega)
end Go.Proofs.YtbejijgelljeaaaGreatDoor


/- The document's answer Sum, for longer numbers. -/
namespace Go.Proofs.YtbejijgelljeaaaGreatDoor
open Go.RowKit Go.Shelf

set_option maxRecDepth 100000 in
set_option maxHeartbeats 2000000 in
theorem rSum_long (a : Option Addr) (cap : Nat) (l : List Fr) (w : World) (h : FrS w a l) (hl : ∀ k (h : k < l.length), l[k].2.1.size + l[k].2.2.size ≤ 40000) (hq : ∀ k, k ≤ l.length → qw (fsum (l.take k)) ≤ 40000) (hn : l.length ≤ 10000) :
    Calls Tryz.prog 22 #[.slice a l.length cap] w fun e w' => e = .returned (C (fsum l)) ∧ Below w.heap.size w w' := by
  have HF := hide h
  clear h
  have HFIN : Hid (fsum (l.take l.length) = fsum l) := by show _ = _; rw [List.take_length]
  have HO := hide (fun V => rOfF_any 0 V (by omega) (by omega))
  rw [Rat.zero_mkRat] at HO
  go_enter Tryz.func22, Tryz.ntmps22
  have hbr := Box.at (w := w) rfl false ⟨#[]⟩ ⟨#[]⟩
  have hB0 : Below w.heap.size w (w.alloc (FC false ⟨#[]⟩ ⟨#[]⟩)) := (Below.refl _ w).alloc (Nat.le_refl _) _
  go_wp2_with fail
  refine (HO.out _).mono ?_
  rintro e w1 ⟨rfl, hb1⟩
  have hr1 := hbr.below hb1 hbr.lt
  have hB1 : Below w.heap.size w w1 := hB0.trans (hb1.mono hB0.size)
  clear hbr hB0 hb1
  rw [C_eq]
  go_wp2_with fail
  have hlt1 := hr1.lt
  go_loopw [4] (fun iv wr => ∃ k : Nat, k ≤ l.length ∧ iv = .int .i64 k ∧ Hid (Box wr w1.heap.size (sgn (fsum (l.take k))) (nu (fsum (l.take k))) (de (fsum (l.take k)))) ∧ Hid (Box wr w.heap.size false ⟨#[]⟩ ⟨#[]⟩) ∧ Below w.heap.size w wr) (fun iv _ => l.length - (intOf iv).toNat)
  case atStart => exact ⟨0, Nat.zero_le _, rfl, Box.at rfl _ _ _, hr1.alloc _, hB1.alloc hB1.size _⟩
  case round =>
    obtain ⟨k, hk, rfl, HS, HR, hBr⟩ := hrel
    by_cases hlt : k < l.length
    · obtain ⟨g, o, rfl, hg, c0, c1, c2⟩ := (HF.out.below hBr) k hlt
      have hstep := take_one hlt
      have hmem := hl k hlt
      have hfit := hq k hk
      have hz := own_size (fsum (l.take k))
      have HADD := hide (fun V => rAddF_any (sgn (fsum (l.take k))) l[k].1 (nu (fsum (l.take k))) (de (fsum (l.take k))) l[k].2.1 l[k].2.2 V (by omega) (by omega))
      rw [val_own, show val l[k].1 l[k].2.1 l[k].2.2 = frv l[k] from rfl, ← hstep] at HADD
      have hbq := HS.out
      clear HS hstep hmem hfit hz
      generalize l[k].1 = fn at *
      generalize l[k].2.1 = fx at *
      generalize l[k].2.2 = fy at *
      obtain ⟨k0, k1, k2, f0, f1, f2⟩ := hbq.facts
      have hgl := hbq.lt
      go_upto_region 5 with fail
      go_region_with (
          (go_at_call 13; refine (HADD.out _).mono ?_; rintro e w2 ⟨rfl, hb2⟩; have hs2 := hbq.drew.below hb2 hbq.lt; have hr2 := (Box.drew HR.out).below hb2 HR.out.lt; have hB2 := hBr.drew.trans (hb2.mono hBr.size); obtain ⟨k0, k1, k2, f0, f1, f2⟩ := hs2.facts; rw [C_eq]))
      all_goals
        go_wp2
        go_roundw
        case rel => exact ⟨k + 1, by omega, by go_num, hs2.put _ _ _, hr2.far3 (by omega) _ _ _, below_put hB2 hB1.size _ _ _⟩
        case measure => simp [intOf]; omega
    · obtain rfl : k = l.length := by omega
      have hbq := HS.out
      rw [HFIN.out] at hbq
      obtain ⟨k0, k1, k2, f0, f1, f2⟩ := hbq.facts
      obtain ⟨j0, j1, j2, i0, i1, i2⟩ := HR.out.facts
      go_wp2
      refine bodyPost_ret ((HR.out.put _ _ _).result rfl _ rfl) rfl ?_
      exact ⟨rfl, below_put hBr (Nat.le_refl _) _ _ _⟩
end Go.Proofs.YtbejijgelljeaaaGreatDoor

