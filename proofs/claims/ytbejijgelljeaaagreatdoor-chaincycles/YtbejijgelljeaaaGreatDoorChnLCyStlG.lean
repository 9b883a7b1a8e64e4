/- A chain that is made of raw numbers may be; what it is after so many steps. -/
import Derived.Test.YtbejijgelljeaaaGreatDoorChnHCyTrnC
import Derived.Test.YtbejijgelljeaaaGreatDoorTrnDCyChnM
import Derived.Test.YtbejijgelljeaaaGreatDoorStlDCy
namespace Go.Proofs.YtbejijgelljeaaaGreatDoor
open Go.RowKit Go.Shelf
theorem fw_small : ∀ {l : List Fr}, (∀ f ∈ l, f.2.1.size + f.2.2.size ≤ 2) → fw l ≤ 10 * l.length
  | [], _ => Nat.zero_le _
  | f :: l, h => by
    have h1 := h f List.mem_cons_self
    have h2 := fw_small (l := l) fun g hg => h g (List.mem_cons_of_mem _ hg)
    simp only [fw, List.length_cons]
    omega
theorem raw_lF {Ls : List Nat} {n : Nat} (hw : Wts Ls n) : rawF Ls = lF n fun j => (Ls.getD j 0 : Rat) / (Ls.sum : Rat) := by
  refine List.ext_getElem (by rw [rawF_length, lF_length]; exact hw.len) fun i h1 h2 => ?_
  have hi : i < Ls.length := by rw [rawF_length] at h1; exact h1
  rw [lF_get]
  simp [rawF, hi]
theorem raw_fits {Ls : List Nat} {n : Nat} (hw : Wts Ls n) (hn : n ≤ 5) (hs : 1 ≤ Ls.sum) (j : Nat) : Fits 1 ((Ls.getD j 0 : Rat) / (Ls.sum : Rat)) := by
  have h6 := sum_le6 hw.six
  have hl := hw.len
  have h1 : Ls.getD j 0 ≤ 6 := by
    by_cases hj : j < Ls.length
    · exact hw.six _ (getD_mem hj)
    · rw [List.getD_eq_getElem?_getD, List.getElem?_eq_none (by omega)]; simp
  exact ⟨(Ls.getD j 0 : Int), Ls.sum, by omega, by rw [Rat.mkRat_eq_div]; rfl, by omega, by simp only [Int.natAbs_natCast]; omega⟩
theorem chM_of {n : Nat} {P1 : List PR} (h1 : 1 ≤ n) (h5 : n ≤ 5) (h : RwP n n P1) : ∃ P : Nat → Nat → Rat, rOf P1 = mR n P ∧ ChM n P := by
  have hl : (rOf P1).length = n := by simp [rOf, h.1]
  have key : ∀ i, ∃ f : Nat → Rat, ∀ hi : i < (rOf P1).length, (rOf P1)[i] = lF n f ∧ (∀ j, Fits 1 (f j)) ∧ rowB (lF n f) = true := fun i => by
    by_cases hi : i < (rOf P1).length
    · have hi' : i < P1.length := by simpa [rOf] using hi
      obtain ⟨Ls, e1, e2, e3⟩ := h.2 P1[i] (List.getElem_mem hi')
      refine ⟨fun j => (Ls.getD j 0 : Rat) / (Ls.sum : Rat), fun _ => ⟨by rw [← raw_lF e2, ← e1]; simp [rOf], raw_fits e2 h5 e3, by rw [← raw_lF e2]; exact rawF_row e3⟩⟩
    · exact ⟨fun _ => 0, fun hi' => absurd hi' hi⟩
  have hch : ∃ P : Nat → Nat → Rat, ∀ i (hi : i < (rOf P1).length), (rOf P1)[i] = lF n (P i) ∧ (∀ j, Fits 1 (P i j)) ∧ rowB (lF n (P i)) = true := ⟨fun i => Classical.choose (key i), fun i hi => Classical.choose_spec (key i) hi⟩
  obtain ⟨P, hP⟩ := hch
  have hrow : ∀ i, i < n → rowB (lF n (P i)) = true := fun i hi => (hP i (by omega)).2.2
  have hfit : ∀ i j, i < n → Fits 1 (P i j) := fun i j hi => (hP i (by omega)).2.1 j
  refine ⟨P, List.ext_getElem (by rw [mR_length]; exact hl) fun i q1 q2 => by rw [mR_get]; exact (hP i q1).1, h1, h5, ⟨fun i j hi hj => ?_, fun i hi => ?_⟩, fun i j hi _ => hfit i j hi, ⟨mR_length n P, fun i hi => by rw [mR_get, lF_length], fun i hi => ?_, fun i hi => by rw [mR_get]; exact hrow i (by rw [mR_length] at hi; exact hi)⟩, by decide, Nat.le_trans (bE_mono 3 h5) (by decide)⟩
  · have h9 := hrow i hi
    rw [rowB, Bool.and_eq_true, List.all_eq_true] at h9
    have h8 := h9.1 (qF (P i j)) (List.mem_map.2 ⟨j, List.mem_range.2 hj, rfl⟩)
    rw [frQ_qF] at h8
    exact Rat.not_lt.1 (of_decide_eq_true h8)
  · have h9 := hrow i hi
    rw [rowB, Bool.and_eq_true] at h9
    rw [← fsum_lF]
    exact of_decide_eq_true h9.2
  · have hi' : i < n := by rw [mR_length] at hi; exact hi
    rw [mR_get]
    have h9 := fw_small (l := lF n (P i)) fun f hf => by
      obtain ⟨j, hj, rfl⟩ := List.mem_map.1 hf
      show (nu _).size + (de _).size ≤ 2
      rw [own_size]
      have := fits_qw (hfit i j hi')
      omega
    rw [lF_length] at h9
    omega
end Go.Proofs.YtbejijgelljeaaaGreatDoor

/- A chain that was evened is one that may be. -/
namespace Go.Proofs.YtbejijgelljeaaaGreatDoor
open Go.RowKit Go.Shelf
theorem row_of {n : Nat} {f : Nat → Rat} (low : ∀ j, j < n → 0 ≤ f j) (one : sumR f n = 1) : rowB (lF n f) = true := by
  rw [rowB, Bool.and_eq_true, List.all_eq_true]
  refine ⟨fun x hx => ?_, decide_eq_true (by rw [fsum_lF]; exact one)⟩
  obtain ⟨j, hj, rfl⟩ := List.mem_map.1 hx
  rw [frQ_qF]
  exact decide_eq_true (Rat.not_lt.2 (low j (List.mem_range.1 hj)))
theorem fw_few {c : Nat} : ∀ {l : List Fr}, (∀ f ∈ l, f.2.1.size + f.2.2.size ≤ c) → fw l ≤ (c + 8) * l.length
  | [], _ => Nat.zero_le _
  | f :: l, h => by
    have h1 := h f List.mem_cons_self
    have h2 := fw_few (l := l) fun g hg => h g (List.mem_cons_of_mem _ hg)
    simp only [fw, List.length_cons]
    rw [Nat.mul_add]
    omega
theorem ev_fits {n : Nat} {P : Nat → Nat → Rat} (h : ChM n P) (h4 : n ≤ 4) {i j : Nat} (hi : i < n) (hj : j < n) : Fits 14 (evQ n P i j) := by
  have hp := evS_pos h.chn hi
  have h1 : Fits 3 (evW P i j) := fits_up (m := 1 + 1 + 1) (fits_add (m := 1) (k := 1) (h.fit i j hi hj) (h.fit j i hj hi)) (by omega)
  have h2 : Fits 11 (evS n P i) := by
    rw [evS_is h.chn hi]
    exact fits_up (m := 1 + (n * (1 + 1) + 1) + 1) (fits_add (m := 1) (k := n * (1 + 1) + 1) fits_one (fits_sumR (c := 1) fun k hk => h.fit k i hk hi)) (by omega)
  exact fits_up (m := 3 + 11) (fits_divq h1 h2 (by grind)) (by omega)
theorem ev_chk {n : Nat} {P : Nat → Nat → Rat} (h : ChM n P) (h4 : n ≤ 4) : ChK 14 n (evQ n P) := by
  have hc := ev_chn h.chn
  refine ⟨h.one, h.five, hc, fun i j hi hj => ev_fits h h4 hi hj, ⟨mR_length n _, fun i hi => by rw [mR_get, lF_length], fun i hi => ?_, fun i hi => ?_⟩, by decide, Nat.le_trans (bE_mono 16 h4) (by decide)⟩
  · have hi' : i < n := by rw [mR_length] at hi; exact hi
    rw [mR_get]
    have h9 := fw_few (c := 28) (l := lF n (evQ n P i)) fun f hf => by
      obtain ⟨j, hj, rfl⟩ := List.mem_map.1 hf
      show (nu _).size + (de _).size ≤ 28
      rw [own_size]
      exact fits_qw (ev_fits h h4 hi' (List.mem_range.1 hj))
    rw [lF_length] at h9
    omega
  · have hi' : i < n := by rw [mR_length] at hi; exact hi
    rw [mR_get]
    exact row_of (fun j hj => hc.low i j hi' hj) (hc.one i hi')
end Go.Proofs.YtbejijgelljeaaaGreatDoor

/- moved and Step of package chain, for longer numbers. -/
namespace Go.Proofs.YtbejijgelljeaaaGreatDoor
open Go.RowKit Go.Shelf
/-- Numbers, each as long as may be, stand for these. -/
structure LsW (n : Nat) (f : Nat → Rat) (l : List Fr) : Prop where
  len : l.length = n
  is : ∀ i (h : i < l.length), frQ l[i] = f i
  size : ∀ i (h : i < l.length), l[i].2.1.size + l[i].2.2.size ≤ 20000
theorem LsW.mk' {n : Nat} {f : Nat → Rat} (h : ∀ i, i < n → qw (f i) ≤ 20000) : LsW n f (lF n f) := by
  refine ⟨lF_length n f, fun i hi => by rw [lF_get]; exact frQ_qF _, fun i hi => ?_⟩
  rw [lF_get]
  show (nu (f i)).size + (de (f i)).size ≤ 20000
  rw [own_size]
  exact h i (by rw [lF_length] at hi; exact hi)
theorem fsum_is {f : Nat → Rat} : ∀ (l : List Fr) (n : Nat), l.length = n → (∀ i (h : i < l.length), frQ l[i] = f i) → fsum l = sumR f n := fun l => by
  induction l using snoc_ind with
  | h0 => intro n hn _; subst hn; rfl
  | h1 l x ih =>
    intro n hn hi
    obtain rfl : n = l.length + 1 := by rw [← hn]; simp
    rw [fsum_snoc, sumR, ih l.length rfl fun i h => ?_]
    · congr 1
      have := hi l.length (by simp)
      rw [List.getElem_append_right (Nat.le_refl _)] at this
      exact (show frQ x = f l.length by simpa using this)
    · have := hi i (by simp; omega)
      rw [List.getElem_append_left h] at this
      exact this
theorem LsW.fsumk {n k : Nat} {f : Nat → Rat} {l : List Fr} (h : LsW n f l) (hk : k ≤ n) : Go.Proofs.YtbejijgelljeaaaGreatDoor.fsum (l.take k) = sumR f k := by
  refine fsum_is _ k (by rw [List.length_take, h.len]; omega) fun i hi => ?_
  rw [List.getElem_take]
  exact h.is i (by rw [List.length_take] at hi; omega)
end Go.Proofs.YtbejijgelljeaaaGreatDoor

/- The document's answer Sum, for longer numbers. -/
namespace Go.Proofs.YtbejijgelljeaaaGreatDoor
open Go.RowKit Go.Shelf
set_option maxRecDepth 100000 in
set_option maxHeartbeats 2000000 in
theorem rSum_long (a : Option Addr) (cap : Nat) (l : List Fr) (w : World) (h : FrS w a l) (hl : ∀ k (h : k < l.length), l[k].2.1.size + l[k].2.2.size ≤ 40000) (hq : ∀ k, k ≤ l.length → qw (fsum (l.take k)) ≤ 40000) (hn : l.length ≤ 10000) :
    Calls Tryz.prog 22 #[.slice a l.length cap] w fun e w' => e = .returned (C (fsum l)) ∧ Below w.heap.size w w' := by
  have HF := hide h
  clear h
  have HFIN : Hid (fsum (l.take l.length) = fsum l) := by show _ = _; rw [List.take_length]
  have HO := hide (fun V => rOfF_any 0 V (by omega) (by omega))
  rw [Rat.zero_mkRat] at HO
  go_enter Tryz.func22, Tryz.ntmps22
  have hbr := Box.at (w := w) rfl false ⟨#[]⟩ ⟨#[]⟩
  have hB0 : Below w.heap.size w (w.alloc (FC false ⟨#[]⟩ ⟨#[]⟩)) := (Below.refl _ w).alloc (Nat.le_refl _) _
  go_wp2_with fail
  refine (HO.out _).mono ?_
  rintro e w1 ⟨rfl, hb1⟩
  have hr1 := hbr.below hb1 hbr.lt
  have hB1 : Below w.heap.size w w1 := hB0.trans (hb1.mono hB0.size)
  clear hbr hB0 hb1
  rw [C_eq]
  go_wp2_with fail
  have hlt1 := hr1.lt
  go_loopw [4] (fun iv wr => ∃ k : Nat, k ≤ l.length ∧ iv = .int .i64 k ∧ Hid (Box wr w1.heap.size (sgn (fsum (l.take k))) (nu (fsum (l.take k))) (de (fsum (l.take k)))) ∧ Hid (Box wr w.heap.size false ⟨#[]⟩ ⟨#[]⟩) ∧ Below w.heap.size w wr) (fun iv _ => l.length - (intOf iv).toNat)
  case atStart => exact ⟨0, Nat.zero_le _, rfl, Box.at rfl _ _ _, hr1.alloc _, hB1.alloc hB1.size _⟩
  case round =>
    obtain ⟨k, hk, rfl, HS, HR, hBr⟩ := hrel
    by_cases hlt : k < l.length
    · obtain ⟨g, o, rfl, hg, c0, c1, c2⟩ := (HF.out.below hBr) k hlt
      have hstep := take_one hlt
      have hmem := hl k hlt
      have hfit := hq k hk
      have hz := own_size (fsum (l.take k))
      have HADD := hide (fun V => rAddF_any (sgn (fsum (l.take k))) l[k].1 (nu (fsum (l.take k))) (de (fsum (l.take k))) l[k].2.1 l[k].2.2 V (by omega) (by omega))
      rw [val_own, show val l[k].1 l[k].2.1 l[k].2.2 = frv l[k] from rfl, ← hstep] at HADD
      have hbq := HS.out
      clear HS hstep hmem hfit hz
      generalize l[k].1 = fn at *
      generalize l[k].2.1 = fx at *
      generalize l[k].2.2 = fy at *
      obtain ⟨k0, k1, k2, f0, f1, f2⟩ := hbq.facts
      have hgl := hbq.lt
      go_upto_region 5 with fail
      go_region_with (
          (go_at_call 13; refine (HADD.out _).mono ?_; rintro e w2 ⟨rfl, hb2⟩; have hs2 := hbq.drew.below hb2 hbq.lt; have hr2 := (Box.drew HR.out).below hb2 HR.out.lt; have hB2 := hBr.drew.trans (hb2.mono hBr.size); obtain ⟨k0, k1, k2, f0, f1, f2⟩ := hs2.facts; rw [C_eq]))
      all_goals
        go_wp2
        go_roundw
        case rel => exact ⟨k + 1, by omega, by go_num, hs2.put _ _ _, hr2.far3 (by omega) _ _ _, below_put hB2 hB1.size _ _ _⟩
        case measure => simp [intOf]; omega
    · obtain rfl : k = l.length := by omega
      have hbq := HS.out
      rw [HFIN.out] at hbq
      obtain ⟨k0, k1, k2, f0, f1, f2⟩ := hbq.facts
      obtain ⟨j0, j1, j2, i0, i1, i2⟩ := HR.out.facts
      go_wp2
      refine bodyPost_ret ((HR.out.put _ _ _).result rfl _ rfl) rfl ?_
      exact ⟨rfl, below_put hBr (Nat.le_refl _) _ _ _⟩
end Go.Proofs.YtbejijgelljeaaaGreatDoor
