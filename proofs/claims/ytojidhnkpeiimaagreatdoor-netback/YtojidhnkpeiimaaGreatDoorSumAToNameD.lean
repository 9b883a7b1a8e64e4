/- Sums of whole lists of fractions: package frac's and the document's answer. -/
import Derived.Test.YtojidhnkpeiimaaGreatDoorFracAToRefS
import Derived.BigQuiet
import Derived.Test.YtojidhnkpeiimaaGreatDoorTabR1ToSetA
import Derived.Test.YtojidhnkpeiimaaGreatDoorDivBToRefC
import Derived.Laws.EntriesVeiled
import Derived.Test.YtojidhnkpeiimaaGreatDoorNumDToReckC
namespace Go.Proofs.YtojidhnkpeiimaaGreatDoor
open Go.RowKit
def Fits (m : Nat) (q : Rat) : Prop := ∃ (A : Int) (D : Nat), D ≠ 0 ∧ q = mkRat A D ∧ D < 256 ^ m ∧ A.natAbs < 256 ^ m
theorem fits_qw {m : Nat} {q : Rat} (h : Fits m q) : qw q ≤ 2 * m := by
  obtain ⟨A, D, hD, rfl, h1, h2⟩ := h
  rw [mk_norm hD]
  have := qw_norm (n := A) hD
  have a1 : (B A.natAbs).size ≤ m := by rw [B_size]; exact bn_fits m _ h2
  have a2 : (B D).size ≤ m := by rw [B_size]; exact bn_fits m _ h1
  omega
theorem pow_mono {m n : Nat} (h : m ≤ n) : 256 ^ m ≤ 256 ^ n := Nat.pow_le_pow_right (by decide) h
theorem fits_val (n : Bool) (x y : ByteArray) : Fits (x.size + y.size + 1) (val n x y) := by
  by_cases h : N y = 0
  · refine ⟨0, 1, by decide, by rw [val_den0 h, Rat.zero_mkRat], ?_, ?_⟩
    · exact Nat.lt_of_lt_of_le (by decide : 1 < 256 ^ 1) (pow_mono (by omega))
    · exact Nat.pow_pos (by decide)
  · refine ⟨sg n (N x), N y, h, rfl, Nat.lt_of_lt_of_le (N_lt y) (pow_mono (by omega)), ?_⟩
    rw [sg_natAbs]
    exact Nat.lt_of_lt_of_le (N_lt x) (pow_mono (by omega))
theorem fits_add {m k : Nat} {p q : Rat} (hp : Fits m p) (hq : Fits k q) : Fits (m + k + 1) (p + q) := by
  obtain ⟨A, D, hD, rfl, h1, h2⟩ := hp
  obtain ⟨A', D', hD', rfl, h3, h4⟩ := hq
  refine ⟨A * D' + A' * D, D * D', Nat.mul_ne_zero hD hD', Rat.mkRat_add_mkRat _ _ hD hD', ?_, ?_⟩
  · have : D * D' < 256 ^ m * 256 ^ k := Nat.mul_lt_mul'' h1 h3
    rw [← Nat.pow_add] at this
    exact Nat.lt_of_lt_of_le this (pow_mono (by omega))
  · have e1 : A.natAbs * D' < 256 ^ m * 256 ^ k := Nat.mul_lt_mul'' h2 h3
    have e2 : A'.natAbs * D < 256 ^ k * 256 ^ m := Nat.mul_lt_mul'' h4 h1
    rw [Nat.mul_comm (256 ^ k)] at e2
    rw [← Nat.pow_add] at e1 e2
    have e3 : (A * D' + A' * D).natAbs ≤ A.natAbs * D' + A'.natAbs * D := by
      refine Nat.le_trans (Int.natAbs_add_le _ _) ?_
      rw [Int.natAbs_mul, Int.natAbs_mul]
      exact Nat.le_refl _
    rw [Nat.pow_succ]
    omega
abbrev Fr : Type := Bool × ByteArray × ByteArray
def frv (f : Fr) : Rat := val f.1 f.2.1 f.2.2
def fw : List Fr → Nat
  | [] => 0
  | f :: l => f.2.1.size + f.2.2.size + 2 + fw l
def fsum (l : List Fr) : Rat := l.foldl (fun s f => s + frv f) 0
theorem fsum_snoc (l : List Fr) (f : Fr) : fsum (l ++ [f]) = fsum l + frv f := by simp [fsum]
theorem fw_append (a b : List Fr) : fw (a ++ b) = fw a + fw b := by
  induction a with
  | nil => simp [fw]
  | cons f a ih => simp only [List.cons_append, fw, ih]; omega
theorem fw_take (l : List Fr) (k : Nat) : fw (l.take k) ≤ fw l := by
  have := fw_append (l.take k) (l.drop k)
  rw [List.take_append_drop] at this
  omega
theorem fw_mem {l : List Fr} {f : Fr} (h : f ∈ l) : f.2.1.size + f.2.2.size + 2 ≤ fw l := by
  induction l with
  | nil => cases h
  | cons g l ih =>
    rcases List.mem_cons.1 h with rfl | h
    · simp only [fw]; omega
    · have := ih h; simp only [fw]; omega
theorem fits_sum (l : List Fr) : Fits (fw l + 1) (fsum l) := by
  induction l using snoc_ind with
  | h0 => exact ⟨0, 1, by decide, (Rat.zero_mkRat _).symm, by decide, by decide⟩
  | h1 l f ih =>
    rw [fsum_snoc, fw_append]
    have := fits_add ih (fits_val f.1 f.2.1 f.2.2)
    have e : fw l + 1 + (f.2.1.size + f.2.2.size + 1) + 1 = fw l + fw [f] + 1 := by simp only [fw]; omega
    rwa [e] at this
theorem take_one {l : List Fr} {k : Nat} (h : k < l.length) : fsum (l.take (k + 1)) = fsum (l.take k) + frv l[k] := by
  rw [List.take_succ_eq_append_getElem h, fsum_snoc]
def FrS (w : World) (a : Option Addr) (l : List Fr) : Prop := ∀ k (h : k < l.length), ∃ g o, a = some ⟨g, o, none⟩ ∧ g < w.heap.size ∧ w.cell? ⟨g, o + k * 3, none⟩ = some (.bool l[k].1) ∧ w.cell? ⟨g, o + k * 3 + 1, none⟩ = some (.string l[k].2.1) ∧ w.cell? ⟨g, o + k * 3 + 2, none⟩ = some (.string l[k].2.2)
theorem FrS.below {w w' : World} {a : Option Addr} {l : List Fr} (h : FrS w a l) (hb : Below w.heap.size w w') : FrS w' a l := fun k hk => by
  obtain ⟨g, o, h1, h2, h3, h4, h5⟩ := h k hk
  exact ⟨g, o, h1, Nat.lt_of_lt_of_le h2 hb.size, (hb.cell (p := ⟨g, _, none⟩) h2).trans h3, (hb.cell (p := ⟨g, _, none⟩) h2).trans h4, (hb.cell (p := ⟨g, _, none⟩) h2).trans h5⟩
set_option maxRecDepth 100000 in
set_option maxHeartbeats 1000000 in
theorem fSum_cw (a : Option Addr) (cap : Nat) (l : List Fr) (w : World) (h : FrS w a l) (hl : ∀ k (h : k < l.length), l[k].2.1.size + l[k].2.2.size ≤ 40000) (hq : ∀ k, k ≤ l.length → qw (fsum (l.take k)) ≤ 40000) (hn : l.length ≤ 10000) :
    Calls Tryz.prog 74 #[.slice a l.length cap] w fun e w' => e = .returned (C (fsum l)) ∧ Below w.heap.size w w' := by
  have HF := hide h
  have HL := hide hl
  have HQ := hide hq
  clear h hl hq
  have HFIN : Hid (fsum (l.take l.length) = fsum l) := by show _ = _; rw [List.take_length]
  go_enter Tryz.func74, Tryz.ntmps74
  have hbr := Box.at (w := w) rfl false ⟨#[]⟩ ⟨#[]⟩
  have hB0 : Below w.heap.size w (w.alloc (FC false ⟨#[]⟩ ⟨#[]⟩)) := (Below.refl _ w).alloc (Nat.le_refl _) _
  go_wp2_with fail
  refine (nought_any _).mono ?_
  rintro e w1 ⟨rfl, hb1⟩
  have hr1 := hbr.below hb1 hbr.lt
  have hB1 : Below w.heap.size w w1 := hB0.trans (hb1.mono hB0.size)
  clear hbr hB0 hb1
  rw [C_eq]
  go_wp2_with fail
  have hlt1 := hr1.lt
  go_loopw [9] (fun iv wr => ∃ k : Nat, k ≤ l.length ∧ iv = .int .i64 k ∧ Hid (Box wr w1.heap.size (sgn (fsum (l.take k))) (nu (fsum (l.take k))) (de (fsum (l.take k)))) ∧ Hid (Box wr w.heap.size false ⟨#[]⟩ ⟨#[]⟩) ∧ Below w.heap.size w wr) (fun iv _ => l.length - (intOf iv).toNat)
  case atStart => exact ⟨0, Nat.zero_le _, rfl, Box.at rfl _ _ _, hr1.alloc _, hB1.alloc hB1.size _⟩
  case round =>
    obtain ⟨k, hk, rfl, HS, HR, hBr⟩ := hrel
    by_cases hlt : k < l.length
    · obtain ⟨g, o, rfl, hg, c0, c1, c2⟩ := (HF.out.below hBr) k hlt
      have hstep := take_one hlt
      have hmem := HL.out k hlt
      have hfit := HQ.out k hk
      have hz := own_size (fsum (l.take k))
      have HADD := hide (fun V => fAdd_any (sgn (fsum (l.take k))) l[k].1 (nu (fsum (l.take k))) (de (fsum (l.take k))) l[k].2.1 l[k].2.2 V (by omega) (by omega) (by omega) (by omega))
      rw [val_own, show val l[k].1 l[k].2.1 l[k].2.2 = frv l[k] from rfl, ← hstep] at HADD
      have hbq := HS.out
      clear HS hstep hmem hfit hz
      generalize l[k].1 = fn at *
      generalize l[k].2.1 = fx at *
      generalize l[k].2.2 = fy at *
      obtain ⟨k0, k1, k2, f0, f1, f2⟩ := hbq.facts
      have hgl := hbq.lt
      go_wp2_with fail
      refine (HADD.out _).mono ?_
      rintro e w2 ⟨rfl, hb2⟩
      have hs2 := (hbq.alloc (FC fn fx fy)).below hb2 (hbq.alloc (FC fn fx fy)).lt
      have hr2 := (HR.out.alloc (FC fn fx fy)).below hb2 (HR.out.alloc (FC fn fx fy)).lt
      have hB2' := hBr.alloc hBr.size (FC fn fx fy)
      have hB2 : Below w.heap.size w w2 := hB2'.trans (hb2.mono hB2'.size)
      clear k0 k1 k2 f0 f1 f2 c0 c1 c2
      obtain ⟨k0, k1, k2, f0, f1, f2⟩ := hs2.facts
      rw [C_eq]
      go_wp2
      go_roundw
      case rel => exact ⟨k + 1, by omega, by go_num, hs2.put _ _ _, hr2.far3 (by omega) _ _ _, below_put hB2 hB1.size _ _ _⟩
      case measure => simp [intOf]; omega
    · obtain rfl : k = l.length := by omega
      have hbq := HS.out
      rw [HFIN.out] at hbq
      obtain ⟨k0, k1, k2, f0, f1, f2⟩ := hbq.facts
      obtain ⟨j0, j1, j2, i0, i1, i2⟩ := HR.out.facts
      go_wp2
      refine bodyPost_ret ((HR.out.put _ _ _).result rfl _ rfl) rfl ?_
      exact ⟨rfl, below_put hBr (Nat.le_refl _) _ _ _⟩
theorem fSum_any (a : Option Addr) (cap : Nat) (l : List Fr) (w : World) (h : FrS w a l) (hl : fw l ≤ 10000) (hn : l.length ≤ 10000) :
    Calls Tryz.prog 74 #[.slice a l.length cap] w fun e w' => e = .returned (C (fsum l)) ∧ Below w.heap.size w w' :=
  fSum_cw a cap l w h (fun k hk => by have := fw_mem (List.getElem_mem hk); omega) (fun k _ => by have := fits_qw (fits_sum (l.take k)); have := fw_take l k; omega) hn
end Go.Proofs.YtojidhnkpeiimaaGreatDoor

/- Package table: the place of an assignment; whether a table may be, in both. -/
namespace Go.Proofs.YtojidhnkpeiimaaGreatDoor
open Go.RowKit
set_option maxRecDepth 100000 in
set_option maxHeartbeats 1000000 in
theorem tIndex_any (a b c : Option Addr) (ca cb cc : Nat) (sizes vars l : List Int) (w : World) (hs : IntS w a sizes) (hv : IntS w b vars) (hl : IntS w c l) (hn : sizes.length ≤ 140737488355328) (hm : vars.length ≤ 140737488355328) (hk : l.length ≤ 140737488355328) :
    Calls Tryz.prog 164 #[.slice a sizes.length ca, .slice b vars.length cb, .slice c l.length cc] w fun e w' => e = .returned (.tuple #[.int .i64 (indexA sizes vars l).1, .int .i64 (indexA sizes vars l).2]) ∧ Below w.heap.size w w' := by
  have HS := hid hs
  have HV := hid hv
  have HL := hid hl
  have HC := hid (fun V h1 h2 => tCount_any a b ca cb sizes vars V h1 h2 hn hm)
  clear hs hv hl
  cases hcb : countB sizes vars with
  | false =>
    have HA := hid (indexA_none (l := l) hcb)
    rw [countA_no hcb] at HC
    simp only at HC
    generalize indexA sizes vars l = r at *
    go_enter Tryz.func164, Tryz.ntmps164
    go_wp2_with fail
    refine (HC.out _ HS.out HV.out).mono ?_
    rintro e w1 ⟨rfl, hb1⟩
    go_wp2
    go_ret2
    exact ⟨by rw [HA.out]; rfl, hb1⟩
  | true =>
    have HN := hid (fun h => indexA_len (l := l) hcb h)
    have HB := hid (fun i h hi h2 => indexA_val (l := l) hcb h (i := i) hi h2)
    have HO := hid (fun h h2 => indexA_ok (l := l) hcb h h2)
    rw [countA_yes hcb] at HC
    simp only at HC
    obtain ⟨hfi, hup⟩ := countB_parts hcb
    have hl8 := hfi.eight
    have hvl := hup.length
    have HFI := hid hfi
    have HUP := hid hup
    clear hcb hfi hup
    generalize indexA sizes vars l = r at *
    generalize cnt (toN sizes) (toN vars) = N0 at *
    go_enter Tryz.func164, Tryz.ntmps164
    go_wp2_with fail
    refine (HC.out _ HS.out HV.out).mono ?_
    rintro e w1 ⟨rfl, hb1⟩
    by_cases hlen : l.length = vars.length
    · have HLEN := hid hlen
      have hlb : ((l.length : Int) == (vars.length : Int)) = true := by simp [hlen]
      have hli : (l.length : Int) = (vars.length : Int) := by omega
      have hln : ¬ ¬ l.length = vars.length := fun h => h hlen
      clear HN
      go_wp2_with fail
      go_loopw [10, 29] (fun kv iv wr => ∃ i : Nat, i ≤ vars.length ∧ iv = .int .i64 i ∧ kv = .int .i64 (idxN (toN sizes) (toN vars) (toN l) i : Nat) ∧ Hid ((List.range i).all (valB (toN sizes) (toN vars) l) = true) ∧ Below w.heap.size w wr) (fun _ iv _ => vars.length - (intOf iv).toNat)
      case atStart => exact ⟨0, Nat.zero_le _, rfl, rfl, rfl, hb1⟩
      case round =>
        obtain ⟨i, hi, rfl, rfl, HI, hB⟩ := hrel
        clear hb1 hlb hli hln
        by_cases hlt : i < vars.length
        · obtain ⟨g, o, rfl, hg, c0⟩ := (HV.out.below hB) i hlt
          obtain ⟨g2, o2, rfl, hg2, c2⟩ := (HL.out.below hB) i (by rw [HLEN.out]; exact hlt)
          obtain ⟨hvi, hvn⟩ := HUP.out.nat hlt
          have hvb : valB (toN sizes) (toN vars) l i = decide (0 ≤ l[i]'(by omega) ∧ l[i]'(by omega) < (sz (toN sizes) vars[i].toNat : Int)) := by
            rw [valB, getD_eq (by omega), getN_eq (by rw [toN_length]; exact hlt), toN_get hlt]
          have hst : idxN (toN sizes) (toN vars) (toN l) (i + 1) = idxN (toN sizes) (toN vars) (toN l) i * sz (toN sizes) vars[i].toNat + (l[i]'(by omega)).toNat := by
            rw [idxN_succ, getN_eq (show i < (toN vars).length by rw [toN_length]; exact hlt), toN_get hlt, getN_eq (show i < (toN l).length by rw [toN_length]; omega), toN_get (by omega)]
          have HBI := hid (fun h2 => HB.out i HLEN.out hlt h2)
          have hbd : valB (toN sizes) (toN vars) l i = true → idxN (toN sizes) (toN vars) (toN l) (i + 1) < 65537 := fun h => by
            have h1 := idxN_lt (i + 1) (by rw [toN_length]; omega) (by omega) (val_succ HI.out h)
            have h2 : cnt (toN sizes) ((toN vars).take (i + 1)) ≤ 65536 := cnt_small HFI.out.sz_le (by rw [List.length_take, toN_length]; omega)
            omega
          have HBD := hid hbd
          have HVS := hid (fun h => val_succ HI.out h (i := i))
          have hxl : i < l.length := by omega
          have HIV := hid (fun V h x => isValue_any a ca sizes vars[i].toNat x V h HFI.out hvn)
          generalize hV : vars[i].toNat = v at *
          rw [← hvi] at c0
          have HSB := hid (HS.out.below hB)
          obtain ⟨g', o', rfl, hg', c1⟩ := HSB.out v hvn
          rw [← HFI.out.sz_eq hvn] at c1
          have HVB := hid hvb
          have HST := hid hst
          clear hst hvi hV hvb hbd
          generalize idxN (toN sizes) (toN vars) (toN l) i = X at *
          generalize sz (toN sizes) v = Y at *
          generalize l[i] = x at *
          go_wp2_with fail
          refine (HIV.out _ HSB.out x).mono ?_
          rintro e w2 ⟨rfl, hb2⟩
          have hB2 := hB.trans (hb2.mono hB.size)
          have c1' := (hb2.cell (p := ⟨g', _, none⟩) hg').trans c1
          have c2' := (hb2.cell (p := ⟨g2, _, none⟩) hg2).trans c2
          clear HIV HSB hb2 c1 c2
          by_cases e0 : 0 ≤ x ∧ x < (Y : Int)
          · rw [decide_eq_true e0]
            have hok : valB (toN sizes) (toN vars) l i = true := by rw [HVB.out]; exact decide_eq_true e0
            have h1 := HBD.out hok
            rw [HST.out] at h1
            have HS2 := hid (HVS.out hok)
            have hpi : ((X : Nat) : Int) * ((Y : Nat) : Int) = ((X * Y : Nat) : Int) := (Int.natCast_mul _ _).symm
            have hp0 : 0 ≤ (X : Int) * (Y : Int) := by rw [hpi]; omega
            have hp1 : (X : Int) * (Y : Int) + x ≤ 65536 := by rw [hpi]; omega
            have HFN : Hid ((X : Int) * (Y : Int) + x = ((X * Y + x.toNat : Nat) : Int)) := by show _ = _; rw [hpi]; omega
            obtain ⟨e1, e2⟩ := e0
            clear hpi h1 hok HBD HBI HB
            go_wp2_with fail
            go_quiet (fail)
            go_wp2
            go_roundw
            case rel => exact ⟨i + 1, by omega, by go_num, by rw [HST.out, ← HFN.out], HS2.out, below_dn hB2 _⟩
            case measure => simp [intOf]; omega
          · rw [decide_eq_false e0]
            have HE := hid (HBI.out (by rw [HVB.out]; exact decide_eq_false e0))
            go_wp2
            go_ret2
            exact ⟨by rw [HE.out]; rfl, hB2⟩
        · obtain rfl : i = vars.length := by omega
          have HE := hid (HO.out HLEN.out HI.out)
          go_wp2
          go_ret2
          exact ⟨by rw [HE.out]; rfl, hB⟩
    · have HE := hid (HN.out hlen)
      have hlb : ((l.length : Int) == (vars.length : Int)) = false := by simp; omega
      go_wp2
      go_ret2
      exact ⟨by rw [HE.out]; rfl, hb1⟩
end Go.Proofs.YtojidhnkpeiimaaGreatDoor

/- The document's answer: the assignment of a place. -/
namespace Go.Proofs.YtojidhnkpeiimaaGreatDoor
open Go.RowKit
theorem cnt_drop_dvd (S vs : List Nat) (i : Nat) : cnt S (vs.drop i) ∣ cnt S vs := by
  have h := cnt_append S (vs.take i) (vs.drop i)
  rw [List.take_append_drop] at h
  exact ⟨_, by rw [h, Nat.mul_comm]⟩
theorem digs_get {S : List Nat} (hp : Pos S) : ∀ (vs : List Nat) (k i : Nat) (_ : k < cnt S vs) (h : i < vs.length), (digs S vs k)[i]'(by rw [digs_length]; exact h) = k % cnt S (vs.drop i) / cnt S (vs.drop (i + 1))
  | [], _, _, _, h => absurd h (by simp)
  | v :: vs, k, 0, hk, _ => by
    show k / cnt S vs = k % cnt S (v :: vs) / cnt S vs
    rw [Nat.mod_eq_of_lt hk]
  | v :: vs, k, i + 1, _, h => by
    have h' : i < vs.length := by simpa using h
    have := digs_get hp vs (k % cnt S vs) i (Nat.mod_lt _ (cnt_pos hp vs)) h'
    show (digs S vs (k % cnt S vs))[i]'_ = k % cnt S (vs.drop i) / cnt S (vs.drop (i + 1))
    rw [this, Nat.mod_mod_of_dvd _ (cnt_drop_dvd S vs i)]
theorem cnt_drop (S vs : List Nat) {i : Nat} (h : i < vs.length) : cnt S (vs.drop i) = sz S vs[i] * cnt S (vs.drop (i + 1)) := by
  rw [List.drop_eq_getElem_cons h, cnt]
def partD (l : List Nat) (i : Nat) : List Nat := l.take i ++ List.replicate (l.length - i) 0
theorem partD_zero (l : List Nat) : partD l 0 = List.replicate l.length 0 := by simp [partD]
theorem partD_length (l : List Nat) {i : Nat} (h : i ≤ l.length) : (partD l i).length = l.length := by simp [partD]; omega
theorem partD_all (l : List Nat) : partD l l.length = l := by simp [partD]
theorem partD_set (l : List Nat) {i : Nat} (h : i < l.length) : (partD l i).set i l[i] = partD l (i + 1) := by
  rw [partD, partD, List.set_append_right _ _ (by simp; omega), List.take_succ_eq_append_getElem h]
  have e : l.length - i = (l.length - (i + 1)) + 1 := by omega
  rw [e, List.replicate_succ, List.length_take, Nat.min_eq_left (by omega), Nat.sub_self, List.set_cons_zero, List.append_assoc]
  rfl
def iL (l : List Nat) : List Int := l.map fun x : Nat => (x : Int)
theorem iL_length (l : List Nat) : (iL l).length = l.length := by simp [iL]
theorem toN_iL (l : List Nat) : toN (iL l) = l := by simp [toN, iL, Function.comp_def]
theorem RowI.ints {w : World} {g : Nat} {l : List Nat} (h : RowI w g l) : IntS w (some ⟨g, 0, none⟩) (iL l) := fun k hk => by
  rw [iL_length] at hk
  refine ⟨g, 0, rfl, h.lt, ?_⟩
  rw [Nat.zero_add, h.cell k hk]
  simp [iL]
end Go.Proofs.YtojidhnkpeiimaaGreatDoor

/- Package graph: lists of lists, and their sets. -/
namespace Go.Proofs.YtojidhnkpeiimaaGreatDoor
open Go.RowKit
def LsS (w : World) (a : Option Addr) (L : List (List Int)) : Prop := ∀ k (h : k < L.length), ∃ g o b c, a = some ⟨g, o, none⟩ ∧ g < w.heap.size ∧ w.cell? ⟨g, o + k, none⟩ = some (.slice b L[k].length c) ∧ IntS w b L[k]
theorem LsS.below {w w' : World} {a : Option Addr} {L : List (List Int)} (h : LsS w a L) (hb : Below w.heap.size w w') : LsS w' a L := fun k hk => by
  obtain ⟨g, o, b, c, h1, h2, h3, h4⟩ := h k hk
  exact ⟨g, o, b, c, h1, Nat.lt_of_lt_of_le h2 hb.size, (hb.cell (p := ⟨g, o + k, none⟩) h2).trans h3, h4.below hb⟩
def LsN (w : World) (a : Option Addr) (L : List (List Int)) : Prop := ∀ k, k < L.length → ∀ g o b n c, a = some ⟨g, o, none⟩ → w.cell? ⟨g, o + k, none⟩ = some (.slice b n c) → b = none → c = 0
abbrev uv (x : Nat) : Value := .int .u32 (x : Int)
def RowU (w : World) (g : Nat) (l : List Nat) : Prop := w.heap[g]? = some (.cells (l.map uv).toArray 136 (0, 0))
theorem RowU.cell {w : World} {g : Nat} {l : List Nat} (h : RowU w g l) (j : Nat) (hj : j < l.length) : w.cell? ⟨g, j, none⟩ = some (.int .u32 (l[j] : Nat)) := by
  rw [cell_of_row w g j _ _ (0, 0) h]
  simp [uv, hj]
theorem RowU.fz {w : World} {g : Nat} {l : List Nat} (h : RowU w g l) (j : Nat) : w.frozen? ⟨g, j, none⟩ = false := frozen_of_row w g j _ _ h
theorem RowU.lt {w : World} {g : Nat} {l : List Nat} (h : RowU w g l) : g < w.heap.size := (Array.getElem?_eq_some_iff.1 h).1
theorem RowU.below {w w' : World} {g b : Nat} {l : List Nat} (h : RowU w g l) (hb : Below b w w') (hg : g < b) : RowU w' g l := (hb.block g hg).trans h
theorem RowU.set {w : World} {g : Nat} {l : List Nat} (h : RowU w g l) (j y : Nat) : RowU (w.setCell ⟨g, j, none⟩ (.int .u32 (y : Int))) g (l.set j y) := by
  have h2 := heap_setCell_same w g j _ _ (.int .u32 (y : Int)) h
  rw [RowU, h2]
  simp [List.map_set, uv]
theorem made_sets (n : Nat) : (madeCells (Value.int .u32 0).cells (n * 1)).toList = (List.replicate n (0 : Nat)).map uv := by
  rw [show (Value.int .u32 0).cells = #[Value.int .u32 0] from rfl, toList_madeCells_one, Nat.mul_one, List.map_replicate]; rfl
theorem Tryz.infoSet : (Tryz.prog.info? 136).map (fun i => (i.zero, i.size, i.bytes)) = some (some (.int .u32 0), 1, 4) := by kernel_rfl
def allRis (L : List (List Int)) (n : Nat) : Bool := L.all fun l => risB l n
def masks (L : List (List Int)) : List Nat := L.map fun l => mskN (toN l)
theorem masks_length (L : List (List Int)) : (masks L).length = L.length := by simp [masks]
theorem allRis_bad {L : List (List Int)} {n i : Nat} (h : i < L.length) (e : risB L[i] n = false) : allRis L n = false := by
  rw [allRis, List.all_eq_false]; exact ⟨L[i], List.getElem_mem h, by rw [e]; decide⟩
theorem setA_yes {l : List Int} {n : Nat} (h : risB l n = true) : setA l n = mskN (toN l) := if_pos h
set_option maxRecDepth 100000 in
set_option maxHeartbeats 1000000 in
theorem setsOf_any (a : Option Addr) (ca n : Nat) (L : List (List Int)) (w : World) (h : LsS w a L) (hL : L.length ≤ 8) (hn : n ≤ 8) (hl : ∀ l ∈ L, l.length ≤ 140737488355328) :
    Calls Tryz.prog 98 #[.slice a L.length ca, .int .i64 (n : Nat)] w fun e w' => Below w.heap.size w w' ∧
      ((allRis L n = true ∧ ∃ G, e = .returned (.tuple #[.slice (some ⟨G, 0, none⟩) L.length L.length, .bool true]) ∧ w.heap.size ≤ G ∧ RowU w' G (masks L)) ∨ (allRis L n = false ∧ e = .returned (.tuple #[.slice none 0 0, .bool false]))) := by
  obtain ⟨i0, hi0, hz0, hz1, hz2⟩ := info_parts Tryz.infoSet
  have HF := hid h
  have HB := hid (fun i h e => allRis_bad (L := L) (n := n) (i := i) h e)
  have HT : Hid ((∀ i (h : i < L.length), risB L[i] n = true) → allRis L n = true) := fun h => List.all_eq_true.2 fun l hl => by
    obtain ⟨i, hi, rfl⟩ := List.getElem_of_mem hl
    exact h i hi
  have HM : Hid (∀ i (h : i < L.length), (masks L)[i]? = some (mskN (toN L[i]))) := fun i h => by simp [masks, h]
  have HSZ := hid hl
  have hml := masks_length L
  generalize allRis L n = rb at *
  generalize masks L = ms at *
  clear h hl
  go_enter Tryz.func98, Tryz.ntmps98
  go_wp2_with (first
    | (at_make; refine wpList_make_full _ rfl _ _ 85 rfl w.heap.size 136 i0 (.int .u32 0) 1 Tryz.underlying85 hi0 hz0 hz1 .i64 .i64 _ _ L.length rfl rfl (by go_num) (by go_num) (by rw [hz2]; omega) (by unfold maxLen; omega) (Nat.le_refl _) ?_; intro w2 hown2 hgrow2))
  have hb2 := block_of_own hown2
  rw [made_sets] at hb2
  have HB2 : Hid (Below w.heap.size w w2) := (Below.refl _ w).grown hgrow2 (Nat.le_refl _) (fun k e => by cases e)
  have HI : Hid (RowU w2 w.heap.size (List.replicate L.length 0)) := hb2
  clear hown2 hgrow2 hb2
  go_wp2_with fail
  go_loopw [15] (fun iv wr => ∃ i : Nat, i ≤ L.length ∧ iv = .int .i64 i ∧ Hid (∀ j (h : j < L.length), j < i → risB L[j] n = true) ∧ Hid (RowU wr w.heap.size (partD ms i)) ∧ Hid (Below w.heap.size w wr)) (fun iv _ => L.length - (intOf iv).toNat)
  case atStart => exact ⟨0, Nat.zero_le _, rfl, fun j _ h => absurd h (by omega), by rw [partD_zero, hml]; exact HI, HB2⟩
  case round =>
    obtain ⟨i, hi, rfl, HR, HU, HBW⟩ := hrel
    clear HI HB2
    by_cases hlt : i < L.length
    · obtain ⟨g, o, b, c, rfl, hg, c0, hI⟩ := (HF.out.below HBW.out) i hlt
      have hll := HSZ.out L[i] (List.getElem_mem hlt)
      have HII := hid hI
      clear hI
      have HBi := hid (HB.out i hlt)
      have HMi := hid (HM.out i hlt)
      have HRi : Hid (risB L[i] n = true → ∀ j (h : j < L.length), j < i + 1 → risB L[j] n = true) := fun h j hj hji => by
        rcases Nat.lt_or_ge j i with h2 | h2
        · exact HR.out j hj h2
        · obtain rfl : j = i := by omega
          exact h
      have HSA : Hid (risB L[i] n = true → setA L[i] n = mskN (toN L[i])) := setA_yes
      generalize L[i] = l at *
      go_wp2_with fail
      refine (setOf_any b c l n _ HII.out hll hn).mono ?_
      rintro e w3 ⟨rfl, rfl⟩
      cases hr : risB l n with
      | false =>
        have HE := hid (HBi.out hr)
        generalize setA l n = s at *
        go_wp2
        go_ret2
        exact ⟨HBW.out, .inr ⟨HE.out, rfl⟩⟩
      | true =>
        rw [HSA.out hr]
        have HPR := hid (HRi.out hr)
        have k0 := HU.out.cell i (by rw [partD_length _ (by omega)]; omega)
        have f0 := HU.out.fz i
        have HSE := hid (HU.out.set i (mskN (toN l)))
        have HPS : Hid ((partD ms i).set i (mskN (toN l)) = partD ms (i + 1)) := by
          show _ = _
          obtain ⟨h1, h2⟩ := List.getElem?_eq_some_iff.1 HMi.out
          rw [← h2]
          exact partD_set ms h1
        rw [HPS.out] at HSE
        have HBS := hid (HBW.out.setCell (p := ⟨w.heap.size, i, none⟩) (Nat.le_refl _) (.int .u32 (mskN (toN l) : Nat)))
        clear hr
        generalize mskN (toN l) = s at *
        generalize (partD ms i)[i]'(by rw [partD_length _ (by omega)]; omega) = z at *
        go_wp2
        go_roundw
        case rel => exact ⟨i + 1, by omega, by go_num, HPR, HSE, HBS⟩
        case measure => simp [intOf]; omega
    · obtain rfl : i = L.length := by omega
      have HE := hid (HT.out fun j hj => HR.out j hj hj)
      have hU := HU.out
      rw [← hml, partD_all] at hU
      have HUU := hid hU
      clear hU
      go_wp2
      go_ret2
      exact ⟨HBW.out, .inl ⟨HE.out, _, rfl, Nat.le_refl _, HUU.out⟩⟩
end Go.Proofs.YtojidhnkpeiimaaGreatDoor

/- Package graph: readOthers. -/
namespace Go.Proofs.YtojidhnkpeiimaaGreatDoor
open Go.RowKit
def noSelf (L : List (List Int)) : Bool := (List.range L.length).all fun v => !decide (v ∈ toN (L.getD v []))
def gB (L : List (List Int)) : Bool := decide (1 ≤ L.length ∧ L.length ≤ 8) && allRis L L.length && noSelf L
set_option maxRecDepth 100000 in
set_option maxHeartbeats 400000 in
theorem mayCount_any (n : Nat) (w : World) :
    Calls Tryz.prog 97 #[.int .i64 (n : Nat)] w fun e w' => e = .returned (.bool (decide (1 ≤ n ∧ n ≤ 8))) ∧ w' = w := by
  by_cases h1 : 1 ≤ n
  · by_cases h2 : n ≤ 8
    · rw [decide_eq_true (p := 1 ≤ n ∧ n ≤ 8) ⟨h1, h2⟩]
      have e1 : (1 : Int) ≤ (n : Int) := by omega
      have e2 : (n : Int) ≤ 8 := by omega
      go_enter Tryz.func97, Tryz.ntmps97
      go_wp2
      go_ret
      exact ⟨rfl, rfl⟩
    · rw [decide_eq_false (p := 1 ≤ n ∧ n ≤ 8) (fun h => h2 h.2)]
      have e1 : (1 : Int) ≤ (n : Int) := by omega
      have HE : Hid (decide ((n : Int) ≤ 8) = false) := decide_eq_false (by omega)
      clear h2
      go_enter Tryz.func97, Tryz.ntmps97
      go_wp2
      go_ret
      exact ⟨by rw [HE.out]; rfl, rfl⟩
  · rw [decide_eq_false (p := 1 ≤ n ∧ n ≤ 8) (fun h => h1 h.1)]
    obtain rfl : n = 0 := by omega
    clear h1
    go_enter Tryz.func97, Tryz.ntmps97
    go_wp2
    go_ret
    exact ⟨rfl, rfl⟩
theorem ris_all {l : List Int} {n : Nat} (hn : n ≤ 8) (h : risB l n = true) : ∀ u ∈ toN l, u < 8 := by
  have := ris_small (l := l) (n := n) (i := l.length) hn h (Nat.le_refl _)
  rwa [List.take_length] at this
theorem allRis_at {L : List (List Int)} {n i : Nat} (h : allRis L n = true) (hi : i < L.length) : risB L[i] n = true := List.all_eq_true.1 h _ (List.getElem_mem hi)
theorem noSelf_bad {L : List (List Int)} {i : Nat} (h : i < L.length) (e : i ∈ toN L[i]) : noSelf L = false := by
  rw [noSelf, List.all_eq_false]
  refine ⟨i, List.mem_range.2 h, ?_⟩
  rw [List.getD_eq_getElem?_getD, List.getElem?_eq_getElem h]
  simpa using e
theorem noSelf_good {L : List (List Int)} (h : ∀ i (hi : i < L.length), ¬ i ∈ toN L[i]) : noSelf L = true := by
  rw [noSelf, List.all_eq_true]
  intro i hi
  have hi' := List.mem_range.1 hi
  rw [List.getD_eq_getElem?_getD, List.getElem?_eq_getElem hi']
  simpa using h i hi'
set_option maxRecDepth 100000 in
set_option maxHeartbeats 1000000 in
theorem readOthers_any (a : Option Addr) (ca : Nat) (L : List (List Int)) (w : World) (h : LsS w a L) (hl : ∀ l ∈ L, l.length ≤ 140737488355328) :
    Calls Tryz.prog 64 #[.slice a L.length ca] w fun e w' => Below w.heap.size w w' ∧
      ((gB L = true ∧ ∃ G, e = .returned (.tuple #[.slice (some ⟨G, 0, none⟩) L.length L.length, .bool true]) ∧ w.heap.size ≤ G ∧ RowU w' G (masks L)) ∨ (gB L = false ∧ ∃ v, e = .returned (.tuple #[v, .bool false]))) := by
  have HF := hid h
  have HL := hid hl
  have HG : Hid (gB L = (decide (1 ≤ L.length ∧ L.length ≤ 8) && allRis L L.length && noSelf L)) := rfl
  generalize gB L = gb at *
  clear h hl
  cases hm : decide (1 ≤ L.length ∧ L.length ≤ 8) with
  | false =>
    have HC := hid (fun V : World => mayCount_any L.length V)
    rw [hm] at HG HC
    have HGF : Hid (gb = false) := by show _ = _; rw [HG.out]; rfl
    clear hm HG
    go_enter Tryz.func64, Tryz.ntmps64
    go_wp2_with fail
    refine (HC.out _).mono ?_
    rintro e w1 ⟨rfl, rfl⟩
    go_wp2
    go_ret2
    exact ⟨Below.refl _ _, .inr ⟨HGF.out, _, rfl⟩⟩
  | true =>
    have HC := hid (fun V : World => mayCount_any L.length V)
    rw [hm] at HG HC
    obtain ⟨h1, h8⟩ := of_decide_eq_true hm
    have HS := hid (fun (V : World) (hV : LsS V a L) => setsOf_any a ca L.length L V hV h8 h8 HL.out)
    have HRA : Hid (allRis L L.length = true → ∀ i (hi : i < L.length), ∀ u ∈ toN L[i], u < 8) := fun h i hi => ris_all h8 (allRis_at h hi)
    have HNB := hid (fun i h e => noSelf_bad (L := L) (i := i) h e)
    have HNG := hid (fun h => noSelf_good (L := L) h)
    have HM : Hid (∀ i (h : i < L.length), (masks L)[i]? = some (mskN (toN L[i]))) := fun i h => by simp [masks, h]
    clear hm
    generalize allRis L L.length = ra at *
    generalize noSelf L = rn at *
    generalize masks L = ms at *
    go_enter Tryz.func64, Tryz.ntmps64
    go_wp2_with fail
    refine (HC.out _).mono ?_
    rintro e w1 ⟨rfl, rfl⟩
    go_wp2_with fail
    refine (HS.out _ HF.out).mono ?_
    rintro e w2 ⟨hb, ⟨hra, G, rfl, hG, hU⟩ | ⟨hra, rfl⟩⟩
    · have HU := hid hU
      have HB := hid hb
      have HAT := hid (HRA.out hra)
      have HGB : Hid (gb = rn) := by show _ = _; rw [HG.out, hra]; rfl
      clear hU hb hra HG
      go_wp2_with fail
      go_loopw [21] (fun iv wr => ∃ i : Nat, i ≤ L.length ∧ iv = .int .i64 i ∧ Hid (∀ j (h : j < L.length), j < i → ¬ j ∈ toN L[j]) ∧ wr = w2) (fun iv _ => L.length - (intOf iv).toNat)
      case atStart => exact ⟨0, Nat.zero_le _, rfl, fun j _ h => absurd h (by omega), rfl⟩
      case round =>
        obtain ⟨i, hi, rfl, HR, rfl⟩ := hrel
        by_cases hlt : i < L.length
        · have hmi := HM.out i hlt
          obtain ⟨hm1, hm2⟩ := List.getElem?_eq_some_iff.1 hmi
          have c0 := HU.out.cell i hm1
          rw [hm2] at c0
          have HNi := hid (HNB.out i hlt)
          have HRi : Hid (¬ i ∈ toN L[i] → ∀ j (h : j < L.length), j < i + 1 → ¬ j ∈ toN L[j]) := fun h j hj hji => by
            rcases Nat.lt_or_ge j i with h2 | h2
            · exact HR.out j hj h2
            · obtain rfl : j = i := by omega
              exact h
          have HH := hid (fun V : World => sHas_any (toN L[i]) i V (HAT.out i hlt) (by omega))
          clear hmi hm1 hm2
          generalize toN L[i] = l at *
          go_wp2_with fail
          refine (HH.out _).mono ?_
          rintro e w3 ⟨rfl, rfl⟩
          by_cases hin : i ∈ l
          · rw [decide_eq_true hin]
            have HE := hid (HNi.out hin)
            clear hin
            go_wp2
            go_ret2
            exact ⟨HB.out, .inr ⟨by rw [HGB.out]; exact HE.out, _, rfl⟩⟩
          · rw [decide_eq_false hin]
            have HE := hid (HRi.out hin)
            clear hin
            go_wp2
            go_roundw
            case rel => exact ⟨i + 1, by omega, by go_num, HE, trivial⟩
            case measure => simp [intOf]; omega
        · obtain rfl : i = L.length := by omega
          have HE := hid (HNG.out fun j hj => HR.out j hj hj)
          go_wp2
          go_ret2
          exact ⟨HB.out, .inl ⟨by rw [HGB.out]; exact HE.out, G, rfl, hG, HU.out⟩⟩
    · have HGB : Hid (gb = false) := by show _ = _; rw [HG.out, hra]; rfl
      have HB := hid hb
      clear hra hb HG
      go_wp2_with fail
      go_loopw [21] (fun iv wr => iv = .int .i64 0 ∧ wr = w2) (fun _ _ => 0)
      case atStart => exact ⟨rfl, rfl⟩
      case round =>
        obtain ⟨rfl, rfl⟩ := hrel
        go_wp2
        go_ret2
        exact ⟨HB.out, .inr ⟨HGB.out, _, rfl⟩⟩
end Go.Proofs.YtojidhnkpeiimaaGreatDoor

/- Plain: the order of nodes, each behind its parents, the least first. -/
namespace Go.Proofs.YtojidhnkpeiimaaGreatDoor
def freeB (P : List (List Nat)) (out : List Nat) (v : Nat) : Bool := !decide (v ∈ out) && decide (∀ u ∈ P.getD v [], u ∈ out)
def nextV (P : List (List Nat)) (out : List Nat) : Option Nat := (List.range P.length).find? (freeB P out)
def ordN (P : List (List Nat)) : Nat → List Nat
  | 0 => []
  | k + 1 => match nextV P (ordN P k) with
    | some v => ordN P k ++ [v]
    | none => ordN P k
theorem find_range {p : Nat → Bool} : ∀ {n v : Nat}, v < n → p v = true → (∀ u, u < v → p u = false) → (List.range n).find? p = some v := by
  intro n
  induction n with
  | zero => intro v h; omega
  | succ n ih =>
    intro v hv hp hu
    rw [List.range_succ, List.find?_append]
    rcases Nat.lt_or_ge v n with h | h
    · rw [ih h hp hu]; rfl
    · obtain rfl : v = n := by omega
      have : (List.range v).find? p = none := List.find?_eq_none.2 fun u hu' => by rw [hu u (List.mem_range.1 hu')]; decide
      rw [this]
      simp [hp]
theorem next_some {P : List (List Nat)} {out : List Nat} {v : Nat} (hv : v < P.length) (hp : freeB P out v = true) (hu : ∀ u, u < v → freeB P out u = false) : nextV P out = some v := find_range hv hp hu
theorem next_none {P : List (List Nat)} {out : List Nat} (hu : ∀ u, u < P.length → freeB P out u = false) : nextV P out = none := List.find?_eq_none.2 fun u hu' => by rw [hu u (List.mem_range.1 hu')]; decide
theorem ord_some {P : List (List Nat)} {k v : Nat} (h : nextV P (ordN P k) = some v) : ordN P (k + 1) = ordN P k ++ [v] := by rw [ordN, h]
theorem ord_none {P : List (List Nat)} {k : Nat} (h : nextV P (ordN P k) = none) : ∀ j, ordN P (k + j) = ordN P k
  | 0 => rfl
  | j + 1 => by
    have ih := ord_none h j
    show ordN P (k + j + 1) = _
    rw [ordN, ih, h]
theorem ord_stuck {P : List (List Nat)} {k n : Nat} (h : nextV P (ordN P k) = none) (hk : k ≤ n) : ordN P n = ordN P k := by
  have := ord_none h (n - k)
  rwa [show k + (n - k) = n by omega] at this
theorem ord_len (P : List (List Nat)) : ∀ k, (ordN P k).length ≤ k
  | 0 => Nat.le_refl _
  | k + 1 => by
    have := ord_len P k
    rw [ordN]
    cases nextV P (ordN P k) with
    | none => show (ordN P k).length ≤ _; omega
    | some v => show (ordN P k ++ [v]).length ≤ _; rw [List.length_append]; simp; omega
theorem ord_lt (P : List (List Nat)) : ∀ k, ∀ v ∈ ordN P k, v < P.length
  | 0, v, hv => by cases hv
  | k + 1, v, hv => by
    rw [ordN] at hv
    cases e : nextV P (ordN P k) with
    | none => rw [e] at hv; exact ord_lt P k v hv
    | some u =>
      rw [e] at hv
      rcases List.mem_append.1 hv with h | h
      · exact ord_lt P k v h
      · obtain rfl := List.mem_singleton.1 h
        exact List.mem_range.1 (List.mem_of_find?_eq_some e)
def parN (L : List (List Int)) : List (List Nat) := L.map toN
theorem parN_length (L : List (List Int)) : (parN L).length = L.length := by simp [parN]
theorem parN_get {L : List (List Int)} {i : Nat} (h : i < L.length) : (parN L).getD i [] = toN L[i] := by simp [parN, List.getD_eq_getElem?_getD, h]
theorem masks_par (L : List (List Int)) : masks L = (parN L).map mskN := by simp [masks, parN]
theorem iL_append (a b : List Nat) : iL (a ++ b) = iL a ++ iL b := by simp [iL]
def gcE (L : List (List Int)) : Int := if gB L = true then (if (ordN (parN L) L.length).length < L.length then 10 else 0) else 11
end Go.Proofs.YtojidhnkpeiimaaGreatDoor

/- Names: packages net and the document's answer. -/
namespace Go.Proofs.YtojidhnkpeiimaaGreatDoor
open Go.RowKit
def letN (c : Nat) : Bool := decide (97 ≤ c ∧ c ≤ 122)
def figN (c : Nat) : Bool := decide (48 ≤ c ∧ c ≤ 57)
def worN (c : Nat) : Bool := letN c || figN c || decide (c = 95)
def wordB (s : ByteArray) : Bool := (s.data.toList.all fun c => worN c.toNat) && letN (s.data.toList.headD 0).toNat
def isVar (s : ByteArray) : Bool := s.toList == [118, 97, 114]
def isElse (s : ByteArray) : Bool := s.toList == [101, 108, 115, 101]
def nameB (s : ByteArray) : Bool := decide (s.size ≤ 12) && !isVar s && !isElse s && wordB s
set_option maxRecDepth 100000 in
set_option maxHeartbeats 400000 in
theorem nLetter_any (c : Nat) (w : World) : Calls Tryz.prog 93 #[.int .u8 (c : Nat)] w fun e w' => e = .returned (.bool (letN c)) ∧ w' = w := by
  rw [letN]
  by_cases h1 : 97 ≤ c
  · have HE : Hid (decide ((c : Int) ≤ 122) = decide (97 ≤ c ∧ c ≤ 122)) := decide_eq_decide.2 ⟨fun h => ⟨h1, by omega⟩, fun h => by omega⟩
    have e1 : (97 : Int) ≤ (c : Int) := by omega
    go_enter Tryz.func93, Tryz.ntmps93
    go_wp2
    go_ret
    exact ⟨by rw [← HE.out]; rfl, rfl⟩
  · have HE : Hid (decide (97 ≤ c ∧ c ≤ 122) = false) := decide_eq_false fun h => h1 h.1
    rw [HE.out]
    have e1 : (c : Int) < 97 := by omega
    clear h1
    go_enter Tryz.func93, Tryz.ntmps93
    go_wp2
    go_ret
    exact ⟨rfl, rfl⟩
set_option maxRecDepth 100000 in
set_option maxHeartbeats 400000 in
theorem nDigit_any (c : Nat) (w : World) : Calls Tryz.prog 95 #[.int .u8 (c : Nat)] w fun e w' => e = .returned (.bool (figN c)) ∧ w' = w := by
  rw [figN]
  by_cases h1 : 48 ≤ c
  · have HE : Hid (decide ((c : Int) ≤ 57) = decide (48 ≤ c ∧ c ≤ 57)) := decide_eq_decide.2 ⟨fun h => ⟨h1, by omega⟩, fun h => by omega⟩
    have e1 : (48 : Int) ≤ (c : Int) := by omega
    go_enter Tryz.func95, Tryz.ntmps95
    go_wp2
    go_ret
    exact ⟨by rw [← HE.out]; rfl, rfl⟩
  · have HE : Hid (decide (48 ≤ c ∧ c ≤ 57) = false) := decide_eq_false fun h => h1 h.1
    rw [HE.out]
    have e1 : (c : Int) < 48 := by omega
    clear h1
    go_enter Tryz.func95, Tryz.ntmps95
    go_wp2
    go_ret
    exact ⟨rfl, rfl⟩
set_option maxRecDepth 100000 in
set_option maxHeartbeats 400000 in
theorem nGoes_any (c : Nat) (w : World) : Calls Tryz.prog 94 #[.int .u8 (c : Nat)] w fun e w' => e = .returned (.bool (worN c)) ∧ w' = w := by
  have HW : Hid (worN c = (letN c || figN c || decide (c = 95))) := rfl
  have HL := hid (nLetter_any c)
  have HF := hid (nDigit_any c)
  generalize worN c = r at *
  go_enter Tryz.func94, Tryz.ntmps94
  go_wp2_with fail
  refine (HL.out _).mono ?_
  rintro e w1 ⟨rfl, rfl⟩
  cases hl : letN c with
  | true =>
    rw [hl] at HW
    have HE : Hid (r = true) := HW.out
    clear hl
    go_wp2
    go_ret
    exact ⟨by rw [HE.out]; rfl, rfl⟩
  | false =>
    rw [hl] at HW
    go_wp2_with fail
    refine (HF.out _).mono ?_
    rintro e w2 ⟨rfl, rfl⟩
    cases hf : figN c with
    | true =>
      rw [hf] at HW
      have HE : Hid (r = true) := HW.out
      clear hl hf
      go_wp2
      go_ret
      exact ⟨by rw [HE.out]; rfl, rfl⟩
    | false =>
      rw [hf] at HW
      have HE : Hid (r = ((c : Int) == 95)) := by
        show _ = _
        rw [HW.out, Bool.false_or, Bool.false_or, Bool.eq_iff_iff, decide_eq_true_iff, beq_iff_eq]
        omega
      clear hl hf
      go_wp2
      go_ret
      exact ⟨by rw [HE.out]; rfl, rfl⟩
end Go.Proofs.YtojidhnkpeiimaaGreatDoor

/- Names: isName, of package net and of the document's answer. -/
namespace Go.Proofs.YtojidhnkpeiimaaGreatDoor
open Go.RowKit
theorem take_byte {s : ByteArray} {k : Nat} (h : k < s.size) : s.data.toList.take (k + 1) = s.data.toList.take k ++ [s[k]] := by
  have h' : k < s.data.toList.length := by simpa using h
  rw [List.take_succ_eq_append_getElem h']
  rfl
theorem word_bad {s : ByteArray} {k : Nat} (h : k < s.size) (e : worN s[k].toNat = false) : wordB s = false := by
  have hm : s[k] ∈ s.data.toList := by
    have : s.data.toList[k]'(by simpa using h) = s[k] := rfl
    rw [← this]; exact List.getElem_mem _
  have : (s.data.toList.all fun c => worN c.toNat) = false := by
    rw [List.all_eq_false]; exact ⟨_, hm, by rw [e]; decide⟩
  rw [wordB, this]; rfl
theorem head_zero {s : ByteArray} (h : 0 < s.size) : s.data.toList.headD 0 = s[0] := by
  obtain ⟨⟨l⟩⟩ := s
  cases l with
  | nil => exact absurd h (by decide)
  | cons c l => rfl
theorem word_full {s : ByteArray} (h : 0 < s.size) (e : (s.data.toList.take s.size).all (fun c => worN c.toNat) = true) : wordB s = letN s[0].toNat := by
  have e2 : s.data.toList.all (fun c => worN c.toNat) = true := by
    rwa [List.take_of_length_le (by simp)] at e
  rw [wordB, e2, Bool.true_and, head_zero h]
set_option maxRecDepth 100000 in
set_option maxHeartbeats 1000000 in
theorem nName_any (s : ByteArray) (w : World) (hs : s.size ≤ 140737488355328) :
    Calls Tryz.prog 66 #[.string s] w fun e w' => e = .returned (.bool (nameB s)) ∧ w' = w := by
  have HN : Hid (nameB s = (decide (s.size ≤ 12) && !isVar s && !isElse s && wordB s)) := rfl
  have HWB := hid (fun k h e => word_bad (s := s) (k := k) h e)
  have HWF := hid (fun h e => word_full (s := s) h e)
  have HW0 : Hid (s.size = 0 → wordB s = false) := fun h => by
    have : s.data.toList = [] := List.length_eq_zero_iff.1 (by rw [Array.length_toList]; exact h)
    rw [wordB, this]; rfl
  generalize nameB s = nb at *
  generalize wordB s = wb at *
  by_cases h0 : s.size = 0
  · have HE : Hid (nb = false) := by show _ = _; rw [HN.out, HW0.out h0]; simp
    have e1 : (s.size : Int) < 1 := by omega
    clear h0 HN
    go_enter Tryz.func66, Tryz.ntmps66
    go_wp2
    go_ret
    exact ⟨by rw [HE.out]; rfl, rfl⟩
  by_cases h12 : 12 < s.size
  · have HE : Hid (nb = false) := by show _ = _; rw [HN.out, decide_eq_false (show ¬ s.size ≤ 12 by omega)]; rfl
    have e1 : (1 : Int) ≤ (s.size : Int) := by omega
    have e2 : (12 : Int) < (s.size : Int) := by omega
    clear h0 HN
    go_enter Tryz.func66, Tryz.ntmps66
    go_wp2
    go_ret
    exact ⟨by rw [HE.out]; rfl, rfl⟩
  have e1 : (1 : Int) ≤ (s.size : Int) := by omega
  have e2 : (s.size : Int) ≤ 12 := by omega
  cases hv : isVar s with
  | true =>
    have HE : Hid (nb = false) := by show _ = _; rw [HN.out, hv]; simp
    rw [isVar] at hv
    clear HN h0 h12
    go_enter Tryz.func66, Tryz.ntmps66
    go_wp2
    go_ret
    exact ⟨by rw [HE.out]; rfl, rfl⟩
  | false =>
    cases he : isElse s with
    | true =>
      have HE : Hid (nb = false) := by show _ = _; rw [HN.out, he]; simp
      rw [isVar] at hv
      rw [isElse] at he
      clear HN h0 h12
      go_enter Tryz.func66, Tryz.ntmps66
      go_wp2
      go_ret
      exact ⟨by rw [HE.out]; rfl, rfl⟩
    | false =>
      have HE : Hid (nb = wb) := by show _ = _; rw [HN.out, hv, he, decide_eq_true (show s.size ≤ 12 by omega)]; simp
      rw [isVar] at hv
      rw [isElse] at he
      have h1 : 0 < s.size := by omega
      clear HN h0 h12
      go_enter Tryz.func66, Tryz.ntmps66
      go_wp2_with fail
      go_loopw [22] (fun iv wr => ∃ k : Nat, k ≤ s.size ∧ iv = .int .i64 k ∧ Hid ((s.data.toList.take k).all (fun c => worN c.toNat) = true) ∧ wr = w) (fun iv _ => s.size - (intOf iv).toNat)
      case atStart => exact ⟨0, Nat.zero_le _, rfl, rfl, rfl⟩
      case round =>
        obtain ⟨k, hk, rfl, HA, rfl⟩ := hrel
        by_cases hlt : k < s.size
        · have HB := hid (HWB.out k hlt)
          have HT : Hid (worN s[k].toNat = true → (s.data.toList.take (k + 1)).all (fun c => worN c.toNat) = true) := fun h => by
            rw [take_byte hlt, List.all_append, HA.out]
            simp [h]
          go_wp2_with fail
          refine (nGoes_any s[k].toNat _).mono ?_
          rintro e w1 ⟨rfl, rfl⟩
          cases hw : worN s[k].toNat with
          | false =>
            have HF := hid (HB.out hw)
            clear hw
            go_wp2
            go_ret
            exact ⟨by rw [HE.out, HF.out]; rfl, rfl⟩
          | true =>
            have HS := hid (HT.out hw)
            clear hw
            go_wp2
            go_roundw
            case rel => exact ⟨k + 1, by omega, by go_num, HS, trivial⟩
            case measure => simp [intOf]; omega
        · obtain rfl : k = s.size := by omega
          have HF := hid (HWF.out h1 HA.out)
          go_wp2_with fail
          refine (nLetter_any s[0].toNat _).mono ?_
          rintro e w1 ⟨rfl, rfl⟩
          go_wp2
          go_ret
          exact ⟨by rw [HE.out, HF.out]; rfl, rfl⟩
end Go.Proofs.YtojidhnkpeiimaaGreatDoor

/- Lists of names: checkNames of package net, namesOK of the document's answer. -/
namespace Go.Proofs.YtojidhnkpeiimaaGreatDoor
open Go.RowKit
def StS (w : World) (a : Option Addr) (l : List ByteArray) : Prop := ∀ k (h : k < l.length), ∃ g o, a = some ⟨g, o, none⟩ ∧ g < w.heap.size ∧ w.cell? ⟨g, o + k, none⟩ = some (.string l[k])
theorem StS.below {w w' : World} {a : Option Addr} {l : List ByteArray} (h : StS w a l) (hb : Below w.heap.size w w') : StS w' a l := fun k hk => by
  obtain ⟨g, o, h1, h2, h3⟩ := h k hk
  exact ⟨g, o, h1, Nat.lt_of_lt_of_le h2 hb.size, (hb.cell (p := ⟨g, o + k, none⟩) h2).trans h3⟩
theorem StS.take {w : World} {a : Option Addr} {l : List ByteArray} (h : StS w a l) (i : Nat) : StS w a (l.take i) := fun k hk => by
  have hk' : k < l.length := by rw [List.length_take] at hk; omega
  obtain ⟨g, o, h1, h2, h3⟩ := h k hk'
  refine ⟨g, o, h1, h2, ?_⟩
  rw [List.getElem_take]
  exact h3
def firstE (f : Nat → Int) : Nat → Int
  | 0 => 0
  | n + 1 => if firstE f n = 0 then f n else firstE f n
theorem firstE_none {f : Nat → Int} : ∀ {n : Nat}, (∀ j, j < n → f j = 0) → firstE f n = 0
  | 0, _ => rfl
  | n + 1, h => by rw [firstE, if_pos (firstE_none fun j hj => h j (by omega)), h n (by omega)]
theorem firstE_at {f : Nat → Int} {i : Nat} (h : ∀ j, j < i → f j = 0) (hi : f i ≠ 0) : ∀ {n : Nat}, i < n → firstE f n = f i
  | 0, hn => by omega
  | n + 1, hn => by
    rcases Nat.lt_or_ge i n with h1 | h1
    · rw [firstE, firstE_at h hi h1, if_neg hi]
    · obtain rfl : i = n := by omega
      rw [firstE, if_pos (firstE_none h)]
theorem zero_upto {f : Nat → Int} {i : Nat} (h : ∀ j, j < i → f j = 0) (hi : f i = 0) : ∀ j, j < i + 1 → f j = 0 := fun j hj => by
  rcases Nat.lt_or_ge j i with h1 | h1
  · exact h j h1
  · obtain rfl : j = i := by omega
    exact hi
def memS (l : List ByteArray) (v : ByteArray) : Bool := l.any fun x => decide (x = v)
def nameE (l : List ByteArray) (i : Nat) : Int := if nameB (l.getD i ⟨#[]⟩) = true then (if memS (l.take i) (l.getD i ⟨#[]⟩) = true then 7 else 0) else 4
def namesE (l : List ByteArray) : Int := firstE (nameE l) l.length
theorem getS {l : List ByteArray} {i : Nat} (h : i < l.length) : l.getD i ⟨#[]⟩ = l[i] := by rw [List.getD_eq_getElem?_getD, List.getElem?_eq_getElem h]; rfl
def placeS (l : List ByteArray) (v : ByteArray) : Int := match l.findIdx? (fun x => decide (x = v)) with
  | some i => (i : Int)
  | none => -1
theorem bytes_eq {a b : ByteArray} : (a.toList == b.toList) = decide (a = b) := by
  rw [Bool.eq_iff_iff, beq_iff_eq, decide_eq_true_iff]
  constructor
  · intro h
    rw [toList_data, toList_data] at h
    obtain ⟨⟨x⟩⟩ := a
    obtain ⟨⟨y⟩⟩ := b
    simp only at h
    rw [h]
  · intro h; rw [h]
theorem place_at {l : List ByteArray} {v : ByteArray} {i : Nat} (h : i < l.length) (e : l[i] = v) (hn : ∀ j (hj : j < l.length), j < i → ¬ l[j] = v) : placeS l v = i := by
  have : l.findIdx? (fun x => decide (x = v)) = some i := List.findIdx?_eq_some_iff_getElem.2 ⟨h, decide_eq_true e, fun j hj => by
    rw [decide_eq_true_iff]
    exact hn j (by omega) hj⟩
  rw [placeS, this]
theorem place_no {l : List ByteArray} {v : ByteArray} (hn : ∀ j (hj : j < l.length), ¬ l[j] = v) : placeS l v = -1 := by
  have : l.findIdx? (fun x => decide (x = v)) = none := List.findIdx?_eq_none_iff.2 fun x hx => by
    obtain ⟨j, hj, rfl⟩ := List.getElem_of_mem hx
    exact decide_eq_false (hn j hj)
  rw [placeS, this]
theorem place_mem (l : List ByteArray) (v : ByteArray) : decide (0 ≤ placeS l v) = memS l v := by
  rw [Bool.eq_iff_iff, decide_eq_true_iff, memS, List.any_eq_true, placeS]
  cases e : l.findIdx? (fun x => decide (x = v)) with
  | some i =>
    obtain ⟨h, hp, _⟩ := List.findIdx?_eq_some_iff_getElem.1 e
    exact ⟨fun _ => ⟨l[i], List.getElem_mem h, hp⟩, fun _ => by show (0 : Int) ≤ (i : Int); omega⟩
  | none =>
    have := List.findIdx?_eq_none_iff.1 e
    exact ⟨fun h => by exact absurd (show (0 : Int) ≤ -1 from h) (by decide), fun ⟨x, hx, hp⟩ => by rw [this x hx] at hp; cases hp⟩
set_option maxRecDepth 100000 in
set_option maxHeartbeats 1000000 in
theorem slIndexS_any (a : Option Addr) (ca : Nat) (l : List ByteArray) (v : ByteArray) (w : World) (h : StS w a l) (hn : l.length ≤ 140737488355328) :
    Calls Tryz.prog 102 #[.slice a l.length ca, .string v] w fun e w' => e = .returned (.int .i64 (placeS l v)) ∧ w' = w := by
  have HF := hid h
  have HP := hid (fun i h e hn => place_at (l := l) (v := v) (i := i) h e hn)
  have HQ := hid (fun hn => place_no (l := l) (v := v) hn)
  generalize placeS l v = r at *
  clear h
  go_enter Tryz.func102, Tryz.ntmps102
  go_wp2_with fail
  go_loopw [8] (fun iv wr => ∃ i : Nat, i ≤ l.length ∧ iv = .int .i64 i ∧ Hid (∀ j (hj : j < l.length), j < i → ¬ l[j] = v) ∧ wr = w) (fun iv _ => l.length - (intOf iv).toNat)
  case atStart => exact ⟨0, Nat.zero_le _, rfl, fun j _ h => absurd h (by omega), rfl⟩
  case round =>
    obtain ⟨i, hi, rfl, HN, rfl⟩ := hrel
    by_cases hlt : i < l.length
    · obtain ⟨g, o, rfl, hg, c0⟩ := HF.out i hlt
      have HPi := hid (fun e => HP.out i hlt e HN.out)
      have HNi : Hid (¬ l[i] = v → ∀ j (hj : j < l.length), j < i + 1 → ¬ l[j] = v) := fun h j hj hji => by
        rcases Nat.lt_or_ge j i with h2 | h2
        · exact HN.out j hj h2
        · obtain rfl : j = i := by omega
          exact h
      generalize l[i] = x at *
      by_cases e : x = v
      · have HE := hid (HPi.out e)
        subst e
        go_wp2
        go_ret
        exact ⟨by rw [HE.out]; rfl, rfl⟩
      · have HE := hid (HNi.out e)
        have e1 : (v.toList == x.toList) = false := by rw [bytes_eq]; exact decide_eq_false fun h => e h.symm
        clear e
        go_wp2
        go_roundw
        case rel => exact ⟨i + 1, by omega, by go_num, HE, trivial⟩
        case measure => simp [intOf]; omega
    · obtain rfl : i = l.length := by omega
      have HE := hid (HQ.out fun j hj => HN.out j hj hj)
      go_wp2
      go_ret
      exact ⟨by rw [HE.out]; rfl, rfl⟩
set_option maxRecDepth 100000 in
set_option maxHeartbeats 1000000 in
theorem slContainsS_any (a : Option Addr) (ca : Nat) (l : List ByteArray) (v : ByteArray) (w : World) (h : StS w a l) (hn : l.length ≤ 140737488355328) :
    Calls Tryz.prog 67 #[.slice a l.length ca, .string v] w fun e w' => e = .returned (.bool (memS l v)) ∧ w' = w := by
  have HF := hid h
  have HI := hid (fun (V : World) (hV : StS V a l) => slIndexS_any a ca l v V hV hn)
  have HM := hid (place_mem l v)
  generalize memS l v = m at *
  generalize placeS l v = r at *
  clear h
  go_enter Tryz.func67, Tryz.ntmps67
  go_wp2_with fail
  refine (HI.out _ HF.out).mono ?_
  rintro e w1 ⟨rfl, rfl⟩
  go_wp2
  go_ret
  exact ⟨by rw [← HM.out]; rfl, rfl⟩
end Go.Proofs.YtojidhnkpeiimaaGreatDoor

/- Lists of names: checkNames of package net, namesOK of the document's answer. -/
namespace Go.Proofs.YtojidhnkpeiimaaGreatDoor
open Go.RowKit
theorem nameE_word {l : List ByteArray} {i : Nat} (h : i < l.length) (e : nameB l[i] = false) : nameE l i = 4 := by rw [nameE, getS h, e, if_neg (by decide)]
theorem nameE_double {l : List ByteArray} {i : Nat} (h : i < l.length) (e : nameB l[i] = true) (e' : memS (l.take i) l[i] = true) : nameE l i = 7 := by rw [nameE, getS h, e, if_pos rfl, e', if_pos rfl]
theorem nameE_ok {l : List ByteArray} {i : Nat} (h : i < l.length) (e : nameB l[i] = true) (e' : memS (l.take i) l[i] = false) : nameE l i = 0 := by rw [nameE, getS h, e, if_pos rfl, e', if_neg (by decide)]
set_option maxRecDepth 100000 in
set_option maxHeartbeats 1000000 in
theorem checkNames_any (a : Option Addr) (ca : Nat) (l : List ByteArray) (w : World) (h : StS w a l) (hn : l.length ≤ 140737488355328) (hc : l.length ≤ ca) (hs : ∀ s ∈ l, s.size ≤ 140737488355328) :
    Calls Tryz.prog 43 #[.slice a l.length ca] w fun e w' => e = .returned (.int .i64 (namesE l)) ∧ w' = w := by
  have HF := hid h
  have HSZ := hid hs
  have HA : Hid (∀ i, i < l.length → (∀ j, j < i → nameE l j = 0) → ∀ k, nameE l i = k → k ≠ 0 → namesE l = k) := fun i hi hz k hk hk0 => by rw [namesE, firstE_at hz (by rw [hk]; exact hk0) hi, hk]
  have HZ : Hid ((∀ j, j < l.length → nameE l j = 0) → namesE l = 0) := fun h => firstE_none h
  have HW := hid (fun i h e => nameE_word (l := l) (i := i) h e)
  have HD := hid (fun i h e e' => nameE_double (l := l) (i := i) h e e')
  have HO := hid (fun i h e e' => nameE_ok (l := l) (i := i) h e e')
  generalize namesE l = r at *
  clear h hs
  go_enter Tryz.func43, Tryz.ntmps43
  go_wp2_with fail
  go_loopw [7] (fun iv wr => ∃ i : Nat, i ≤ l.length ∧ iv = .int .i64 i ∧ Hid (∀ j, j < i → nameE l j = 0) ∧ wr = w) (fun iv _ => l.length - (intOf iv).toNat)
  case atStart => exact ⟨0, Nat.zero_le _, rfl, fun j h => absurd h (by omega), rfl⟩
  case round =>
    obtain ⟨i, hi, rfl, HN, rfl⟩ := hrel
    by_cases hlt : i < l.length
    · obtain ⟨g, o, rfl, hg, c0⟩ := HF.out i hlt
      have hsz := HSZ.out l[i] (List.getElem_mem hlt)
      have HWi := hid (fun e => HA.out i hlt HN.out 4 (HW.out i hlt e) (by decide))
      have HDi := hid (fun e e' => HA.out i hlt HN.out 7 (HD.out i hlt e e') (by decide))
      have HOi := hid (fun e e' => zero_upto HN.out (HO.out i hlt e e'))
      have HTK := hid (HF.out.take i)
      have htl : (l.take i).length = i := by rw [List.length_take]; omega
      have HCO : Hid (∀ (v : ByteArray) (V : World), StS V (some ⟨g, o, none⟩) (l.take i) → Calls Tryz.prog 67 #[.slice (some ⟨g, o, none⟩) i ca, .string v] V fun e w' => e = .returned (.bool (memS (l.take i) v)) ∧ w' = V) := fun v V hV => by
        have := slContainsS_any (some ⟨g, o, none⟩) ca (l.take i) v V hV (by omega)
        rwa [htl] at this
      clear htl
      generalize l[i] = x at *
      go_wp2_with fail
      refine (nName_any x _ hsz).mono ?_
      rintro e w1 ⟨rfl, rfl⟩
      cases hnb : nameB x with
      | false =>
        have HE := hid (HWi.out hnb)
        clear hnb
        go_wp2
        go_ret
        exact ⟨by rw [HE.out]; rfl, rfl⟩
      | true =>
        go_wp2_with fail
        refine (HCO.out x _ HTK.out).mono ?_
        rintro e w2 ⟨rfl, rfl⟩
        cases hm : memS (l.take i) x with
        | true =>
          have HE := hid (HDi.out hnb hm)
          clear hnb hm
          go_wp2
          go_ret
          exact ⟨by rw [HE.out]; rfl, rfl⟩
        | false =>
          have HE := hid (HOi.out hnb hm)
          clear hnb hm
          go_wp2
          go_roundw
          case rel => exact ⟨i + 1, by omega, by go_num, HE, trivial⟩
          case measure => simp [intOf]; omega
    · obtain rfl : i = l.length := by omega
      have HE := hid (HZ.out HN.out)
      go_wp2
      go_ret
      exact ⟨by rw [HE.out]; rfl, rfl⟩
end Go.Proofs.YtojidhnkpeiimaaGreatDoor
