/- Hits of package chain. -/
import Derived.Test.YtbejijgelljeaaaGreatDoorChnFOwn
import Derived.Test.YtbejijgelljeaaaGreatDoorChnDOwn
import Derived.Test.YtbejijgelljeaaaGreatDoorNormBToMadC
import Derived.Test.YtbejijgelljeaaaGreatDoorFillBToHidQ
namespace Go.Proofs.YtbejijgelljeaaaGreatDoor
open Go.RowKit Go.Shelf

theorem opN_mem {n : Nat} {e : Nat → Nat → Bool} {S : List Nat} {i : Nat} : i ∈ opN n e S ↔ i < n ∧ (∃ j ∈ S, e i j = true) ∧ i ∉ S := by
  rw [opN, List.mem_filter, List.mem_range, opB, Bool.and_eq_true, List.any_eq_true, Bool.not_eq_true', List.any_eq_false]
  constructor
  · rintro ⟨h1, h2, h3⟩
    exact ⟨h1, h2, fun h => h3 i h (by simp)⟩
  · rintro ⟨h1, h2, h3⟩
    exact ⟨h1, h2, fun x hx h => h3 (by rw [of_decide_eq_true h]; exact hx)⟩
theorem opN_nodup (n : Nat) (e : Nat → Nat → Bool) (S : List Nat) : (opN n e S).Nodup := List.Pairwise.filter _ List.nodup_range
theorem lsm_const : ∀ l : List Nat, lsm (fun _ => 1) l = (l.length : Rat)
  | [] => rfl
  | x :: l => by rw [lsm, lsm_const l, List.length_cons, Rat.natCast_add, Rat.add_comm]; rfl
theorem sumR_const : ∀ n : Nat, sumR (fun _ => 1) n = (n : Rat)
  | 0 => rfl
  | n + 1 => by rw [sumR, sumR_const n, Rat.natCast_add]; rfl
theorem nod_most {n : Nat} {l : List Nat} (h : l.Nodup) (hl : ∀ x ∈ l, x < n) : l.length ≤ n := by
  have h1 := lsm_le (n := n) (f := fun _ => 1) (fun _ _ => by decide) h hl
  rw [lsm_const, sumR_const] at h1
  exact_mod_cast h1
theorem sprQ_on {l : List Nat} {x : Nat → Rat} (hn : l.Nodup) : ∀ {m k : Nat}, m ≤ l.length → k < m → sprQ l x m (l.getD k 0) = x k
  | m + 1, k, hm, hk => by
    show (if l.getD k 0 = l.getD m 0 then x m else _) = _
    by_cases e : k = m
    · rw [e, if_pos rfl]
    · rw [if_neg fun h => e ?_]
      · exact sprQ_on hn (by omega) (by omega)
      · have h1 : l.getD k 0 = l[k]'(by omega) := by rw [List.getD_eq_getElem?_getD, List.getElem?_eq_getElem (by omega)]; rfl
        have h2 : l.getD m 0 = l[m]'(by omega) := by rw [List.getD_eq_getElem?_getD, List.getElem?_eq_getElem (by omega)]; rfl
        exact nodup_at hn (by omega) (by omega) (by rw [← h1, ← h2]; exact h)
theorem sprQ_off {l : List Nat} {x : Nat → Rat} {i : Nat} (hi : i ∉ l) : ∀ {m : Nat}, m ≤ l.length → sprQ l x m i = 0
  | 0, _ => rfl
  | m + 1, hm => by
    show (if i = l.getD m 0 then x m else _) = _
    rw [if_neg fun h => hi (by rw [h]; exact getD_mem (by omega))]
    exact sprQ_off hi (by omega)
/-- What Hits answers. -/
def hitQ (n : Nat) (P : Nat → Nat → Rat) (S : List Nat) (t i : Nat) : Rat := if i ∈ S.take t then 1 else sprQ (opN n (cmsB n P) S) (fun k => elm (hM P (opN n (cmsB n P) S) S) (opN n (cmsB n P) S).length k (opN n (cmsB n P) S).length) (opN n (cmsB n P) S).length i
theorem hM_wt {n : Nat} {P : Nat → Nat → Rat} {S : List Nat} (hc : Chn n P) (hS : ∀ x ∈ S, x < n) : Wt (opN n (cmsB n P) S).length 0 (hM P (opN n (cmsB n P) S) S) :=
  wt_hits hc (opN_nodup _ _ _) (fun x hx => (opN_mem.1 hx).1) (fun x hx => by
    obtain ⟨_, ⟨j, hj, hc⟩, _⟩ := opN_mem.1 hx
    exact ⟨j, hS j hj, fun e => (opN_mem.1 e).2.2 hj, hc⟩) fun k _ c hc' => if_pos hc'
theorem hit_sol {P : Nat → Nat → Rat} {l S : List Nat} {x : Nat → Rat} (h : Sol l.length (hM P l S) x) {k : Nat} (hk : k < l.length) : x k = sumR (fun c => P (l.getD k 0) (l.getD c 0) * x c) l.length + lsm (P (l.getD k 0)) S := by
  have h1 := h k hk
  have e1 : hM P l S k l.length = 0 - lsm (P (l.getD k 0)) S := if_neg (Nat.lt_irrefl _)
  have e2 : sumR (fun j => hM P l S k j * x j) l.length = sumR (fun c => P (l.getD k 0) (l.getD c 0) * x c) l.length - x k := by
    rw [← sumR_one x hk, ← sumR_sub]
    refine sumR_congr fun c hc' => ?_
    have e3 : hM P l S k c = P (l.getD k 0) (l.getD c 0) - (if k = c then 1 else 0) := if_pos hc'
    rw [e3]
    grind
  rw [e1, e2] at h1
  generalize sumR (fun c => P (l.getD k 0) (l.getD c 0) * x c) l.length = A at *
  generalize lsm (P (l.getD k 0)) S = B at *
  generalize x k = C at *
  clear e2 e1 h
  grind
theorem hit_of {n : Nat} {P : Nat → Nat → Rat} {S : List Nat} (hc : Chn n P) (hS : ∀ x ∈ S, x < n) (hd : S.Nodup) : Hit n P (opN n (cmsB n P) S) S (fun k => elm (hM P (opN n (cmsB n P) S) S) (opN n (cmsB n P) S).length k (opN n (cmsB n P) S).length) (hitQ n P S S.length) := by
  have hw := hM_wt hc hS
  have hsol := hw.solves
  refine ⟨hc, ?_, ?_, fun i hi => ?_, fun i hi hl hs j hj => ?_, fun k hk => ?_, fun k hk => ?_, fun j hj => ?_, fun j hj hl hs => ?_⟩
  · rw [List.nodup_append]
    exact ⟨opN_nodup _ _ _, hd, fun x hx y hy e => (opN_mem.1 hx).2.2 (by rw [e]; exact hy)⟩
  · intro y hy
    rcases List.mem_append.1 hy with h | h
    · exact (opN_mem.1 h).1
    · exact hS y h
  · obtain ⟨_, ⟨j, hj, h⟩, _⟩ := opN_mem.1 hi
    exact ⟨j, hj, h⟩
  · cases h : cmsB n P i j with
    | false => rfl
    | true => exact absurd (opN_mem.2 ⟨hi, ⟨j, hj, h⟩, hs⟩) hl
  · exact hit_sol hsol hk
  · have hm := getD_mem hk
    show (if _ ∈ _ then _ else _) = _
    rw [List.take_length, if_neg (opN_mem.1 hm).2.2]
    exact sprQ_on (opN_nodup _ _ _) (Nat.le_refl _) hk
  · show (if _ ∈ _ then _ else _) = _
    rw [List.take_length, if_pos hj]
  · show (if _ ∈ _ then _ else _) = _
    rw [List.take_length, if_neg hs]
    exact sprQ_off hl (Nat.le_refl _)
theorem opN_four {P : Nat → Nat → Rat} {n : Nat} {S : List Nat} (hn : n ≤ 5) (hS : ∀ x ∈ S, x < n) (hd : S.Nodup) : (opN n (cmsB n P) S).length ≤ 4 ∧ S.length ≤ 5 := by
  have h1 : ((opN n (cmsB n P) S) ++ S).Nodup := by
    rw [List.nodup_append]
    exact ⟨opN_nodup _ _ _, hd, fun x hx y hy e => (opN_mem.1 hx).2.2 (by rw [e]; exact hy)⟩
  have h2 := nod_most h1 fun x hx => by
    rcases List.mem_append.1 hx with h | h
    · exact (opN_mem.1 h).1
    · exact hS x h
  rw [List.length_append] at h2
  by_cases h : (opN n (cmsB n P) S).length = 0
  · omega
  · have h3 : ∃ x, x ∈ opN n (cmsB n P) S := List.exists_mem_of_length_pos (by omega)
    obtain ⟨x, hx⟩ := h3
    obtain ⟨_, ⟨j, hj, _⟩, _⟩ := opN_mem.1 hx
    have := List.length_pos_of_mem hj
    omega
theorem hitQ_fits {n : Nat} {P : Nat → Nat → Rat} {S : List Nat} (hn : n ≤ 5) (hc : Chn n P) (hf : ∀ i j, i < n → j < n → Fits 1 (P i j)) (hS : ∀ x ∈ S, x < n) (hd : S.Nodup) (t i : Nat) : Fits 3413 (hitQ n P S t i) := by
  have h4 := opN_four (P := P) hn hS hd
  have hw := hM_wt hc hS
  have hx : ∀ k, k < (opN n (cmsB n P) S).length → Fits 3413 (elm (hM P (opN n (cmsB n P) S) S) (opN n (cmsB n P) S).length k (opN n (cmsB n P) S).length) := fun k hk =>
    fits_up (elm_fits (b := 13) (fun i c hi _ => hM_fits hf (fun x hx => (opN_mem.1 hx).1) hS h4.2 i c hi) (fun j hj => by have := (hw.all j (by omega)).pivot hj; grind) _ (Nat.le_refl _) k _ hk (Nat.le_refl _)) (Nat.le_trans (bE_mono 13 h4.1) (by decide))
  show Fits 3413 (if _ ∈ _ then _ else _)
  by_cases h1 : i ∈ S.take t
  · rw [if_pos h1]; exact fits_up fits_one (by omega)
  · rw [if_neg h1]
    have key : ∀ m, m ≤ (opN n (cmsB n P) S).length → Fits 3413 (sprQ (opN n (cmsB n P) S) (fun k => elm (hM P (opN n (cmsB n P) S) S) (opN n (cmsB n P) S).length k (opN n (cmsB n P) S).length) m i) := fun m => by
      induction m with
      | zero => intro _; exact fits_up fits_zero (by omega)
      | succ m ih =>
        intro hm
        show Fits 3413 (if i = _ then _ else _)
        by_cases e : i = (opN n (cmsB n P) S).getD m 0
        · rw [if_pos e]; exact hx m (by omega)
        · rw [if_neg e]; exact ih (by omega)
    exact key _ (Nat.le_refl _)
/-- A chain in memory that may be. -/
structure ChM (n : Nat) (P : Nat → Nat → Rat) : Prop where
  one : 1 ≤ n
  five : n ≤ 5
  chn : Chn n P
  fit : ∀ i j, i < n → j < n → Fits 1 (P i j)
  ok : RwsOK n n (mR n P)
theorem ChM.lst {n : Nat} {P : Nat → Nat → Rat} (h : ChM n P) : ∀ i (hi : i < (mR n P).length), Lst n (P i) (mR n P)[i] := fun i hi => by
  have hi' : i < n := by rw [mR_length] at hi; exact hi
  rw [mR_get]
  exact Lst.mk' fun j hj => by have := fits_qw (h.fit i j hi' hj); omega
set_option maxRecDepth 100000 in
set_option maxHeartbeats 2000000 in
theorem chHits_any (a b : Option Addr) (ca cb n : Nat) (P : Nat → Nat → Rat) (S : List Nat) (w : World) (hR : FsS w a (mR n P)) (hS : IntS w b (iL S)) (hm : ChM n P) (hr : S.Pairwise (· < ·)) (hb : ∀ x ∈ S, x < n) :
    Calls Tryz.prog 10 #[.slice a n ca, .slice b S.length cb] w fun e w' => ∃ G, e = .returned (.tuple #[.slice (some ⟨G, 0, none⟩) n n, .int .i64 0]) ∧ w.heap.size ≤ G ∧ RowF w' G (lF n (hitQ n P S S.length)) ∧ Below w.heap.size w w' := by
  have hd : S.Nodup := hr.imp fun h => Nat.ne_of_lt h
  have h4 := opN_four (P := P) hm.five hb hd
  have h1 := hm.one
  have h5 := hm.five
  have hw := hM_wt hm.chn hb
  have HCK := hid (fun (U : World) (hU : FsS U a (mR n P)) => chCheck_yes a ca n (mR n P) U hU hm.ok h1 (by omega))
  have HRI := hid (fun (U : World) (hU : IntS U b (iL S)) => chRises_yes b cb n S U hU hr hb (by omega) (by omega))
  have HCO := hid (fun (U : World) (hU : FsS U a (mR n P)) => chComes_any a ca n (mR n P) P U hU (mR_length n P) hm.lst (by omega))
  have HCG := hid (fun (B G : Nat) (Rw : Nat → Nat) (U : World) (hM : BMt U B G n n Rw (cmsB n P)) (hU : IntS U b (iL S)) => chComing_any B G n cb Rw (cmsB n P) b S U hM hU hb (by omega) (by omega))
  have HHF := hid (fun (d : Option Addr) (cd : Nat) (U : World) (hU : FsS U a (mR n P)) (hl : IntS U d (iL (opN n (cmsB n P) S))) (hs : IntS U b (iL S)) => chHits_from a d b ca cd cb n (opN n (cmsB n P) S).length P (opN n (cmsB n P) S) S U hU hl hs rfl (fun x hx => (opN_mem.1 hx).1) hb (opN_nodup _ _ _) hm.fit (fun j hj => by have := (hw.all j (by omega)).pivot hj; grind) h4.1 h4.2)
  have HSP := hid (fun (d e : Option Addr) (cd ce : Nat) (U : World) (hl : IntS U d (iL (opN n (cmsB n P) S))) (x : Nat → Rat) (hx : FrS U e (lF (opN n (cmsB n P) S).length x)) => chSpread_any d e cd ce n (opN n (cmsB n P) S).length (opN n (cmsB n P) S) x U hl hx rfl (fun x hx => (opN_mem.1 hx).1) h1 (by omega) (by omega))
  have HH0 : Hid ((lF n (sprQ (opN n (cmsB n P) S) (fun k => elm (hM P (opN n (cmsB n P) S) S) (opN n (cmsB n P) S).length k (opN n (cmsB n P) S).length) (opN n (cmsB n P) S).length)) = lF n (hitQ n P S 0)) := lF_congr fun i _ => by
    show _ = if i ∈ S.take 0 then _ else _
    rw [if_neg (by simp)]
  have HO1 := hid (fun V : World => fOf_q (k := 1) (w := V) 1 1 rfl (by decide) (by rfl))
  have HHS : Hid (∀ t (ht : t < S.length), (lF n (hitQ n P S t)).set S[t] (qF 1) = lF n (hitQ n P S (t + 1))) := fun t ht => by
    rw [lF_set]
    refine lF_congr fun i _ => ?_
    show (if i = S[t] then 1 else if i ∈ S.take t then 1 else _) = if i ∈ S.take (t + 1) then 1 else _
    rw [List.take_succ_eq_append_getElem ht]
    by_cases e : i = S[t]
    · rw [if_pos e, if_pos (List.mem_append_right _ (List.mem_singleton.2 e))]
    · rw [if_neg e]
      by_cases e2 : i ∈ S.take t
      · rw [if_pos e2, if_pos (List.mem_append_left _ e2)]
      · rw [if_neg e2, if_neg fun h => (List.mem_append.1 h).elim e2 fun h => e (List.mem_singleton.1 h)]
  have HR := hid hR
  have HV := hid hS
  have HB := hid hb
  clear hR hS hr hb hd hw hm
  generalize hope : (opN n (cmsB n P) S) = op at *
  clear hope
  obtain ⟨h4, hS5⟩ := h4
  generalize hitQ n P S = hq at *
  generalize hxx : (fun k => elm (hM P op S) op.length k op.length) = xx at *
  clear hxx
  go_enter Tryz.func10, Tryz.ntmps10
  go_wp2_with fail
  refine (HCK.out _ HR.out).mono ?_
  rintro e w1 ⟨rfl, hb1⟩
  have HB1 := hid hb1
  clear hb1 HCK
  go_wp2_with fail
  refine (HRI.out _ (HV.out.below HB1.out)).mono ?_
  rintro e w2 ⟨rfl, hb2⟩
  have HB2 := hid (HB1.out.trans (hb2.mono HB1.out.size))
  clear hb2 HRI HB1
  go_wp2_with fail
  refine (HCO.out _ (HR.out.below HB2.out)).mono ?_
  rintro e w3 ⟨G, Rw, rfl, hm3, hb3⟩
  have HB3 := hid (HB2.out.trans (hb3.mono HB2.out.size))
  have HM3 := hid hm3
  clear hb3 hm3 HCO
  go_wp2_with fail
  refine (HCG.out _ G Rw _ HM3.out (HV.out.below HB3.out)).mono ?_
  rintro e w4 ⟨x, rfl, hr4, hb4⟩
  obtain ⟨d4, c4, rfl, hi4⟩ := RwI.ints hr4
  rw [iL_length] at hr4 ⊢
  have HB4 := hid (HB3.out.trans (hb4.mono HB3.out.size))
  have HI4 := hid hi4
  clear hb4 hi4 hr4 HCG HM3
  generalize op.length = m at *
  go_wp2_with fail
  refine (HHF.out d4 c4 _ (HR.out.below HB4.out) HI4.out (HV.out.below HB4.out)).mono ?_
  rintro e w5 ⟨S5, rfl, hS5', hr5, hb5⟩
  have HB5 := hid (HB4.out.trans (hb5.mono HB4.out.size))
  have HI5 := hid (HI4.out.below hb5)
  have HR5 := hid hr5
  clear hb5 hr5 hS5' HHF HI4
  go_wp2_with fail
  refine (HSP.out d4 (some ⟨S5, 0, none⟩) c4 m _ HI5.out xx HR5.out.fr).mono ?_
  rintro e w6 ⟨G6, rfl, hG6, hr6, hb6⟩
  rw [HH0.out] at hr6
  have HG6 : Hid (w.heap.size ≤ G6) := Nat.le_trans HB5.out.size hG6
  have HK0 : Hid (MF w G6 (lF n (hq 0)) w6) := ⟨hr6, HB5.out.trans (hb6.mono HB5.out.size)⟩
  clear hb6 hr6 hG6 HSP HR5 HI5 HH0
  go_wp2_with fail
  go_loopw [35] (fun iv wr => ∃ t : Nat, t ≤ S.length ∧ iv = .int .i64 t ∧ Hid (MF w G6 (lF n (hq t)) wr)) (fun iv _ => S.length - (intOf iv).toNat)
  case atStart => exact ⟨0, Nat.zero_le _, rfl, HK0⟩
  case round =>
    obtain ⟨t, ht, rfl, HK⟩ := hrel
    clear HK0
    by_cases hlt : t < S.length
    · have hti : t < (iL S).length := by rw [iL_length]; exact hlt
      obtain ⟨g, o, rfl, hg, c0⟩ := (HV.out.below HK.out.bel) t hti
      rw [iL_get hlt] at c0
      have hy := HB.out S[t] (List.getElem_mem hlt)
      have HE := hid (HHS.out t hlt)
      generalize S[t] = y at *
      go_wp2_with fail
      refine (HO1.out _).mono ?_
      rintro e w7 ⟨rfl, hb7⟩
      replace HK := hid (HK.out.step hb7)
      have HPW := hid (HK.out.put HG6.out y (qF 1))
      rw [HE.out] at HPW
      obtain ⟨k0, k1, k2⟩ := HK.out.row.cells y (by rw [lF_length]; exact hy)
      have f0 := HK.out.row.fz (y * 3)
      have f1 := HK.out.row.fz (y * 3 + 1)
      have f2 := HK.out.row.fz (y * 3 + 2)
      generalize (lF n (hq t))[y]'(by rw [lF_length]; exact hy) = z at *
      obtain ⟨zn, zx, zy⟩ := z
      simp only at k0 k1 k2
      have HPW2 : Hid (MF w G6 (lF n (hq (t + 1))) (((w7.setCell ⟨G6, y * 3, none⟩ (.bool (sgn 1))).setCell ⟨G6, y * 3 + 1, none⟩ (.string (nu 1))).setCell ⟨G6, y * 3 + 2, none⟩ (.string (de 1)))) := HPW.out
      generalize sgn 1 = on at *
      generalize nu 1 = ox at *
      generalize de 1 = oy at *
      clear HE HK HPW hb7 c0
      go_wp2
      go_roundw
      case rel => exact ⟨t + 1, by omega, by go_num, HPW2⟩
      case measure => simp [intOf]; omega
    · obtain rfl : t = S.length := by omega
      go_wp2
      go_ret2
      exact ⟨G6, rfl, HG6.out, HK.out.row, HK.out.bel⟩
end Go.Proofs.YtbejijgelljeaaaGreatDoor


/- The law's comes: all states that are come to from one. -/
namespace Go.Proofs.YtbejijgelljeaaaGreatDoor
open Go.RowKit Go.Shelf

theorem rMulQ (p q : Rat) (U : World) (hp : qw p ≤ 50000) (hq : qw q ≤ 50000) : Calls Tryz.prog 14 #[.agg #[.bool (qF p).1, .string (qF p).2.1, .string (qF p).2.2], .agg #[.bool (qF q).1, .string (qF q).2.1, .string (qF q).2.2]] U fun e w' => e = .returned (.agg #[.bool (qF (p * q)).1, .string (qF (p * q)).2.1, .string (qF (p * q)).2.2]) ∧ Below U.heap.size U w' := by
  have h := rMulF_any (sgn p) (sgn q) (nu p) (de p) (nu q) (de q) U (by rw [own_size]; exact hp) (by rw [own_size]; exact hq)
  rw [val_own, val_own] at h
  exact h
theorem rAddQ (p q : Rat) (U : World) (hp : qw p ≤ 50000) (hq : qw q ≤ 50000) : Calls Tryz.prog 13 #[.agg #[.bool (qF p).1, .string (qF p).2.1, .string (qF p).2.2], .agg #[.bool (qF q).1, .string (qF q).2.1, .string (qF q).2.2]] U fun e w' => e = .returned (.agg #[.bool (qF (p + q)).1, .string (qF (p + q)).2.1, .string (qF (p + q)).2.2]) ∧ Below U.heap.size U w' := by
  have h := rAddF_any (sgn p) (sgn q) (nu p) (de p) (nu q) (de q) U (by rw [own_size]; exact hp) (by rw [own_size]; exact hq)
  rw [val_own, val_own] at h
  exact h
theorem rCmpQ (p q : Rat) (U : World) (hp : qw p ≤ 50000) (hq : qw q ≤ 50000) : Calls Tryz.prog 15 #[.agg #[.bool (qF p).1, .string (qF p).2.1, .string (qF p).2.2], .agg #[.bool (qF q).1, .string (qF q).2.1, .string (qF q).2.2]] U fun e w' => e = .returned (.int .i64 (cmpQ p q)) ∧ Below U.heap.size U w' := by
  have h := rCmpF_any (sgn p) (sgn q) (nu p) (de p) (nu q) (de q) U (by rw [own_size]; exact hp) (by rw [own_size]; exact hq)
  rw [val_own, val_own] at h
  exact h
/-- What the walk has come to, of which the first k are done, of the next one all ways ahead of j. -/
structure BfS (n : Nat) (P : Nat → Nat → Rat) (i : Nat) (S : List Nat) (L : List Nat) (k j : Nat) : Prop where
  nd : L.Nodup
  lt : ∀ x ∈ L, x < n
  cm : ∀ x ∈ L, cmsB n P i x = true
  me : i ∈ L
  off : ∀ t (h : t < L.length), t < k → L[t] ∉ S
  shut : ∀ t (h : t < L.length), t < k → ∀ y, y < n → 0 < P L[t] y → y ∈ L
  cur : ∀ (h : k < L.length) (y : Nat), y < j → y < n → 0 < P L[k] y → y ∈ L
theorem BfS.start {n : Nat} {P : Nat → Nat → Rat} {i : Nat} (S : List Nat) (hi : i < n) : BfS n P i S [i] 0 0 := ⟨by simp, fun x hx => by rw [List.mem_singleton.1 hx]; exact hi, fun x hx => by rw [List.mem_singleton.1 hx]; exact cms_self _ _ _, List.mem_singleton.2 rfl, fun t _ h => absurd h (by omega), fun t _ h => absurd h (by omega), fun _ y h => absurd h (by omega)⟩
theorem BfS.push {n : Nat} {P : Nat → Nat → Rat} {i : Nat} {S L : List Nat} {k j : Nat} (h : BfS n P i S L k j) (hk : k < L.length) (hj : j < n) (hp : 0 < P L[k] j) (hn : j ∉ L) : BfS n P i S (L ++ [j]) k (j + 1) := by
  refine ⟨?_, fun x hx => ?_, fun x hx => ?_, List.mem_append_left _ h.me, fun t ht htk => ?_, fun t ht htk y hy hpy => ?_, fun hk' y hy hyn hpy => ?_⟩
  · rw [List.nodup_append]
    exact ⟨h.nd, by simp, fun x hx y hy e => hn (by rw [← List.mem_singleton.1 hy, ← e]; exact hx)⟩
  · rcases List.mem_append.1 hx with hx | hx
    · exact h.lt x hx
    · rw [List.mem_singleton.1 hx]; exact hj
  · rcases List.mem_append.1 hx with hx | hx
    · exact h.cm x hx
    · rw [List.mem_singleton.1 hx]
      exact cms_trans (h.lt _ (List.getElem_mem hk)) (h.cm _ (List.getElem_mem hk)) (cms_step n P hp)
  · rw [List.getElem_append_left (by omega)]
    exact h.off t (by omega) htk
  · rw [List.getElem_append_left (by omega)] at hpy
    exact List.mem_append_left _ (h.shut t (by omega) htk y hy hpy)
  · rw [List.getElem_append_left hk] at hpy
    by_cases e : y = j
    · subst e; exact List.mem_append_right _ (List.mem_singleton.2 rfl)
    · exact List.mem_append_left _ (h.cur hk y (by omega) hyn hpy)
theorem BfS.pass {n : Nat} {P : Nat → Nat → Rat} {i : Nat} {S L : List Nat} {k j : Nat} (h : BfS n P i S L k j) (hn : ∀ (hk : k < L.length), 0 < P L[k] j → j ∈ L) : BfS n P i S L k (j + 1) := ⟨h.nd, h.lt, h.cm, h.me, h.off, h.shut, fun hk y hy hyn hp => by
  by_cases e : y = j
  · subst e; exact hn hk hp
  · exact h.cur hk y (by omega) hyn hp⟩
theorem BfS.next {n : Nat} {P : Nat → Nat → Rat} {i : Nat} {S L : List Nat} {k : Nat} (h : BfS n P i S L k n) (hk : k < L.length) (hs : L[k] ∉ S) : BfS n P i S L (k + 1) 0 := ⟨h.nd, h.lt, h.cm, h.me, fun t ht htk => by
  by_cases e : t = k
  · subst e; exact hs
  · exact h.off t ht (by omega), fun t ht htk y hy hp => by
  by_cases e : t = k
  · subst e; exact h.cur hk y hy hy hp
  · exact h.shut t ht (by omega) y hy hp, fun _ y hy => absurd hy (by omega)⟩
theorem BfS.none {n : Nat} {P : Nat → Nat → Rat} {i : Nat} {S L : List Nat} (h : BfS n P i S L L.length 0) (hi : i < n) (hS : ∀ x ∈ S, x < n) : S.any (cmsB n P i) = false := by
  rw [List.any_eq_false]
  intro x hx hc
  have hm := cms_shut (S := fun y => y ∈ L) (fun a b _ hb ha hp => by
    obtain ⟨t, ht, e⟩ := List.mem_iff_getElem.1 ha
    exact h.shut t ht ht b hb (by rw [e]; exact hp)) hi (hS x hx) h.me hc
  obtain ⟨t, ht, e⟩ := List.mem_iff_getElem.1 hm
  exact h.off t ht ht (by rw [e]; exact hx)
theorem BfS.yes {n : Nat} {P : Nat → Nat → Rat} {i : Nat} {S L : List Nat} {k j : Nat} (h : BfS n P i S L k j) (hk : k < L.length) (hs : L[k] ∈ S) : S.any (cmsB n P i) = true := List.any_eq_true.2 ⟨_, hs, h.cm _ (List.getElem_mem hk)⟩
theorem inB_chn (x : Nat) (L : List Nat) : inB (x : Int) (iL L) = decide (x ∈ L) := (inB_iL L (by omega)).trans (by simp)

set_option maxRecDepth 100000 in
set_option maxHeartbeats 4000000 in
theorem lwComes_any (a b : Option Addr) (ca cb n i : Nat) (P : Nat → Nat → Rat) (S : List Nat) (w : World) (hR : FsS w a (mR n P)) (hS : IntS w b (iL S)) (hm : ChM n P) (hs : ∀ x ∈ S, x < n) (hl : S.length ≤ 1000) (hi : i < n) :
    Calls Tryz.prog 16 #[.slice a n ca, .int .i64 (i : Nat), .slice b S.length cb] w fun e w' => e = .returned (.bool (S.any (cmsB n P i))) ∧ Below w.heap.size w w' := by
  have h5 := hm.five
  have HR := hid hR
  have HV := hid hS
  have HSN := hid hs
  have HFIT := hid hm.fit
  have HO0 := hid (fun V : World => rOf_zero V)
  clear hR hS hm hs
  have HI0 : Hid (RwI (w.alloc (.cells #[.int .i64 (i : Nat)] 3)) w.heap.size (.slice (some ⟨w.heap.size, 0, none⟩) 1 1) (iL [i])) := World.ownsRow_lit w #[.int .i64 (i : Nat)] 1 (Nat.le_refl _) (by decide) rfl
  have HB0 := hid ((Below.refl w.heap.size w).alloc (Nat.le_refl _) (.cells #[.int .i64 (i : Nat)] 3))
  go_enter Tryz.func16, Tryz.ntmps16
  go_wp2_with fail
  generalize (w.alloc (.cells #[.int .i64 (i : Nat)] 3)) = w1 at *
  go_loopw [7, 8] (fun lv kv wr => ∃ (k : Nat) (L : List Nat), kv = .int .i64 k ∧ k ≤ L.length ∧ Hid (BfS n P i S L k 0) ∧ Hid (RwI wr w.heap.size lv (iL L)) ∧ Hid (Below w.heap.size w wr)) (fun _ kv _ => n - (intOf kv).toNat)
  case atStart => exact ⟨0, [i], rfl, Nat.zero_le _, BfS.start S hi, HI0, HB0⟩
  case round =>
    obtain ⟨k, L, rfl, hkl, HF, HRI, HB⟩ := hrel
    clear HI0 HB0
    obtain ⟨dl, cl, rfl, hii⟩ := RwI.ints HRI.out
    rw [iL_length] at HRI ⊢
    by_cases hkL : k < L.length
    · have hki : k < (iL L).length := by rw [iL_length]; exact hkL
      obtain ⟨gl, ol, rfl, hgl, c0⟩ := hii k hki
      rw [iL_get hkL] at c0
      have hlkn := HF.out.lt _ (List.getElem_mem hkL)
      have hLn := nod_most HF.out.nd HF.out.lt
      have HINK := hid (rIn_any ((L[k] : Nat) : Int) b cb (iL S) wr (HV.out.below HB.out) (by rw [iL_length]; omega))
      rw [inB_chn, iL_length] at HINK
      obtain ⟨lk, hlk⟩ : ∃ x, L[k] = x := ⟨_, rfl⟩
      have HLK0 := hid hlk
      rw [hlk] at c0 HINK hlkn
      clear hlk hii
      go_wp2_with fail
      refine HINK.out.mono ?_
      rintro e w2 ⟨rfl, rfl⟩
      by_cases hin : lk ∈ S
      · have HY := hid (HF.out.yes hkL (by rw [HLK0.out]; exact hin))
        rw [decide_eq_true hin]
        go_wp2
        go_ret
        exact ⟨by rw [HY.out]; rfl, HB.out⟩
      · have HNI : Hid (lk ∉ S) := hin
        rw [decide_eq_false hin]
        clear hin c0 hgl
        have HLQ0 : Hid (L[k]? = some lk) := by show _ = _; rw [List.getElem?_eq_getElem hkL, HLK0.out]
        go_wp2_with fail
        go_loopw [7, 9] (fun lv jv wr => ∃ (j : Nat) (L : List Nat), j ≤ n ∧ jv = .int .i64 j ∧ Hid (BfS n P i S L k j) ∧ Hid (L[k]? = some lk) ∧ Hid (RwI wr w.heap.size lv (iL L)) ∧ Hid (Below w.heap.size w wr)) (fun _ jv _ => n - (intOf jv).toNat)
        case atStart => exact ⟨0, L, Nat.zero_le _, rfl, HF, HLQ0, HRI, HB⟩
        case round =>
          clear HF HRI HB HINK HLK0 hkL hLn hkl hki HLQ0
          obtain ⟨j, L, hj, rfl, HF, HLL, HRI, HB⟩ := hrel
          obtain ⟨hkL, hLKe⟩ := List.getElem?_eq_some_iff.1 HLL.out
          obtain ⟨dl, cl, rfl, hii⟩ := RwI.ints HRI.out
          rw [iL_length] at HRI ⊢
          have hLn := nod_most HF.out.nd HF.out.lt
          have HLK := hid hLKe
          by_cases hlj : j < n
          · have hki : k < (iL L).length := by rw [iL_length]; exact hkL
            obtain ⟨gl, ol, rfl, hgl, c0⟩ := hii k hki
            rw [iL_get hkL, hLKe] at c0
            obtain ⟨g, o, gr, or_, cr, hae, hg, hgr, x0, x1, x2, x3⟩ := (HR.out.below HB.out).at hlkn hlj
            subst hae
            have hpl : qw (P lk j) ≤ 50000 := by have := fits_qw (HFIT.out lk j hlkn hlj); omega
            have HCM : Hid (∀ U : World, Calls Tryz.prog 15 #[.agg #[.bool (qF (P lk j)).1, .string (qF (P lk j)).2.1, .string (qF (P lk j)).2.2], .agg #[.bool (sgn 0), .string (nu 0), .string (de 0)]] U fun e w' => e = .returned (.int .i64 (cmpQ (P lk j) 0)) ∧ Below U.heap.size U w') := fun U => rCmpQ (P lk j) 0 U hpl (by have := qw_zero; omega)
            have HIN : Hid (∀ U : World, Below wr.heap.size wr U → Calls Tryz.prog 12 #[.int .i64 (j : Nat), .slice (some ⟨gl, ol, none⟩) L.length cl] U fun e w' => e = .returned (.bool (decide (j ∈ L))) ∧ w' = U) := fun U hU => by
              have h := rIn_any ((j : Nat) : Int) (some ⟨gl, ol, none⟩) cl (iL L) U (hii.below hU) (by rw [iL_length]; omega)
              rw [inB_chn, iL_length] at h
              exact h
            obtain ⟨bv, hbv⟩ : ∃ b, decide (0 < cmpQ (P lk j) 0) = b := ⟨_, rfl⟩
            have HNO : Hid (bv = false → ¬ 0 < P lk j) := fun e hp => by rw [e] at hbv; exact of_decide_eq_false hbv (cmpQ_pos.2 hp)
            have HYE : Hid (bv = true → 0 < P lk j) := fun e => by rw [e] at hbv; exact cmpQ_pos.1 (of_decide_eq_true hbv)
            have HBV := hid hbv
            clear hbv hpl
            generalize cmpQ (P lk j) 0 = cv at *
            generalize hzz : qF (P lk j) = zz at *
            obtain ⟨an, ax, ay⟩ := zz
            simp only at x1 x2 x3 HCM
            obtain ⟨iv, hiv⟩ : ∃ b, decide (j ∈ L) = b := ⟨_, rfl⟩
            have HIV := hid hiv
            rw [hiv] at HIN
            clear hiv hii hzz hLKe
            obtain ⟨m, hme⟩ : ∃ m, L.length = m := ⟨_, rfl⟩
            have HME := hid hme
            rw [hme] at hLn
            simp only [hme] at HIN HRI ⊢
            clear hme
            have hkm : k < m := by rw [← HME.out]; exact hkL
            generalize sgn 0 = zn at *
            generalize nu 0 = zx at *
            generalize de 0 = zy at *
            go_upto_region 10 with fail
            have HELD : Hid (∀ u, Below wr.heap.size wr u → u.cell? ⟨gl, ol + k, none⟩ = some (.int .i64 (lk : Nat)) ∧ u.cell? ⟨g, o + lk, none⟩ = some (.slice (some ⟨gr, or_, none⟩) n cr) ∧ u.cell? ⟨gr, or_ + j * 3, none⟩ = some (.bool an) ∧ u.cell? ⟨gr, or_ + j * 3 + 1, none⟩ = some (.string ax) ∧ u.cell? ⟨gr, or_ + j * 3 + 2, none⟩ = some (.string ay)) := fun u h => ⟨(h.cell (p := ⟨gl, _, none⟩) hgl).trans c0, (h.cell (p := ⟨g, _, none⟩) hg).trans x0, (h.cell (p := ⟨gr, _, none⟩) hgr).trans x1, (h.cell (p := ⟨gr, _, none⟩) hgr).trans x2, (h.cell (p := ⟨gr, _, none⟩) hgr).trans x3⟩
            have HU : Hid (Below wr.heap.size wr wr.drew) := (Below.refl _ _).drew
            clear c0 x0 x1 x2 x3
            refine wp_region_held_drew (S := fun u => u.cell? ⟨gl, ol + k, none⟩ = some (.int .i64 (lk : Nat)) ∧ u.cell? ⟨g, o + lk, none⟩ = some (.slice (some ⟨gr, or_, none⟩) n cr) ∧ u.cell? ⟨gr, or_ + j * 3, none⟩ = some (.bool an) ∧ u.cell? ⟨gr, or_ + j * 3 + 1, none⟩ = some (.string ax) ∧ u.cell? ⟨gr, or_ + j * 3 + 2, none⟩ = some (.string ay)) (by kernel_rfl) (HELD.out _ HU.out) (fun hSd => ?_)
            generalize wr.drew = u0 at *
            refine wpAnyH_take (i := 0) (oi := _) (v := .slice (some ⟨g, o, none⟩) n ca) rfl (by kernel_rfl) (by kernel_rfl) (by kernel_rfl) (fun _ _ _ h => h) (Or.inl ⟨by rfl, ?_⟩) (by assumption) ?_
            · intro u' hSu
              (try simp only [List.getElem_toArray, List.getElem_cons_zero])
              go_simp
            (try simp only [List.getElem_toArray, List.getElem_cons_zero])
            (try simp only [Act.put, List.setIfInBounds_toArray, List.set_cons_zero, List.set_cons_succ])
            refine wpAnyH_take (i := 1) (oi := _) (v := .slice (some ⟨gl, ol, none⟩) m cl) rfl (by kernel_rfl) (by kernel_rfl) (by kernel_rfl) (fun _ _ _ h => h) (Or.inl ⟨by rfl, ?_⟩) (by assumption) ?_
            · intro u' hSu
              (try simp only [List.getElem_toArray, List.getElem_cons_zero, List.getElem_cons_succ])
              go_simp
            (try simp only [List.getElem_toArray, List.getElem_cons_zero, List.getElem_cons_succ])
            (try simp only [Act.put, List.setIfInBounds_toArray, List.set_cons_zero, List.set_cons_succ])
            refine wpAnyH_take (i := 2) (oi := _) (v := .int .i64 (k : Nat)) rfl (by kernel_rfl) (by kernel_rfl) (by kernel_rfl) (fun _ _ _ h => h) (Or.inl ⟨by rfl, ?_⟩) (by assumption) ?_
            · intro u' hSu
              (try simp only [List.getElem_toArray, List.getElem_cons_zero, List.getElem_cons_succ])
              go_simp
            (try simp only [List.getElem_toArray, List.getElem_cons_zero, List.getElem_cons_succ])
            (try simp only [Act.put, List.setIfInBounds_toArray, List.set_cons_zero, List.set_cons_succ])
            refine wpAnyH_take (i := 3) (oi := _) (v := .pointer (some ⟨gl, ol + k, none⟩)) rfl (by kernel_rfl) (by kernel_rfl) (by kernel_rfl) (fun _ _ _ h => h) (Or.inl ⟨by rfl, ?_⟩) (by assumption) ?_
            · intro u' hSu
              (try simp only [List.getElem_toArray, List.getElem_cons_zero, List.getElem_cons_succ])
              go_simp
            (try simp only [List.getElem_toArray, List.getElem_cons_zero, List.getElem_cons_succ])
            (try simp only [Act.put, List.setIfInBounds_toArray, List.set_cons_zero, List.set_cons_succ])
            refine wpAnyH_take (i := 4) (oi := _) (v := .int .i64 (lk : Nat)) rfl (by kernel_rfl) (by kernel_rfl) (by kernel_rfl) (fun _ _ _ h => h) (Or.inl ⟨by rfl, ?_⟩) (by assumption) ?_
            · intro u' hSu
              (try simp only [List.getElem_toArray, List.getElem_cons_zero, List.getElem_cons_succ])
              obtain ⟨s0, s1, s2, s3, s4⟩ := hSu
              go_simp
            (try simp only [List.getElem_toArray, List.getElem_cons_zero, List.getElem_cons_succ])
            (try simp only [Act.put, List.setIfInBounds_toArray, List.set_cons_zero, List.set_cons_succ])
            refine wpAnyH_take (i := 5) (oi := _) (v := .pointer (some ⟨g, o + lk, none⟩)) rfl (by kernel_rfl) (by kernel_rfl) (by kernel_rfl) (fun _ _ _ h => h) (Or.inl ⟨by rfl, ?_⟩) (by assumption) ?_
            · intro u' hSu
              (try simp only [List.getElem_toArray, List.getElem_cons_zero, List.getElem_cons_succ])
              go_simp
            (try simp only [List.getElem_toArray, List.getElem_cons_zero, List.getElem_cons_succ])
            (try simp only [Act.put, List.setIfInBounds_toArray, List.set_cons_zero, List.set_cons_succ])
            refine wpAnyH_take (i := 6) (oi := _) (v := .slice (some ⟨gr, or_, none⟩) n cr) rfl (by kernel_rfl) (by kernel_rfl) (by kernel_rfl) (fun _ _ _ h => h) (Or.inl ⟨by rfl, ?_⟩) (by assumption) ?_
            · intro u' hSu
              (try simp only [List.getElem_toArray, List.getElem_cons_zero, List.getElem_cons_succ])
              obtain ⟨s0, s1, s2, s3, s4⟩ := hSu
              go_simp
            (try simp only [List.getElem_toArray, List.getElem_cons_zero, List.getElem_cons_succ])
            (try simp only [Act.put, List.setIfInBounds_toArray, List.set_cons_zero, List.set_cons_succ])
            refine wpAnyH_take (i := 7) (oi := _) (v := .int .i64 (j : Nat)) rfl (by kernel_rfl) (by kernel_rfl) (by kernel_rfl) (fun _ _ _ h => h) (Or.inl ⟨by rfl, ?_⟩) (by assumption) ?_
            · intro u' hSu
              (try simp only [List.getElem_toArray, List.getElem_cons_zero, List.getElem_cons_succ])
              go_simp
            (try simp only [List.getElem_toArray, List.getElem_cons_zero, List.getElem_cons_succ])
            (try simp only [Act.put, List.setIfInBounds_toArray, List.set_cons_zero, List.set_cons_succ])
            refine wpAnyH_take (i := 8) (oi := _) (v := .pointer (some ⟨gr, or_ + j * 3, none⟩)) rfl (by kernel_rfl) (by kernel_rfl) (by kernel_rfl) (fun _ _ _ h => h) (Or.inl ⟨by rfl, ?_⟩) (by assumption) ?_
            · intro u' hSu
              (try simp only [List.getElem_toArray, List.getElem_cons_zero, List.getElem_cons_succ])
              go_simp
            (try simp only [List.getElem_toArray, List.getElem_cons_zero, List.getElem_cons_succ])
            (try simp only [Act.put, List.setIfInBounds_toArray, List.set_cons_zero, List.set_cons_succ])
            refine wpAnyH_take (i := 9) (oi := _) (v := .agg #[.bool an, .string ax, .string ay]) rfl (by kernel_rfl) (by kernel_rfl) (by kernel_rfl) (fun _ _ _ h => h) (Or.inl ⟨by rfl, ?_⟩) (by assumption) ?_
            · intro u' hSu
              (try simp only [List.getElem_toArray, List.getElem_cons_zero, List.getElem_cons_succ])
              obtain ⟨s0, s1, s2, s3, s4⟩ := hSu
              go_simp
            (try simp only [List.getElem_toArray, List.getElem_cons_zero, List.getElem_cons_succ])
            (try simp only [Act.put, List.setIfInBounds_toArray, List.set_cons_zero, List.set_cons_succ])
            refine wpAnyH_ready (rs := [10]) (by kernel_rfl) (by simp) (AllReadyH.cons rfl ?_ (AllReadyH.nil))
            · intro K' hK'
              (try simp only [List.getElem_toArray, List.getElem_cons_zero, List.getElem_cons_succ])
              go_simp
              refine (HO0.out _).mono ?_
              rintro e u1 ⟨rfl, hb⟩
              replace HU := hid (HU.out.trans (hb.mono HU.out.size))
              refine hK'.out _ _ (HELD.out _ HU.out) (fun hSe => ?_)
              clear hK' K' hSd hb
              have hSd := hSe
              clear hSe
              (try simp only [List.getElem_toArray, List.getElem_cons_zero, List.getElem_cons_succ])
              (try simp only [Act.put, List.setIfInBounds_toArray, List.set_cons_zero, List.set_cons_succ])
              refine wpAnyH_ready (rs := [11]) (by kernel_rfl) (by simp) (AllReadyH.cons rfl ?_ (AllReadyH.nil))
              · intro K' hK'
                (try simp only [List.getElem_toArray, List.getElem_cons_zero, List.getElem_cons_succ])
                go_simp
                refine (HCM.out _).mono ?_
                rintro e u2 ⟨rfl, hb⟩
                replace HU := hid (HU.out.trans (hb.mono HU.out.size))
                refine hK'.out _ _ (HELD.out _ HU.out) (fun hSe => ?_)
                clear hK' K' hSd hb
                have hSd := hSe
                clear hSe
                (try simp only [List.getElem_toArray, List.getElem_cons_zero, List.getElem_cons_succ])
                (try simp only [Act.put, List.setIfInBounds_toArray, List.set_cons_zero, List.set_cons_succ])
                cases bv with
                | false =>
                  refine wpAnyH_take (i := 12) (oi := _) (v := .bool false) rfl (by kernel_rfl) (by kernel_rfl) (by kernel_rfl) (fun _ _ _ h => h) (Or.inl ⟨by rfl, ?_⟩) (by assumption) ?_
                  · intro u' hSu
                    (try simp only [List.getElem_toArray, List.getElem_cons_zero, List.getElem_cons_succ])
                    go_simp
                    exact Int.not_lt.1 (of_decide_eq_false HBV.out)
                  (try simp only [List.getElem_toArray, List.getElem_cons_zero, List.getElem_cons_succ])
                  (try simp only [Act.put, List.setIfInBounds_toArray, List.set_cons_zero, List.set_cons_succ])
                  refine wpAnyH_take (i := 13) (oi := _) (v := .bool false) rfl (by kernel_rfl) (by kernel_rfl) (by kernel_rfl) (fun _ _ _ h => h) (Or.inl ⟨by rfl, ?_⟩) (by assumption) ?_
                  · intro u' hSu
                    (try simp only [List.getElem_toArray, List.getElem_cons_zero, List.getElem_cons_succ])
                    go_simp
                  (try simp only [List.getElem_toArray, List.getElem_cons_zero, List.getElem_cons_succ])
                  (try simp only [Act.put, List.setIfInBounds_toArray, List.set_cons_zero, List.set_cons_succ])
                  refine wpAnyH_take (i := 14) (oi := _) (v := undef) rfl (by kernel_rfl) (by kernel_rfl) (by kernel_rfl) (fun _ _ _ h => h) (Or.inr ⟨by rfl, rfl⟩) (by assumption) ?_
                  (try simp only [List.getElem_toArray, List.getElem_cons_zero, List.getElem_cons_succ])
                  (try simp only [Act.put, List.setIfInBounds_toArray, List.set_cons_zero, List.set_cons_succ])
                  refine wpAnyH_take (i := 15) (oi := _) (v := undef) rfl (by kernel_rfl) (by kernel_rfl) (by kernel_rfl) (fun _ _ _ h => h) (Or.inr ⟨by rfl, rfl⟩) (by assumption) ?_
                  (try simp only [List.getElem_toArray, List.getElem_cons_zero, List.getElem_cons_succ])
                  (try simp only [Act.put, List.setIfInBounds_toArray, List.set_cons_zero, List.set_cons_succ])
                  refine wpAnyH_take (i := 16) (oi := _) (v := undef) rfl (by kernel_rfl) (by kernel_rfl) (by kernel_rfl) (fun _ _ _ h => h) (Or.inr ⟨by rfl, rfl⟩) (by assumption) ?_
                  (try simp only [List.getElem_toArray, List.getElem_cons_zero, List.getElem_cons_succ])
                  (try simp only [Act.put, List.setIfInBounds_toArray, List.set_cons_zero, List.set_cons_succ])
                  refine wpAnyH_take (i := 17) (oi := _) (v := undef) rfl (by kernel_rfl) (by kernel_rfl) (by kernel_rfl) (fun _ _ _ h => h) (Or.inr ⟨by rfl, rfl⟩) (by assumption) ?_
                  (try simp only [List.getElem_toArray, List.getElem_cons_zero, List.getElem_cons_succ])
                  (try simp only [Act.put, List.setIfInBounds_toArray, List.set_cons_zero, List.set_cons_succ])
                  refine wpAnyH_take (i := 18) (oi := _) (v := .bool false) rfl (by kernel_rfl) (by kernel_rfl) (by kernel_rfl) (fun _ _ _ h => h) (Or.inl ⟨by rfl, ?_⟩) (by assumption) ?_
                  · intro u' hSu
                    (try simp only [List.getElem_toArray, List.getElem_cons_zero, List.getElem_cons_succ])
                    go_simp
                  (try simp only [List.getElem_toArray, List.getElem_cons_zero, List.getElem_cons_succ])
                  (try simp only [Act.put, List.setIfInBounds_toArray, List.set_cons_zero, List.set_cons_succ])
                  refine wpAnyH_done (by kernel_rfl) ?_ _
                  clear hSd
                  have HRN := hid (HRI.out.below HU.out)
                  have HBN := hid (HB.out.trans (HU.out.mono HB.out.size))
                  have HFN := hid (HF.out.pass fun _ hp => absurd (by rw [HLK.out] at hp; exact hp) (HNO.out rfl))
                  go_wp2
                  go_roundw
                  case rel => exact ⟨j + 1, L, by omega, by go_num, HFN, HLL, HRN, HBN⟩
                  case measure => simp [intOf]; omega
                | true =>
                  refine wpAnyH_take (i := 12) (oi := _) (v := .bool true) rfl (by kernel_rfl) (by kernel_rfl) (by kernel_rfl) (fun _ _ _ h => h) (Or.inl ⟨by rfl, ?_⟩) (by assumption) ?_
                  · intro u' hSu
                    (try simp only [List.getElem_toArray, List.getElem_cons_zero, List.getElem_cons_succ])
                    go_simp
                    exact of_decide_eq_true HBV.out
                  (try simp only [List.getElem_toArray, List.getElem_cons_zero, List.getElem_cons_succ])
                  (try simp only [Act.put, List.setIfInBounds_toArray, List.set_cons_zero, List.set_cons_succ])
                  refine wpAnyH_take (i := 13) (oi := _) (v := .bool true) rfl (by kernel_rfl) (by kernel_rfl) (by kernel_rfl) (fun _ _ _ h => h) (Or.inl ⟨by rfl, ?_⟩) (by assumption) ?_
                  · intro u' hSu
                    (try simp only [List.getElem_toArray, List.getElem_cons_zero, List.getElem_cons_succ])
                    go_simp
                  (try simp only [List.getElem_toArray, List.getElem_cons_zero, List.getElem_cons_succ])
                  (try simp only [Act.put, List.setIfInBounds_toArray, List.set_cons_zero, List.set_cons_succ])
                  refine wpAnyH_take (i := 14) (oi := _) (v := .int .i64 (j : Nat)) rfl (by kernel_rfl) (by kernel_rfl) (by kernel_rfl) (fun _ _ _ h => h) (Or.inl ⟨by rfl, ?_⟩) (by assumption) ?_
                  · intro u' hSu
                    (try simp only [List.getElem_toArray, List.getElem_cons_zero, List.getElem_cons_succ])
                    go_simp
                  (try simp only [List.getElem_toArray, List.getElem_cons_zero, List.getElem_cons_succ])
                  (try simp only [Act.put, List.setIfInBounds_toArray, List.set_cons_zero, List.set_cons_succ])
                  refine wpAnyH_take (i := 15) (oi := _) (v := .slice (some ⟨gl, ol, none⟩) m cl) rfl (by kernel_rfl) (by kernel_rfl) (by kernel_rfl) (fun _ _ _ h => h) (Or.inl ⟨by rfl, ?_⟩) (by assumption) ?_
                  · intro u' hSu
                    (try simp only [List.getElem_toArray, List.getElem_cons_zero, List.getElem_cons_succ])
                    go_simp
                  (try simp only [List.getElem_toArray, List.getElem_cons_zero, List.getElem_cons_succ])
                  (try simp only [Act.put, List.setIfInBounds_toArray, List.set_cons_zero, List.set_cons_succ])
                  refine wpAnyH_ready (rs := [16]) (by kernel_rfl) (by simp) (AllReadyH.cons rfl ?_ (AllReadyH.nil))
                  · intro K' hK'
                    (try simp only [List.getElem_toArray, List.getElem_cons_zero, List.getElem_cons_succ])
                    go_simp
                    refine (HIN.out _ HU.out).mono ?_
                    rintro e u3 ⟨rfl, rfl⟩
                    refine hK'.out _ _ (HELD.out _ HU.out) (fun hSe => ?_)
                    clear hK' K' hSd
                    have hSd := hSe
                    clear hSe
                    cases iv with
                    | true =>
                      (try simp only [List.getElem_toArray, List.getElem_cons_zero, List.getElem_cons_succ])
                      (try simp only [Act.put, List.setIfInBounds_toArray, List.set_cons_zero, List.set_cons_succ])
                      refine wpAnyH_take (i := 17) (oi := _) (v := .bool false) rfl (by kernel_rfl) (by kernel_rfl) (by kernel_rfl) (fun _ _ _ h => h) (Or.inl ⟨by rfl, ?_⟩) (by assumption) ?_
                      · intro u' hSu
                        (try simp only [List.getElem_toArray, List.getElem_cons_zero, List.getElem_cons_succ])
                        go_simp
                      (try simp only [List.getElem_toArray, List.getElem_cons_zero, List.getElem_cons_succ])
                      (try simp only [Act.put, List.setIfInBounds_toArray, List.set_cons_zero, List.set_cons_succ])
                      refine wpAnyH_take (i := 18) (oi := _) (v := .bool false) rfl (by kernel_rfl) (by kernel_rfl) (by kernel_rfl) (fun _ _ _ h => h) (Or.inl ⟨by rfl, ?_⟩) (by assumption) ?_
                      · intro u' hSu
                        (try simp only [List.getElem_toArray, List.getElem_cons_zero, List.getElem_cons_succ])
                        go_simp
                      (try simp only [List.getElem_toArray, List.getElem_cons_zero, List.getElem_cons_succ])
                      (try simp only [Act.put, List.setIfInBounds_toArray, List.set_cons_zero, List.set_cons_succ])
                      refine wpAnyH_done (by kernel_rfl) ?_ _
                      clear hSd
                      have HRN := hid (HRI.out.below HU.out)
                      have HBN := hid (HB.out.trans (HU.out.mono HB.out.size))
                      have HFN := hid (HF.out.pass fun _ _ => of_decide_eq_true HIV.out)
                      go_wp2
                      go_roundw
                      case rel => exact ⟨j + 1, L, by omega, by go_num, HFN, HLL, HRN, HBN⟩
                      case measure => simp [intOf]; omega
                    | false =>
                      (try simp only [List.getElem_toArray, List.getElem_cons_zero, List.getElem_cons_succ])
                      (try simp only [Act.put, List.setIfInBounds_toArray, List.set_cons_zero, List.set_cons_succ])
                      refine wpAnyH_take (i := 17) (oi := _) (v := .bool true) rfl (by kernel_rfl) (by kernel_rfl) (by kernel_rfl) (fun _ _ _ h => h) (Or.inl ⟨by rfl, ?_⟩) (by assumption) ?_
                      · intro u' hSu
                        (try simp only [List.getElem_toArray, List.getElem_cons_zero, List.getElem_cons_succ])
                        go_simp
                      (try simp only [List.getElem_toArray, List.getElem_cons_zero, List.getElem_cons_succ])
                      (try simp only [Act.put, List.setIfInBounds_toArray, List.set_cons_zero, List.set_cons_succ])
                      refine wpAnyH_take (i := 18) (oi := _) (v := .bool true) rfl (by kernel_rfl) (by kernel_rfl) (by kernel_rfl) (fun _ _ _ h => h) (Or.inl ⟨by rfl, ?_⟩) (by assumption) ?_
                      · intro u' hSu
                        (try simp only [List.getElem_toArray, List.getElem_cons_zero, List.getElem_cons_succ])
                        go_simp
                      (try simp only [List.getElem_toArray, List.getElem_cons_zero, List.getElem_cons_succ])
                      (try simp only [Act.put, List.setIfInBounds_toArray, List.set_cons_zero, List.set_cons_succ])
                      refine wpAnyH_done (by kernel_rfl) ?_ _
                      clear hSd
                      have HRN := hid (HRI.out.below HU.out)
                      have HBN := hid (HB.out.trans (HU.out.mono HB.out.size))
                      have HFN := hid (HF.out.push hkL hlj (by rw [HLK.out]; exact HYE.out rfl) (of_decide_eq_false HIV.out))
                      have HOWN := hid HRN.out.own
                      have HRA : Hid (RwI (u3.alloc (.cells #[.int .i64 (j : Nat)] 3)) w.heap.size _ (iL L)) := World.ownsRow.alloc HRN.out _
                      have HBA := hid (HBN.out.alloc HBN.out.size (.cells #[.int .i64 (j : Nat)] 3))
                      have HIA := hid (new_int u3 (j : Nat))
                      have HLA : Hid (iL (L ++ [j]) = iL L ++ [((j : Nat) : Int)]) := by show _ = _; rw [iL_append]; rfl
                      go_wp2_with (at_builtin; refine wpList_append_ints rfl _ _ rfl w.heap.size _ (iL L) [((j : Nat) : Int)] rfl HRA.out (some ⟨u3.heap.size, 0, none⟩) 1 rfl HIA.out (fun e => by cases e) (by rw [iL_length, HME.out]; simp; omega) HBA.out.size ?_; intro v' w3 hr3 hg3; have HB3 := hid (HBA.out.grown hg3 HBA.out.size HOWN.out); have HR3 : Hid (RwI w3 w.heap.size v' (iL (L ++ [j]))) := (by rw [HLA.out]; exact hr3))
                      go_roundw
                      case rel => exact ⟨j + 1, L ++ [j], by omega, by go_num, HFN, by show _ = _; rw [List.getElem?_append_left hkL]; exact HLL.out, HR3, HB3⟩
                      case measure => simp [intOf]; omega
          · obtain rfl : n = j := by omega
            have HFN := hid (HF.out.next hkL (by rw [HLK.out]; exact HNI.out))
            clear hii hLKe
            go_wp2
            go_roundw
            case rel => exact ⟨k + 1, L, by go_num, by omega, HFN, HRI, HB⟩
            case measure => simp [intOf]; omega
    · obtain rfl : k = L.length := by omega
      have HNN := hid (HF.out.none hi HSN.out)
      go_wp2
      go_ret
      exact ⟨by rw [HNN.out]; rfl, HB.out⟩
end Go.Proofs.YtbejijgelljeaaaGreatDoor


/- Nets: the number that a net has for a variable's value: likely of package net, rowAt of the document's answer. -/
namespace Go.Proofs.YtbejijgelljeaaaGreatDoor
open Go.RowKit Go.Shelf

theorem cnt_le_all {S : List Nat} (h : ∀ v, sz S v ≤ 4) {vs : List Nat} (hl : vs.length ≤ 8) : cnt S vs ≤ 65536 := cnt_small h hl
theorem pos_take_le {S : List Nat} (hp : ∀ v, sz S v ≤ 4) (f : Nat → Nat) (hf : ∀ u, f u < sz S u) {P : List Nat} (hl : P.length ≤ 8) (i : Nat) : pos S f (P.take i) ≤ 65536 := by
  have h1 := pos_lt f hf (P.take i)
  have h2 := cnt_small hp (vs := P.take i) (by rw [List.length_take]; omega)
  omega
/-- Where the number stands. -/
def likT (S : List Nat) (P : List Nat) (f : Nat → Nat) (v : Nat) : Nat := pos S f P * sz S v + f v
theorem likT_lt {S P : List Nat} {f : Nat → Nat} (hf : ∀ u, f u < sz S u) (v : Nat) : likT S P f v < cnt S P * sz S v := by
  have h1 := pos_lt f hf P
  have h2 := hf v
  rw [likT]
  calc pos S f P * sz S v + f v < pos S f P * sz S v + sz S v := by omega
    _ = (pos S f P + 1) * sz S v := by rw [Nat.add_mul, Nat.one_mul]
    _ ≤ cnt S P * sz S v := Nat.mul_le_mul_right _ h1

end Go.Proofs.YtbejijgelljeaaaGreatDoor


/- Nets: how likely all values are: joint of the document's answer. -/
namespace Go.Proofs.YtbejijgelljeaaaGreatDoor
open Go.RowKit Go.Shelf

/-- A net that may be. -/
structure NOK (V : List Vr) (L : List (List Int)) (R : List (List Fr)) : Prop where
  len : L.length = V.length
  lenR : R.length = V.length
  n8 : V.length ≤ 8
  fine : Fine (iL (sizesN V))
  up : ∀ v (h : v < L.length), Up L[v] V.length
  rows : ∀ v (h : v < L.length) (h' : v < R.length), R[v].length = cnt (sizesN V) (toN L[v]) * sz (sizesN V) v
theorem firstE_zero {f : Nat → Int} : ∀ {n : Nat}, firstE f n = 0 → ∀ j, j < n → f j = 0
  | 0, _, j, hj => by omega
  | n + 1, hz, j, hj => by
    rw [firstE] at hz
    by_cases e : firstE f n = 0
    · rw [if_pos e] at hz
      rcases Nat.lt_or_ge j n with h2 | h2
      · exact firstE_zero e j h2
      · obtain rfl : j = n := by omega
        exact hz
    · rw [if_neg e] at hz; exact absurd hz e
theorem netE_ok {V : List Vr} {L : List (List Int)} {R : List (List Fr)} (h : netE V L R = 0) : NOK V L R := by
  rw [netE] at h
  by_cases h1 : L.length = V.length ∧ R.length = V.length
  · rw [if_pos h1] at h
    by_cases h2 : gcE L = 0
    · rw [if_pos h2] at h
      by_cases h3 : varsE V = 0
      · rw [if_pos h3] at h
        obtain ⟨hf, h8, hu⟩ := fine_sizes h1.1 h2 h3
        refine ⟨h1.1, h1.2, by omega, hf, fun v hv => by rw [← h1.1]; exact hu v hv, fun v hv hr => ?_⟩
        have h4 := firstE_zero h v (by omega)
        rw [rowE, List.getD_eq_getElem?_getD, List.getElem?_eq_getElem hr, List.getD_eq_getElem?_getD, List.getElem?_eq_getElem hv] at h4
        by_cases h5 : R[v].length = cnt (sizesN V) (toN L[v]) * sz (sizesN V) v
        · exact h5
        · simp only [Option.getD_some] at h4
          rw [if_neg h5] at h4
          exact absurd h4 (by decide)
      · rw [if_neg h3] at h; exact absurd h h3
    · rw [if_neg h2] at h; exact absurd h h2
  · rw [if_neg h1] at h; exact absurd h (by decide)
/-- The number of a variable. -/
def likF (V : List Vr) (L : List (List Int)) (R : List (List Fr)) (f : Nat → Nat) (v : Nat) : Fr := celF (R.getD v []) (likT (sizesN V) (toN (L.getD v [])) f v)
/-- The product of the first. -/
def prodV (V : List Vr) (L : List (List Int)) (R : List (List Fr)) (f : Nat → Nat) : Nat → Rat
  | 0 => 1
  | k + 1 => prodV V L R f k * frQ (likF V L R f k)
theorem likF_eq {V : List Vr} {L : List (List Int)} {R : List (List Fr)} {f : Nat → Nat} {v : Nat} (hL : v < L.length) (hR : v < R.length) : likF V L R f v = celF R[v] (likT (sizesN V) (toN L[v]) f v) := by
  rw [likF, List.getD_eq_getElem?_getD, List.getElem?_eq_getElem hR, List.getD_eq_getElem?_getD, List.getElem?_eq_getElem hL]
  rfl
theorem prodV_zero {V : List Vr} {L : List (List Int)} {R : List (List Fr)} {f : Nat → Nat} {v : Nat} (h : frQ (likF V L R f v) = 0) : ∀ n, v < n → prodV V L R f n = 0
  | 0, hn => by omega
  | n + 1, hn => by
    rw [prodV]
    rcases Nat.lt_or_ge v n with h1 | h1
    · rw [prodV_zero h n h1, Rat.zero_mul]
    · obtain rfl : v = n := by omega
      rw [h, Rat.mul_zero]
theorem likF_size {V : List Vr} {L : List (List Int)} {R : List (List Fr)} {f : Nat → Nat} (hok : NOK V L R) (hf : ∀ u, f u < sz (sizesN V) u) (hw : ∀ l ∈ R, fw l ≤ 4200) {v : Nat} (hv : v < V.length) : (likF V L R f v).2.1.size + (likF V L R f v).2.2.size ≤ 4200 := by
  have hL : v < L.length := by rw [hok.len]; exact hv
  have hR : v < R.length := by rw [hok.lenR]; exact hv
  rw [likF_eq hL hR]
  have h1 := likT_lt (S := sizesN V) (P := toN L[v]) hf v
  rw [← hok.rows v hL hR] at h1
  have h2 := celF_size h1
  have h3 := hw R[v] (List.getElem_mem hR)
  omega
theorem prodV_size {V : List Vr} {L : List (List Int)} {R : List (List Fr)} {f : Nat → Nat} (hok : NOK V L R) (hf : ∀ u, f u < sz (sizesN V) u) (hw : ∀ l ∈ R, fw l ≤ 4200) : ∀ k, k ≤ V.length → qw (prodV V L R f k) ≤ 2 + k * 4201
  | 0, _ => qw_one2
  | k + 1, hk => by
    have h1 := prodV_size hok hf hw k (by omega)
    have h2 := likF_size hok hf hw (v := k) (by omega)
    have h3 := qw_val (likF V L R f k).1 (likF V L R f k).2.1 (likF V L R f k).2.2
    have h4 := qw_mul (prodV V L R f k) (frQ (likF V L R f k))
    rw [prodV, Nat.add_mul, Nat.one_mul]
    have h5 : qw (frQ (likF V L R f k)) ≤ 4201 := by
      show qw (val _ _ _) ≤ 4201
      omega
    omega
theorem C_flds (q : Rat) : C q = .agg #[.bool (sgn q), .string (nu q), .string (de q)] := rfl
end Go.Proofs.YtbejijgelljeaaaGreatDoor


/- Nets: Joint of the document's answer. -/
namespace Go.Proofs.YtbejijgelljeaaaGreatDoor
open Go.RowKit Go.Shelf

def allI (n : Nat) : List Int := iL (List.range n)
theorem allI_length (n : Nat) : (allI n).length = n := by simp [allI, iL]
/-- What Joint answers: the error. -/
def jE (V : List Vr) (L : List (List Int)) (R : List (List Fr)) (at_ : List Int) : Int := if netE V L R = 0 then (indexA (iL (sizesN V)) (allI V.length) at_).2 else netE V L R
/-- What Joint answers: the number. -/
def jF (V : List Vr) (L : List (List Int)) (R : List (List Fr)) (at_ : List Int) : Fr := if jE V L R at_ = 0 then qF (prodV V L R (fun u => (toN at_).getD u 0) V.length) else (false, ⟨#[]⟩, ⟨#[]⟩)
theorem index_zero {sizes vars l : List Int} (h : (indexA sizes vars l).2 = 0) : l.length = vars.length ∧ ∀ i, i < vars.length → valB (toN sizes) (toN vars) l i = true := by
  rw [indexA] at h
  by_cases h1 : countB sizes vars = true
  · rw [if_pos h1] at h
    by_cases h2 : l.length = vars.length
    · rw [if_pos h2] at h
      by_cases h3 : (List.range vars.length).all (valB (toN sizes) (toN vars) l) = true
      · exact ⟨h2, fun i hi => List.all_eq_true.1 h3 i (List.mem_range.2 hi)⟩
      · rw [if_neg h3] at h; exact absurd h (by decide)
    · rw [if_neg h2] at h; exact absurd h (by decide)
  · rw [if_neg h1] at h; exact absurd h (by decide)
/-- Values that Index takes are values. -/
theorem at_fit {V : List Vr} {at_ : List Int} (hS : Fine (iL (sizesN V))) (h : (indexA (iL (sizesN V)) (allI V.length) at_).2 = 0) :
    at_.length = V.length ∧ iL (toN at_) = at_ ∧ (∀ u, (toN at_).getD u 0 < sz (sizesN V) u) ∧ ∀ u, u < V.length → (toN at_)[u]? = some ((toN at_).getD u 0) := by
  obtain ⟨h1, h2⟩ := index_zero h
  rw [allI_length] at h1 h2
  have hp := hS.pos
  rw [toN_iL] at hp
  have hv : ∀ i (hi : i < at_.length), 0 ≤ at_[i] ∧ at_[i] < (sz (sizesN V) i : Int) := fun i hi => by
    have := h2 i (by omega)
    rw [valB, decide_eq_true_iff, toN_iL, allI, toN_iL, getD_eq hi, List.getD_eq_getElem?_getD, List.getElem?_range (by omega)] at this
    exact this
  refine ⟨h1, ?_, fun u => ?_, fun u hu => ?_⟩
  · apply List.ext_getElem
    · simp [iL, toN]
    · intro i h3 h4
      have := hv i h4
      simp only [iL, toN, List.getElem_map]
      omega
  · by_cases hu : u < at_.length
    · rw [List.getD_eq_getElem?_getD, List.getElem?_eq_getElem (by rw [toN_length]; exact hu), Option.getD_some, toN_get hu]
      have := hv u hu
      omega
    · rw [List.getD_eq_getElem?_getD, List.getElem?_eq_none (by rw [toN_length]; omega)]
      exact sz_pos hp u
  · rw [List.getD_eq_getElem?_getD, List.getElem?_eq_getElem (by rw [toN_length]; omega)]
    rfl

end Go.Proofs.YtbejijgelljeaaaGreatDoor


/- Nets: Given of the document's answer. -/
namespace Go.Proofs.YtbejijgelljeaaaGreatDoor
open Go.RowKit Go.Shelf

/-- A variable and what it hangs on. -/
def gU (L : List (List Int)) (v : Nat) : List Int := togL (L.getD v []) [(v : Int)]
/-- Given's cells. -/
def gL (V : List Vr) (L : List (List Int)) (R : List (List Fr)) (v : Nat) : List Fr := (List.range (cnt (sizesN V) (toN (gU L v)))).map fun K => qF (frQ (likF V L R (asg (sizesN V) (toN (gU L v)) K) v))
theorem up_one {v n : Nat} (h : v < n) : Up [(v : Int)] n := up_iff.2 ⟨fun x hx => by have := List.mem_singleton.1 hx; omega, List.pairwise_singleton _ _⟩
theorem inB_one (i v : Nat) : inB (i : Int) [(v : Int)] = ((i : Int) == (v : Int)) := by
  rw [Bool.eq_iff_iff, inB_mem, beq_iff_eq]
  simp
end Go.Proofs.YtbejijgelljeaaaGreatDoor

