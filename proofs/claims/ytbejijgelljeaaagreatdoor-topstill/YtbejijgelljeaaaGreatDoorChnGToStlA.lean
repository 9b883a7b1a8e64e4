/- Hits of package chain. -/
import Derived.Test.YtbejijgelljeaaaGreatDoorChnFOwn
import Derived.Test.YtbejijgelljeaaaGreatDoorChnDOwn
namespace Go.Proofs.YtbejijgelljeaaaGreatDoor
open Go.RowKit Go.Shelf

theorem opN_mem {n : Nat} {e : Nat → Nat → Bool} {S : List Nat} {i : Nat} : i ∈ opN n e S ↔ i < n ∧ (∃ j ∈ S, e i j = true) ∧ i ∉ S := by
  rw [opN, List.mem_filter, List.mem_range, opB, Bool.and_eq_true, List.any_eq_true, Bool.not_eq_true', List.any_eq_false]
  constructor
  · rintro ⟨h1, h2, h3⟩
    exact ⟨h1, h2, fun h => h3 i h (by simp)⟩
  · rintro ⟨h1, h2, h3⟩
    exact ⟨h1, h2, fun x hx h => h3 (by rw [of_decide_eq_true h]; exact hx)⟩
theorem opN_nodup (n : Nat) (e : Nat → Nat → Bool) (S : List Nat) : (opN n e S).Nodup := List.Pairwise.filter _ List.nodup_range
theorem lsm_const : ∀ l : List Nat, lsm (fun _ => 1) l = (l.length : Rat)
  | [] => rfl
  | x :: l => by rw [lsm, lsm_const l, List.length_cons, Rat.natCast_add, Rat.add_comm]; rfl
theorem sumR_const : ∀ n : Nat, sumR (fun _ => 1) n = (n : Rat)
  | 0 => rfl
  | n + 1 => by rw [sumR, sumR_const n, Rat.natCast_add]; rfl
theorem nod_most {n : Nat} {l : List Nat} (h : l.Nodup) (hl : ∀ x ∈ l, x < n) : l.length ≤ n := by
  have h1 := lsm_le (n := n) (f := fun _ => 1) (fun _ _ => by decide) h hl
  rw [lsm_const, sumR_const] at h1
  exact_mod_cast h1
theorem sprQ_on {l : List Nat} {x : Nat → Rat} (hn : l.Nodup) : ∀ {m k : Nat}, m ≤ l.length → k < m → sprQ l x m (l.getD k 0) = x k
  | m + 1, k, hm, hk => by
    show (if l.getD k 0 = l.getD m 0 then x m else _) = _
    by_cases e : k = m
    · rw [e, if_pos rfl]
    · rw [if_neg fun h => e ?_]
      · exact sprQ_on hn (by omega) (by omega)
      · have h1 : l.getD k 0 = l[k]'(by omega) := by rw [List.getD_eq_getElem?_getD, List.getElem?_eq_getElem (by omega)]; rfl
        have h2 : l.getD m 0 = l[m]'(by omega) := by rw [List.getD_eq_getElem?_getD, List.getElem?_eq_getElem (by omega)]; rfl
        exact nodup_at hn (by omega) (by omega) (by rw [← h1, ← h2]; exact h)
theorem sprQ_off {l : List Nat} {x : Nat → Rat} {i : Nat} (hi : i ∉ l) : ∀ {m : Nat}, m ≤ l.length → sprQ l x m i = 0
  | 0, _ => rfl
  | m + 1, hm => by
    show (if i = l.getD m 0 then x m else _) = _
    rw [if_neg fun h => hi (by rw [h]; exact getD_mem (by omega))]
    exact sprQ_off hi (by omega)
/-- What Hits answers. -/
def hitQ (n : Nat) (P : Nat → Nat → Rat) (S : List Nat) (t i : Nat) : Rat := if i ∈ S.take t then 1 else sprQ (opN n (cmsB n P) S) (fun k => elm (hM P (opN n (cmsB n P) S) S) (opN n (cmsB n P) S).length k (opN n (cmsB n P) S).length) (opN n (cmsB n P) S).length i
theorem hM_wt {n : Nat} {P : Nat → Nat → Rat} {S : List Nat} (hc : Chn n P) (hS : ∀ x ∈ S, x < n) : Wt (opN n (cmsB n P) S).length 0 (hM P (opN n (cmsB n P) S) S) :=
  wt_hits hc (opN_nodup _ _ _) (fun x hx => (opN_mem.1 hx).1) (fun x hx => by
    obtain ⟨_, ⟨j, hj, hc⟩, _⟩ := opN_mem.1 hx
    exact ⟨j, hS j hj, fun e => (opN_mem.1 e).2.2 hj, hc⟩) fun k _ c hc' => if_pos hc'
theorem hit_sol {P : Nat → Nat → Rat} {l S : List Nat} {x : Nat → Rat} (h : Sol l.length (hM P l S) x) {k : Nat} (hk : k < l.length) : x k = sumR (fun c => P (l.getD k 0) (l.getD c 0) * x c) l.length + lsm (P (l.getD k 0)) S := by
  have h1 := h k hk
  have e1 : hM P l S k l.length = 0 - lsm (P (l.getD k 0)) S := if_neg (Nat.lt_irrefl _)
  have e2 : sumR (fun j => hM P l S k j * x j) l.length = sumR (fun c => P (l.getD k 0) (l.getD c 0) * x c) l.length - x k := by
    rw [← sumR_one x hk, ← sumR_sub]
    refine sumR_congr fun c hc' => ?_
    have e3 : hM P l S k c = P (l.getD k 0) (l.getD c 0) - (if k = c then 1 else 0) := if_pos hc'
    rw [e3]
    grind
  rw [e1, e2] at h1
  generalize sumR (fun c => P (l.getD k 0) (l.getD c 0) * x c) l.length = A at *
  generalize lsm (P (l.getD k 0)) S = B at *
  generalize x k = C at *
  clear e2 e1 h
  grind
theorem hit_of {n : Nat} {P : Nat → Nat → Rat} {S : List Nat} (hc : Chn n P) (hS : ∀ x ∈ S, x < n) (hd : S.Nodup) : Hit n P (opN n (cmsB n P) S) S (fun k => elm (hM P (opN n (cmsB n P) S) S) (opN n (cmsB n P) S).length k (opN n (cmsB n P) S).length) (hitQ n P S S.length) := by
  have hw := hM_wt hc hS
  have hsol := hw.solves
  refine ⟨hc, ?_, ?_, fun i hi => ?_, fun i hi hl hs j hj => ?_, fun k hk => ?_, fun k hk => ?_, fun j hj => ?_, fun j hj hl hs => ?_⟩
  · rw [List.nodup_append]
    exact ⟨opN_nodup _ _ _, hd, fun x hx y hy e => (opN_mem.1 hx).2.2 (by rw [e]; exact hy)⟩
  · intro y hy
    rcases List.mem_append.1 hy with h | h
    · exact (opN_mem.1 h).1
    · exact hS y h
  · obtain ⟨_, ⟨j, hj, h⟩, _⟩ := opN_mem.1 hi
    exact ⟨j, hj, h⟩
  · cases h : cmsB n P i j with
    | false => rfl
    | true => exact absurd (opN_mem.2 ⟨hi, ⟨j, hj, h⟩, hs⟩) hl
  · exact hit_sol hsol hk
  · have hm := getD_mem hk
    show (if _ ∈ _ then _ else _) = _
    rw [List.take_length, if_neg (opN_mem.1 hm).2.2]
    exact sprQ_on (opN_nodup _ _ _) (Nat.le_refl _) hk
  · show (if _ ∈ _ then _ else _) = _
    rw [List.take_length, if_pos hj]
  · show (if _ ∈ _ then _ else _) = _
    rw [List.take_length, if_neg hs]
    exact sprQ_off hl (Nat.le_refl _)
theorem opN_four {P : Nat → Nat → Rat} {n : Nat} {S : List Nat} (hn : n ≤ 5) (hS : ∀ x ∈ S, x < n) (hd : S.Nodup) : (opN n (cmsB n P) S).length ≤ 4 ∧ S.length ≤ 5 := by
  have h1 : ((opN n (cmsB n P) S) ++ S).Nodup := by
    rw [List.nodup_append]
    exact ⟨opN_nodup _ _ _, hd, fun x hx y hy e => (opN_mem.1 hx).2.2 (by rw [e]; exact hy)⟩
  have h2 := nod_most h1 fun x hx => by
    rcases List.mem_append.1 hx with h | h
    · exact (opN_mem.1 h).1
    · exact hS x h
  rw [List.length_append] at h2
  by_cases h : (opN n (cmsB n P) S).length = 0
  · omega
  · have h3 : ∃ x, x ∈ opN n (cmsB n P) S := List.exists_mem_of_length_pos (by omega)
    obtain ⟨x, hx⟩ := h3
    obtain ⟨_, ⟨j, hj, _⟩, _⟩ := opN_mem.1 hx
    have := List.length_pos_of_mem hj
    omega
theorem hitQ_fits {n : Nat} {P : Nat → Nat → Rat} {S : List Nat} (hn : n ≤ 5) (hc : Chn n P) (hf : ∀ i j, i < n → j < n → Fits 1 (P i j)) (hS : ∀ x ∈ S, x < n) (hd : S.Nodup) (t i : Nat) : Fits 3413 (hitQ n P S t i) := by
  have h4 := opN_four (P := P) hn hS hd
  have hw := hM_wt hc hS
  have hx : ∀ k, k < (opN n (cmsB n P) S).length → Fits 3413 (elm (hM P (opN n (cmsB n P) S) S) (opN n (cmsB n P) S).length k (opN n (cmsB n P) S).length) := fun k hk =>
    fits_up (elm_fits (b := 13) (fun i c hi _ => hM_fits hf (fun x hx => (opN_mem.1 hx).1) hS h4.2 i c hi) (fun j hj => by have := (hw.all j (by omega)).pivot hj; grind) _ (Nat.le_refl _) k _ hk (Nat.le_refl _)) (Nat.le_trans (bE_mono 13 h4.1) (by decide))
  show Fits 3413 (if _ ∈ _ then _ else _)
  by_cases h1 : i ∈ S.take t
  · rw [if_pos h1]; exact fits_up fits_one (by omega)
  · rw [if_neg h1]
    have key : ∀ m, m ≤ (opN n (cmsB n P) S).length → Fits 3413 (sprQ (opN n (cmsB n P) S) (fun k => elm (hM P (opN n (cmsB n P) S) S) (opN n (cmsB n P) S).length k (opN n (cmsB n P) S).length) m i) := fun m => by
      induction m with
      | zero => intro _; exact fits_up fits_zero (by omega)
      | succ m ih =>
        intro hm
        show Fits 3413 (if i = _ then _ else _)
        by_cases e : i = (opN n (cmsB n P) S).getD m 0
        · rw [if_pos e]; exact hx m (by omega)
        · rw [if_neg e]; exact ih (by omega)
    exact key _ (Nat.le_refl _)
/-- A chain in memory that may be. -/
structure ChM (n : Nat) (P : Nat → Nat → Rat) : Prop where
  one : 1 ≤ n
  five : n ≤ 5
  chn : Chn n P
  fit : ∀ i j, i < n → j < n → Fits 1 (P i j)
  ok : RwsOK n n (mR n P)
theorem ChM.lst {n : Nat} {P : Nat → Nat → Rat} (h : ChM n P) : ∀ i (hi : i < (mR n P).length), Lst n (P i) (mR n P)[i] := fun i hi => by
  have hi' : i < n := by rw [mR_length] at hi; exact hi
  rw [mR_get]
  exact Lst.mk' fun j hj => by have := fits_qw (h.fit i j hi' hj); omega
set_option maxRecDepth 100000 in
set_option maxHeartbeats 2000000 in
theorem chHits_any (a b : Option Addr) (ca cb n : Nat) (P : Nat → Nat → Rat) (S : List Nat) (w : World) (hR : FsS w a (mR n P)) (hS : IntS w b (iL S)) (hm : ChM n P) (hr : S.Pairwise (· < ·)) (hb : ∀ x ∈ S, x < n) :
    Calls Tryz.prog 10 #[.slice a n ca, .slice b S.length cb] w fun e w' => ∃ G, e = .returned (.tuple #[.slice (some ⟨G, 0, none⟩) n n, .int .i64 0]) ∧ w.heap.size ≤ G ∧ RowF w' G (lF n (hitQ n P S S.length)) ∧ Below w.heap.size w w' := by
  have hd : S.Nodup := hr.imp fun h => Nat.ne_of_lt h
  have h4 := opN_four (P := P) hm.five hb hd
  have h1 := hm.one
  have h5 := hm.five
  have hw := hM_wt hm.chn hb
  have HCK := hid (fun (U : World) (hU : FsS U a (mR n P)) => chCheck_yes a ca n (mR n P) U hU hm.ok h1 (by omega))
  have HRI := hid (fun (U : World) (hU : IntS U b (iL S)) => chRises_yes b cb n S U hU hr hb (by omega) (by omega))
  have HCO := hid (fun (U : World) (hU : FsS U a (mR n P)) => chComes_any a ca n (mR n P) P U hU (mR_length n P) hm.lst (by omega))
  have HCG := hid (fun (B G : Nat) (Rw : Nat → Nat) (U : World) (hM : BMt U B G n n Rw (cmsB n P)) (hU : IntS U b (iL S)) => chComing_any B G n cb Rw (cmsB n P) b S U hM hU hb (by omega) (by omega))
  have HHF := hid (fun (d : Option Addr) (cd : Nat) (U : World) (hU : FsS U a (mR n P)) (hl : IntS U d (iL (opN n (cmsB n P) S))) (hs : IntS U b (iL S)) => chHits_from a d b ca cd cb n (opN n (cmsB n P) S).length P (opN n (cmsB n P) S) S U hU hl hs rfl (fun x hx => (opN_mem.1 hx).1) hb (opN_nodup _ _ _) hm.fit (fun j hj => by have := (hw.all j (by omega)).pivot hj; grind) h4.1 h4.2)
  have HSP := hid (fun (d e : Option Addr) (cd ce : Nat) (U : World) (hl : IntS U d (iL (opN n (cmsB n P) S))) (x : Nat → Rat) (hx : FrS U e (lF (opN n (cmsB n P) S).length x)) => chSpread_any d e cd ce n (opN n (cmsB n P) S).length (opN n (cmsB n P) S) x U hl hx rfl (fun x hx => (opN_mem.1 hx).1) h1 (by omega) (by omega))
  have HH0 : Hid ((lF n (sprQ (opN n (cmsB n P) S) (fun k => elm (hM P (opN n (cmsB n P) S) S) (opN n (cmsB n P) S).length k (opN n (cmsB n P) S).length) (opN n (cmsB n P) S).length)) = lF n (hitQ n P S 0)) := lF_congr fun i _ => by
    show _ = if i ∈ S.take 0 then _ else _
    rw [if_neg (by simp)]
  have HO1 := hid (fun V : World => fOf_q (k := 1) (w := V) 1 1 rfl (by decide) (by rfl))
  have HHS : Hid (∀ t (ht : t < S.length), (lF n (hitQ n P S t)).set S[t] (qF 1) = lF n (hitQ n P S (t + 1))) := fun t ht => by
    rw [lF_set]
    refine lF_congr fun i _ => ?_
    show (if i = S[t] then 1 else if i ∈ S.take t then 1 else _) = if i ∈ S.take (t + 1) then 1 else _
    rw [List.take_succ_eq_append_getElem ht]
    by_cases e : i = S[t]
    · rw [if_pos e, if_pos (List.mem_append_right _ (List.mem_singleton.2 e))]
    · rw [if_neg e]
      by_cases e2 : i ∈ S.take t
      · rw [if_pos e2, if_pos (List.mem_append_left _ e2)]
      · rw [if_neg e2, if_neg fun h => (List.mem_append.1 h).elim e2 fun h => e (List.mem_singleton.1 h)]
  have HR := hid hR
  have HV := hid hS
  have HB := hid hb
  clear hR hS hr hb hd hw hm
  generalize hope : (opN n (cmsB n P) S) = op at *
  clear hope
  obtain ⟨h4, hS5⟩ := h4
  generalize hitQ n P S = hq at *
  generalize hxx : (fun k => elm (hM P op S) op.length k op.length) = xx at *
  clear hxx
  go_enter Tryz.func10, Tryz.ntmps10
  go_wp2_with fail
  refine (HCK.out _ HR.out).mono ?_
  rintro e w1 ⟨rfl, hb1⟩
  have HB1 := hid hb1
  clear hb1 HCK
  go_wp2_with fail
  refine (HRI.out _ (HV.out.below HB1.out)).mono ?_
  rintro e w2 ⟨rfl, hb2⟩
  have HB2 := hid (HB1.out.trans (hb2.mono HB1.out.size))
  clear hb2 HRI HB1
  go_wp2_with fail
  refine (HCO.out _ (HR.out.below HB2.out)).mono ?_
  rintro e w3 ⟨G, Rw, rfl, hm3, hb3⟩
  have HB3 := hid (HB2.out.trans (hb3.mono HB2.out.size))
  have HM3 := hid hm3
  clear hb3 hm3 HCO
  go_wp2_with fail
  refine (HCG.out _ G Rw _ HM3.out (HV.out.below HB3.out)).mono ?_
  rintro e w4 ⟨x, rfl, hr4, hb4⟩
  obtain ⟨d4, c4, rfl, hi4⟩ := RwI.ints hr4
  rw [iL_length] at hr4 ⊢
  have HB4 := hid (HB3.out.trans (hb4.mono HB3.out.size))
  have HI4 := hid hi4
  clear hb4 hi4 hr4 HCG HM3
  generalize op.length = m at *
  go_wp2_with fail
  refine (HHF.out d4 c4 _ (HR.out.below HB4.out) HI4.out (HV.out.below HB4.out)).mono ?_
  rintro e w5 ⟨S5, rfl, hS5', hr5, hb5⟩
  have HB5 := hid (HB4.out.trans (hb5.mono HB4.out.size))
  have HI5 := hid (HI4.out.below hb5)
  have HR5 := hid hr5
  clear hb5 hr5 hS5' HHF HI4
  go_wp2_with fail
  refine (HSP.out d4 (some ⟨S5, 0, none⟩) c4 m _ HI5.out xx HR5.out.fr).mono ?_
  rintro e w6 ⟨G6, rfl, hG6, hr6, hb6⟩
  rw [HH0.out] at hr6
  have HG6 : Hid (w.heap.size ≤ G6) := Nat.le_trans HB5.out.size hG6
  have HK0 : Hid (MF w G6 (lF n (hq 0)) w6) := ⟨hr6, HB5.out.trans (hb6.mono HB5.out.size)⟩
  clear hb6 hr6 hG6 HSP HR5 HI5 HH0
  go_wp2_with fail
  go_loopw [35] (fun iv wr => ∃ t : Nat, t ≤ S.length ∧ iv = .int .i64 t ∧ Hid (MF w G6 (lF n (hq t)) wr)) (fun iv _ => S.length - (intOf iv).toNat)
  case atStart => exact ⟨0, Nat.zero_le _, rfl, HK0⟩
  case round =>
    obtain ⟨t, ht, rfl, HK⟩ := hrel
    clear HK0
    by_cases hlt : t < S.length
    · have hti : t < (iL S).length := by rw [iL_length]; exact hlt
      obtain ⟨g, o, rfl, hg, c0⟩ := (HV.out.below HK.out.bel) t hti
      rw [iL_get hlt] at c0
      have hy := HB.out S[t] (List.getElem_mem hlt)
      have HE := hid (HHS.out t hlt)
      generalize S[t] = y at *
      go_wp2_with fail
      refine (HO1.out _).mono ?_
      rintro e w7 ⟨rfl, hb7⟩
      replace HK := hid (HK.out.step hb7)
      have HPW := hid (HK.out.put HG6.out y (qF 1))
      rw [HE.out] at HPW
      obtain ⟨k0, k1, k2⟩ := HK.out.row.cells y (by rw [lF_length]; exact hy)
      have f0 := HK.out.row.fz (y * 3)
      have f1 := HK.out.row.fz (y * 3 + 1)
      have f2 := HK.out.row.fz (y * 3 + 2)
      generalize (lF n (hq t))[y]'(by rw [lF_length]; exact hy) = z at *
      obtain ⟨zn, zx, zy⟩ := z
      simp only at k0 k1 k2
      have HPW2 : Hid (MF w G6 (lF n (hq (t + 1))) (((w7.setCell ⟨G6, y * 3, none⟩ (.bool (sgn 1))).setCell ⟨G6, y * 3 + 1, none⟩ (.string (nu 1))).setCell ⟨G6, y * 3 + 2, none⟩ (.string (de 1)))) := HPW.out
      generalize sgn 1 = on at *
      generalize nu 1 = ox at *
      generalize de 1 = oy at *
      clear HE HK HPW hb7 c0
      go_wp2
      go_roundw
      case rel => exact ⟨t + 1, by omega, by go_num, HPW2⟩
      case measure => simp [intOf]; omega
    · obtain rfl : t = S.length := by omega
      go_wp2
      go_ret2
      exact ⟨G6, rfl, HG6.out, HK.out.row, HK.out.bel⟩
end Go.Proofs.YtbejijgelljeaaaGreatDoor


/- Chains, plainly: what is still in a closed class. -/
namespace Go.Proofs.YtbejijgelljeaaaGreatDoor
/-- The equations of what is still. -/
def sM (P : Nat → Nat → Rat) (l : List Nat) (k c : Nat) : Rat := if k = l.length - 1 then 1 else if c < l.length then P (l.getD c 0) (l.getD k 0) - (if k = c then 1 else 0) else 0
def stX (P : Nat → Nat → Rat) (l : List Nat) (k : Nat) : Rat := elm (sM P l) l.length k l.length
/-- A class that nothing leaves. -/
structure Cls (n : Nat) (P : Nat → Nat → Rat) (l : List Nat) : Prop where
  nd : l.Nodup
  lt : ∀ x ∈ l, x < n
  ne : 1 ≤ l.length
  shut : ∀ x ∈ l, ∀ y, y < n → 0 < P x y → y ∈ l
  com : ∀ x ∈ l, ∀ y ∈ l, cmsB n P x y = true
theorem Cls.stl {n : Nat} {P : Nat → Nat → Rat} {l : List Nat} (h : Cls n P l) (hc : Chn n P) : Stl l.length 0 (sM P l) :=
  stl_class hc h.nd h.lt h.ne h.shut h.com (fun k hk c hcl => by
    show (if k = l.length - 1 then _ else _) = _
    rw [if_neg (by omega), if_pos hcl]) fun c _ => if_pos rfl
theorem Cls.piv {n : Nat} {P : Nat → Nat → Rat} {l : List Nat} (h : Cls n P l) (hc : Chn n P) : ∀ j, j < l.length → elm (sM P l) j j j ≠ 0 := fun j hj => by
  have hs := (h.stl hc).all j (by omega)
  by_cases e : j = l.length - 1
  · have h1 := hs.last j (Nat.le_refl _) hj
    rw [← e] at h1
    grind
  · have h1 := hs.wt.pivot (by omega)
    grind
theorem Cls.sol {n : Nat} {P : Nat → Nat → Rat} {l : List Nat} (h : Cls n P l) (hc : Chn n P) : Sol l.length (sM P l) (stX P l) := (h.stl hc).solves h.ne
theorem Cls.sum {n : Nat} {P : Nat → Nat → Rat} {l : List Nat} (h : Cls n P l) (hc : Chn n P) : sumR (stX P l) l.length = 1 := by
  have h1 := h.sol hc (l.length - 1) (by have := h.ne; omega)
  have e1 : sM P l (l.length - 1) l.length = 1 := if_pos rfl
  rw [e1, sumR_congr (g := stX P l) fun j _ => by
    have e2 : sM P l (l.length - 1) j = 1 := if_pos rfl
    rw [e2, Rat.one_mul]] at h1
  exact h1
theorem Cls.tot {n : Nat} {P : Nat → Nat → Rat} {l : List Nat} (h : Cls n P l) (hc : Chn n P) {k : Nat} (hk : k < l.length) : sumR (fun c => P (l.getD k 0) (l.getD c 0)) l.length = 1 := by
  have hm := getD_mem hk
  rw [lsm_at (P (l.getD k 0)) l, lsm_all (fun j hj => hc.low _ j (h.lt _ hm) hj) h.nd h.lt fun j hj hjl => ?_]
  · exact hc.one _ (h.lt _ hm)
  · have h0 := hc.low _ j (h.lt _ hm) hj
    by_cases e : 0 < P (l.getD k 0) j
    · exact absurd (h.shut _ hm j hj e) hjl
    · grind
theorem Cls.one {n : Nat} {P : Nat → Nat → Rat} {l : List Nat} (h : Cls n P l) (hc : Chn n P) {k : Nat} (hk : k < l.length - 1) : sumR (fun c => stX P l c * P (l.getD c 0) (l.getD k 0)) l.length = stX P l k := by
  have h1 := h.sol hc k (by omega)
  have e1 : sM P l k l.length = 0 := by
    show (if k = l.length - 1 then _ else if l.length < l.length then _ else _) = _
    rw [if_neg (by omega), if_neg (Nat.lt_irrefl _)]
  have e2 : sumR (fun j => sM P l k j * stX P l j) l.length = sumR (fun c => stX P l c * P (l.getD c 0) (l.getD k 0)) l.length - stX P l k := by
    rw [← sumR_one (stX P l) (show k < l.length by omega), ← sumR_sub]
    refine sumR_congr fun c hcl => ?_
    have e3 : sM P l k c = P (l.getD c 0) (l.getD k 0) - (if k = c then 1 else 0) := by
      show (if k = l.length - 1 then _ else if c < l.length then _ else _) = _
      rw [if_neg (by omega), if_pos hcl]
    rw [e3]
    grind
  rw [e1, e2] at h1
  generalize sumR (fun c => stX P l c * P (l.getD c 0) (l.getD k 0)) l.length = A at *
  generalize stX P l k = B at *
  clear e2 e1
  grind
theorem Cls.still {n : Nat} {P : Nat → Nat → Rat} {l : List Nat} (h : Cls n P l) (hc : Chn n P) {k : Nat} (hk : k < l.length) : sumR (fun c => stX P l c * P (l.getD c 0) (l.getD k 0)) l.length = stX P l k := by
  by_cases hk1 : k < l.length - 1
  · exact h.one hc hk1
  · obtain rfl : k = l.length - 1 := by omega
    obtain ⟨m, hm⟩ : ∃ m, l.length = m + 1 := ⟨l.length - 1, by omega⟩
    have e1 : sumR (fun k => sumR (fun c => stX P l c * P (l.getD c 0) (l.getD k 0)) l.length) l.length = 1 := by
      rw [sumR_swap, sumR_congr (g := stX P l) fun c hcl => ?_]
      · exact h.sum hc
      · rw [sumR_mul, h.tot hc hcl, Rat.mul_one]
    have e2 := h.sum hc
    rw [hm] at e1 e2 ⊢
    rw [sumR] at e1 e2
    have e3 : sumR (fun k => sumR (fun c => stX P l c * P (l.getD c 0) (l.getD k 0)) (m + 1)) m = sumR (stX P l) m := sumR_congr fun k hk => by
      have := h.one hc (k := k) (by omega)
      rw [hm] at this
      exact this
    rw [e3] at e1
    show _ = stX P l (m + 1 - 1)
    rw [Nat.add_sub_cancel]
    generalize sumR (fun c => stX P l c * P (l.getD c 0) (l.getD m 0)) (m + 1) = A at *
    generalize sumR (stX P l) m = B at *
    generalize stX P l m = C at *
    clear e3
    grind
theorem Cls.pos {n : Nat} {P : Nat → Nat → Rat} {l : List Nat} (h : Cls n P l) (hc : Chn n P) : ∀ k, k < l.length → 0 < stX P l k := by
  refine still_pos (Q := fun i j => P (l.getD i 0) (l.getD j 0)) (fun i j hi hj => hc.low _ _ (h.lt _ (getD_mem hi)) (h.lt _ (getD_mem hj))) (fun i hi => h.tot hc hi) (fun C hC hD => ?_) (fun j hj => h.still hc hj) (h.sum hc)
  obtain ⟨i, hi, hCi⟩ := hC
  obtain ⟨j, hj, hDj⟩ := hD
  refine Classical.byContradiction fun hno => ?_
  have hs := cms_shut (S := fun x => ∃ k, k < l.length ∧ C k ∧ l.getD k 0 = x) (fun a b _ hb ⟨k, hk, hCk, e⟩ hp => by
    subst e
    obtain ⟨m, hm, em⟩ := getD_of (h.shut _ (getD_mem hk) b hb hp)
    by_cases hCm : C m
    · exact ⟨m, hm, hCm, em⟩
    · exact absurd ⟨k, m, hk, hm, hCk, hCm, by rw [em]; exact hp⟩ hno) (h.lt _ (getD_mem hi)) (h.lt _ (getD_mem hj)) ⟨i, hi, hCi, rfl⟩ (h.com _ (getD_mem hi) _ (getD_mem hj))
  obtain ⟨k, hk, hCk, e⟩ := hs
  have e' : k = j := by
    rw [List.getD_eq_getElem?_getD, List.getD_eq_getElem?_getD, List.getElem?_eq_getElem hk, List.getElem?_eq_getElem hj] at e
    exact nodup_at h.nd hk hj e
  exact hDj (e' ▸ hCk)
/-- What Still answers. -/
def stQ (P : Nat → Nat → Rat) (l : List Nat) (i : Nat) : Rat := sprQ l (stX P l) l.length i
theorem stQ_on {n : Nat} {P : Nat → Nat → Rat} {l : List Nat} (h : Cls n P l) {k : Nat} (hk : k < l.length) : stQ P l (l.getD k 0) = stX P l k := sprQ_on h.nd (Nat.le_refl _) hk
theorem stQ_off {P : Nat → Nat → Rat} {l : List Nat} {i : Nat} (hi : i ∉ l) : stQ P l i = 0 := sprQ_off hi (Nat.le_refl _)
theorem Cls.low {n : Nat} {P : Nat → Nat → Rat} {l : List Nat} (h : Cls n P l) (hc : Chn n P) (i : Nat) : 0 ≤ stQ P l i := by
  by_cases e : i ∈ l
  · obtain ⟨k, hk, rfl⟩ := getD_of e
    rw [stQ_on h hk]
    exact Rat.le_of_lt (h.pos hc k hk)
  · rw [stQ_off e]; exact Rat.le_refl
theorem Cls.all {n : Nat} {P : Nat → Nat → Rat} {l : List Nat} (h : Cls n P l) (hc : Chn n P) (f : Nat → Rat) (hf : ∀ i, i < n → 0 ≤ f i) : sumR (fun i => stQ P l i * f i) n = sumR (fun k => stX P l k * f (l.getD k 0)) l.length := by
  rw [← lsm_all (f := fun i => stQ P l i * f i) (fun i hi => Rat.mul_nonneg (h.low hc i) (hf i hi)) h.nd h.lt fun j _ hj => by rw [stQ_off hj, Rat.zero_mul], ← lsm_at]
  exact sumR_congr fun k hk => by rw [stQ_on h hk]
/-- WHAT IS STILL STAYS STILL. -/
theorem Cls.stays {n : Nat} {P : Nat → Nat → Rat} {l : List Nat} (h : Cls n P l) (hc : Chn n P) {j : Nat} (hj : j < n) : sumR (fun i => stQ P l i * P i j) n = stQ P l j := by
  rw [h.all hc (fun i => P i j) fun i hi => hc.low i j hi hj]
  by_cases e : j ∈ l
  · obtain ⟨k, hk, rfl⟩ := getD_of e
    rw [stQ_on h hk]
    exact h.still hc hk
  · have hz : ∀ k, k < l.length → stX P l k * P (l.getD k 0) j = 0 := fun k hk => by
      have h0 := hc.low _ j (h.lt _ (getD_mem hk)) hj
      by_cases e2 : 0 < P (l.getD k 0) j
      · exact absurd (h.shut _ (getD_mem hk) j hj e2) e
      · have : P (l.getD k 0) j = 0 := by grind
        rw [this, Rat.mul_zero]
    have h0 : ∀ m, sumR (fun _ => (0 : Rat)) m = 0 := fun m => by
      induction m with
      | zero => rfl
      | succ m ih => rw [sumR, ih, Rat.zero_add]
    rw [stQ_off e, sumR_congr (g := fun _ => 0) hz]
    exact h0 _
theorem Cls.whole {n : Nat} {P : Nat → Nat → Rat} {l : List Nat} (h : Cls n P l) (hc : Chn n P) : sumR (stQ P l) n = 1 := by
  have h1 := h.all hc (fun _ => 1) fun _ _ => by decide
  rw [sumR_congr (g := stQ P l) fun i _ => Rat.mul_one _, sumR_congr (g := stX P l) fun i _ => Rat.mul_one _, h.sum hc] at h1
  exact h1
theorem sM_fits {n : Nat} {P : Nat → Nat → Rat} {l : List Nat} (hf : ∀ i j, i < n → j < n → Fits 1 (P i j)) (hl : ∀ x ∈ l, x < n) (k c : Nat) (hk : k < l.length) : Fits 3 (sM P l k c) := by
  show Fits 3 (if k = l.length - 1 then _ else if c < l.length then _ else _)
  by_cases h1 : k = l.length - 1
  · rw [if_pos h1]; exact fits_up fits_one (by omega)
  · rw [if_neg h1]
    by_cases h : c < l.length
    · rw [if_pos h]
      have h1 : Fits 1 (if k = c then (1 : Rat) else 0) := by
        by_cases e : k = c
        · rw [if_pos e]; exact fits_one
        · rw [if_neg e]; exact fits_zero
      exact fits_up (fits_sub (hf _ _ (hl _ (getD_mem h)) (hl _ (getD_mem hk))) h1) (by omega)
    · rw [if_neg h]; exact fits_up fits_zero (by omega)
end Go.Proofs.YtbejijgelljeaaaGreatDoor


/- stillIn of package chain. -/
namespace Go.Proofs.YtbejijgelljeaaaGreatDoor
open Go.RowKit Go.Shelf

/-- The equations ahead of the last one's exchange. -/
def sN (P : Nat → Nat → Rat) (l : List Nat) (k c : Nat) : Rat := if c < l.length then P (l.getD c 0) (l.getD k 0) - (if k = c then 1 else 0) else 0
theorem EqR.ofRow {U : World} {B S m : Nat} {f : Nat → Rat} (h : RowF U S (lF m f)) (hB : B ≤ S) (hm : m ≤ 1000) : EqR U B S m m f := by
  have hl : (frC (lF m f)).length = m * 3 := by rw [frC_length, lF_length, Nat.mul_comm]
  exact ⟨hl, .inr ⟨S, m, _, rfl, hB, h, Nat.le_refl _, by unfold maxLen; omega, by rw [List.size_toArray]; exact hl, by rw [List.toList_toArray, List.take_of_length_le (by omega)]⟩⟩
/-- A row in the place of another. -/
theorem EqS.swap {B n m G S k : Nat} {g c : Nat → Nat} {M : Nat → Nat → Rat} {U U' : World} {f : Nat → Rat} (h : EqS B n m G g c M U) (hb : Below U.heap.size U U') (hr : RowF U' S (lF m f)) (hS : U.heap.size ≤ S) (hB : B ≤ U.heap.size) (hm : m ≤ 1000) : EqS B n m G (fun t => if t = k then S else g t) (fun t => if t = k then m else c t) (fun t => if t = k then f else M t) (U'.setCell ⟨G, k, none⟩ (.slice (some ⟨S, 0, none⟩) m m)) := by
  have h' := h.step hb
  have hset := h'.top.set k (.slice (some ⟨S, 0, none⟩) m m)
  refine ⟨?_, fun t ht => ?_, fun t t' ht ht' e => ?_, h.gl⟩
  · have e : ((List.range n).map fun t => Value.slice (some ⟨g t, 0, none⟩) m (c t)).set k (.slice (some ⟨S, 0, none⟩) m m) = (List.range n).map fun t => Value.slice (some ⟨if t = k then S else g t, 0, none⟩) m (if t = k then m else c t) := by
      refine List.ext_getElem (by simp) fun j h1 h2 => ?_
      rw [List.getElem_set]
      by_cases e : k = j
      · subst e; simp
      · rw [if_neg e]
        simp only [List.getElem_map, List.getElem_range, if_neg (fun e' => e e'.symm : ¬ j = k)]
    rw [e] at hset
    exact hset
  · by_cases e : t = k
    · subst e
      simp only [if_pos]
      exact owns_keep (EqR.ofRow hr (Nat.le_trans hB hS) hm) (KeepT.set h'.top (by decide) t _)
    · simp only [if_neg e]
      exact owns_keep (h'.row t ht) (KeepT.set h'.top (by decide) k _)
  · have e' : (if t = k then S else g t) = (if t' = k then S else g t') := e
    by_cases h1 : t = k
    · by_cases h2 : t' = k
      · rw [h1, h2]
      · rw [if_pos h1, if_neg h2] at e'
        have := (h.row t' ht').lt
        omega
    · by_cases h2 : t' = k
      · rw [if_neg h1, if_pos h2] at e'
        have := (h.row t ht).lt
        omega
      · rw [if_neg h1, if_neg h2] at e'
        exact h.inj t t' ht ht' e'

set_option maxRecDepth 100000 in
set_option maxHeartbeats 4000000 in
theorem chStill_in (a b : Option Addr) (ca cb N n : Nat) (P : Nat → Nat → Rat) (l : List Nat) (w : World) (hR : FsS w a (mR N P)) (hl : IntS w b (iL l)) (hn : l.length = n) (hc : Cls N P l) (hm : ChM N P) :
    Calls Tryz.prog 46 #[.slice a N ca, .slice b n cb] w fun e w' => ∃ S, e = .returned (.slice (some ⟨S, 0, none⟩) n n) ∧ w.heap.size ≤ S ∧ RowF w' S (lF n (stX P l)) ∧ Below w.heap.size w w' := by
  obtain ⟨i0, hi0, hz0, hz1, hz2⟩ := info_parts Tryz.infoFracs
  have hn5 : n ≤ 5 := by have h1 := nod_most hc.nd hc.lt; have h2 := hm.five; omega
  have hn1 : 1 ≤ n := by rw [← hn]; exact hc.ne
  have HSOL : Hid (∀ (B G : Nat) (g c : Nat → Nat) (U : World), EqS B n (n + 1) G g c (sM P l) U → B ≤ U.heap.size → Calls Tryz.prog 61 #[.slice (some ⟨G, 0, none⟩) n n] U fun e w' => ∃ S, e = .returned (.slice (some ⟨S, 0, none⟩) n n) ∧ U.heap.size ≤ S ∧ RowF w' S (lF n (stX P l)) ∧ Below B U w') := fun B G g c U hE hB => by
    have h9 := chSolve_any B n G n 3 g c (sM P l) U hE hB (fun i c hi _ => sM_fits hm.fit hc.lt i c (by omega)) (fun j hj => hc.piv hm.chn j (by omega)) (Nat.le_trans (bE_mono 3 hn5) (by decide)) (by omega)
    have e9 : (fun i => elm (sM P l) n i n) = stX P l := by rw [← hn]; rfl
    rw [e9] at h9
    exact h9
  have HN := hid hn
  have HR := hid hR
  have HV := hid hl
  have HLN := hid hc.lt
  have HND := hid hc.nd
  have HFIT := hid hm.fit
  have HO0 := hid (fun V : World => fOf_q (k := 0) (w := V) 0 0 rfl (by decide) (by rfl))
  have HO1 := hid (fun V : World => fOf_q (k := 1) (w := V) 1 1 rfl (by decide) (by rfl))
  have HRP : Hid (∀ (g : Nat) (V : World), Box V g (sgn 1) (nu 1) (de 1) → Calls Tryz.prog 72 #[.slice (some ⟨g, 0, none⟩) 1 1, .int .i64 ((n + 1 : Nat) : Int)] V fun e w' => ∃ G, e = .returned (.slice (some ⟨G, 0, none⟩) (n + 1) (n + 1)) ∧ V.heap.size ≤ G ∧ RowF w' G (lF (n + 1) fun _ => 1) ∧ Below V.heap.size V w') := fun g V hx => by
    have h9 := slRepeat_one g (n + 1) (qF 1) V hx (by omega) (by omega)
    rw [show List.replicate (n + 1) (qF 1) = lF (n + 1) fun _ => 1 from List.ext_getElem (by rw [lF_length]; simp) fun i h1 h2 => by rw [lF_get]; simp] at h9
    exact h9
  clear hR hl hn hc hm
  go_enter Tryz.func46, Tryz.ntmps46
  go_upto_region 3 with (at_make; refine wpList_make_full _ rfl _ _ 24 rfl w.heap.size 27 i0 (.slice none 0 0) 1 Tryz.underlying24 hi0 hz0 hz1 .i64 .i64 _ _ n rfl rfl (by go_num) (by go_num) (by rw [hz2]; omega) (by unfold maxLen; omega) (Nat.le_refl _) ?_; intro w2 hown2 hgrow2)
  have hb2 := block_of_own hown2
  rw [made_slices] at hb2
  have hB2 : Below w.heap.size w w2 := (Below.refl _ w).grown hgrow2 (Nat.le_refl _) (fun k e => by cases e)
  have HK0 : Hid (HfS w n (n + 1) w.heap.size 0 (fun _ => 0) (fun _ => 0) (sN P l) w2) := by
    refine ⟨?_, fun t h => absurd h (by omega), fun t t' h => absurd h (by omega), Nat.le_refl _, hB2⟩
    have e : tpV n 0 (n + 1) (fun _ => 0) (fun _ => 0) (.slice none 0 0) = List.replicate n (.slice none 0 0) := List.ext_getElem (by simp [tpV]) fun i _ _ => by simp [tpV]
    rw [e]
    exact hb2
  clear hown2 hgrow2 hb2 hB2
  obtain ⟨G, hG⟩ : ∃ G, w.heap.size = G := ⟨_, rfl⟩
  rw [hG] at HK0
  simp only [hG]
  have HGE := hid hG
  clear hG
  go_wp2_with fail
  go_loopw [15] (fun iv wr => ∃ (k : Nat) (g c : Nat → Nat), k ≤ n ∧ iv = .int .i64 k ∧ Hid (HfS w n (n + 1) G k g c (sN P l) wr)) (fun iv _ => n - (intOf iv).toNat)
  case atStart => exact ⟨0, _, _, Nat.zero_le _, rfl, HK0⟩
  case round =>
    obtain ⟨k, g, c, hk, rfl, HK1⟩ := hrel
    clear HK0
    by_cases hlt : k < n
    · have hkl : k < l.length := by rw [HN.out]; exact hlt
      have hki : k < (iL l).length := by rw [iL_length]; exact hkl
      obtain ⟨gl, ol, hbe, hgl, c0⟩ := HV.out k hki
      subst hbe
      rw [iL_get hkl] at c0
      have hlk := HLN.out l[k] (List.getElem_mem hkl)
      have HLK : Hid (l.getD k 0 = l[k]) := by show _ = _; rw [List.getD_eq_getElem?_getD, List.getElem?_eq_getElem hkl]; rfl
      have c0' := (HK1.out.bel.cell (p := ⟨gl, _, none⟩) hgl).trans c0
      obtain ⟨lk, hlke⟩ : ∃ x, l[k] = x := ⟨_, rfl⟩
      rw [hlke] at c0' hlk HLK
      have HLKE := hid hlke
      clear c0 hlke
      have HK2 := hid HK1.out.into
      clear HK1
      obtain ⟨Mk, hMk⟩ : ∃ x, wr.heap.size = x := ⟨_, rfl⟩
      rw [hMk] at HK2
      clear hMk
      go_upto_region 6 with fail
      clear c0'
      go_loopw [22] (fun jv wr => ∃ cc : Nat, cc ≤ n ∧ jv = .int .i64 cc ∧ ∃ v, Hid (HgS w n (n + 1) G k Mk g c (sN P l) v cc wr)) (fun jv _ => n - (intOf jv).toNat)
      case atStart => exact ⟨0, Nat.zero_le _, rfl, _, HK2⟩
      case round =>
        obtain ⟨cc, hcc, rfl, v, HK⟩ := hrel
        clear HK2
        by_cases hlc : cc < n
        · have hcl : cc < l.length := by rw [HN.out]; exact hlc
          have hci : cc < (iL l).length := by rw [iL_length]; exact hcl
          obtain ⟨gl', ol', hbe, hgl', e0⟩ := HV.out cc hci
          cases hbe
          rw [iL_get hcl] at e0
          have hlcN := HLN.out l[cc] (List.getElem_mem hcl)
          have e0' := (HK.out.bel.cell (p := ⟨gl, _, none⟩) hgl).trans e0
          obtain ⟨qf, hqf⟩ : ∃ f : Fr, qF (sN P l k cc) = f := ⟨_, rfl⟩
          have HQF := hid hqf
          have HLS : Hid (∀ U : World, Below w.heap.size w U → Calls Tryz.prog 58 #[.slice a N ca, .int .i64 (l[cc] : Nat), .int .i64 (lk : Nat)] U fun e w' => e = .returned (.agg #[.bool qf.1, .string qf.2.1, .string qf.2.2]) ∧ Below U.heap.size U w') := fun U hU => by
            have h := chLess_any a ca N l[cc] lk P U (HR.out.below hU) (by have := fits_qw (HFIT.out l[cc] lk hlcN hlk); omega) hlcN hlk
            have e : (P l[cc] lk - if l[cc] = lk then 1 else 0) = sN P l k cc := by
              show _ = if cc < l.length then _ else _
              rw [if_pos hcl, HLK.out, show l.getD cc 0 = l[cc] by rw [List.getD_eq_getElem?_getD, List.getElem?_eq_getElem hcl]; rfl]
              congr 1
              have hiff : (l[cc] = lk) ↔ k = cc := by
                rw [← HLKE.out]
                exact ⟨fun h => (nodup_at HND.out hcl hkl h).symm, fun h => by subst h; rfl⟩
              by_cases e1 : k = cc
              · rw [if_pos (hiff.2 e1), if_pos e1]
              · rw [if_neg (fun h => e1 (hiff.1 h)), if_neg e1]
            rw [e, hqf] at h
            exact h
          obtain ⟨dv, nv, cv, rfl⟩ := HK.out.cur.slv
          generalize l[cc] = lc at *
          clear e0 hqf
          go_upto_region 8 with fail
          clear e0'
          replace HK := hid (HK.out.step (Below.refl _ _).drew)
          refine wp_region_until 13 (fun (b : Bool) (u : World) => b = false → u.cell? ⟨G, k, none⟩ = some (.slice dv nv cv)) (by kernel_rfl) (fun _ => HK.out.cell hlt) (fun hSd => ?_)
          generalize wr.drew = u0 at *
          refine wpU_take (i := 0) (oi := _) (v := .slice (some ⟨G, 0, none⟩) n n) (b := false) rfl (by kernel_rfl) (by kernel_rfl) (by kernel_rfl) (by decide) (fun _ _ _ h => h) (Or.inl ⟨by rfl, ?_⟩) (by kernel_rfl) (by assumption) ?_
          · intro u' hSu
            (try simp only [List.getElem_toArray, List.getElem_cons_zero])
            go_simp
          (try simp only [List.getElem_toArray, List.getElem_cons_zero])
          (try simp only [Act.put, List.setIfInBounds_toArray, List.set_cons_zero, List.set_cons_succ])
          refine wpU_take (i := 1) (oi := _) (v := .int .i64 (k : Nat)) (b := false) rfl (by kernel_rfl) (by kernel_rfl) (by kernel_rfl) (by decide) (fun _ _ _ h => h) (Or.inl ⟨by rfl, ?_⟩) (by kernel_rfl) (by assumption) ?_
          · intro u' hSu
            (try simp only [List.getElem_toArray, List.getElem_cons_zero, List.getElem_cons_succ])
            go_simp
          (try simp only [List.getElem_toArray, List.getElem_cons_zero, List.getElem_cons_succ])
          (try simp only [Act.put, List.setIfInBounds_toArray, List.set_cons_zero, List.set_cons_succ])
          refine wpU_take (i := 2) (oi := _) (v := .slice (some ⟨G, 0, none⟩) n n) (b := false) rfl (by kernel_rfl) (by kernel_rfl) (by kernel_rfl) (by decide) (fun _ _ _ h => h) (Or.inl ⟨by rfl, ?_⟩) (by kernel_rfl) (by assumption) ?_
          · intro u' hSu
            (try simp only [List.getElem_toArray, List.getElem_cons_zero, List.getElem_cons_succ])
            go_simp
          (try simp only [List.getElem_toArray, List.getElem_cons_zero, List.getElem_cons_succ])
          (try simp only [Act.put, List.setIfInBounds_toArray, List.set_cons_zero, List.set_cons_succ])
          refine wpU_take (i := 3) (oi := _) (v := .int .i64 (k : Nat)) (b := false) rfl (by kernel_rfl) (by kernel_rfl) (by kernel_rfl) (by decide) (fun _ _ _ h => h) (Or.inl ⟨by rfl, ?_⟩) (by kernel_rfl) (by assumption) ?_
          · intro u' hSu
            (try simp only [List.getElem_toArray, List.getElem_cons_zero, List.getElem_cons_succ])
            go_simp
          (try simp only [List.getElem_toArray, List.getElem_cons_zero, List.getElem_cons_succ])
          (try simp only [Act.put, List.setIfInBounds_toArray, List.set_cons_zero, List.set_cons_succ])
          refine wpU_take (i := 4) (oi := _) (v := .pointer (some ⟨G, k, none⟩)) (b := false) rfl (by kernel_rfl) (by kernel_rfl) (by kernel_rfl) (by decide) (fun _ _ _ h => h) (Or.inl ⟨by rfl, ?_⟩) (by kernel_rfl) (by assumption) ?_
          · intro u' hSu
            (try simp only [List.getElem_toArray, List.getElem_cons_zero, List.getElem_cons_succ])
            go_simp
          (try simp only [List.getElem_toArray, List.getElem_cons_zero, List.getElem_cons_succ])
          (try simp only [Act.put, List.setIfInBounds_toArray, List.set_cons_zero, List.set_cons_succ])
          refine wpU_ahead (i := 5) (oi := _) (v := .slice dv nv cv) rfl (by kernel_rfl) (by kernel_rfl) (by kernel_rfl) (by decide) rfl (by kernel_rfl) (fun _ _ _ h => h) (Or.inl ⟨by rfl, ?_⟩) (by kernel_rfl) (by assumption) ?_
          · intro u' hSu
            (try simp only [List.getElem_toArray, List.getElem_cons_zero, List.getElem_cons_succ])
            obtain hS9x := hSu
            go_simp
          (try simp only [List.getElem_toArray, List.getElem_cons_zero, List.getElem_cons_succ])
          (try simp only [Act.put, List.setIfInBounds_toArray, List.set_cons_zero, List.set_cons_succ])
          refine wpU_take (i := 6) (oi := _) (v := .slice a N ca) (b := false) rfl (by kernel_rfl) (by kernel_rfl) (by kernel_rfl) (by decide) (fun _ _ _ h => h) (Or.inl ⟨by rfl, ?_⟩) (by kernel_rfl) (by assumption) ?_
          · intro u' hSu
            (try simp only [List.getElem_toArray, List.getElem_cons_zero, List.getElem_cons_succ])
            go_simp
          (try simp only [List.getElem_toArray, List.getElem_cons_zero, List.getElem_cons_succ])
          (try simp only [Act.put, List.setIfInBounds_toArray, List.set_cons_zero, List.set_cons_succ])
          refine wpU_take (i := 7) (oi := _) (v := .int .i64 (lc : Nat)) (b := false) rfl (by kernel_rfl) (by kernel_rfl) (by kernel_rfl) (by decide) (fun _ _ _ h => h) (Or.inl ⟨by rfl, ?_⟩) (by kernel_rfl) (by assumption) ?_
          · intro u' hSu
            (try simp only [List.getElem_toArray, List.getElem_cons_zero, List.getElem_cons_succ])
            go_simp
          (try simp only [List.getElem_toArray, List.getElem_cons_zero, List.getElem_cons_succ])
          (try simp only [Act.put, List.setIfInBounds_toArray, List.set_cons_zero, List.set_cons_succ])
          refine wpU_take (i := 8) (oi := _) (v := .int .i64 (lk : Nat)) (b := false) rfl (by kernel_rfl) (by kernel_rfl) (by kernel_rfl) (by decide) (fun _ _ _ h => h) (Or.inl ⟨by rfl, ?_⟩) (by kernel_rfl) (by assumption) ?_
          · intro u' hSu
            (try simp only [List.getElem_toArray, List.getElem_cons_zero, List.getElem_cons_succ])
            go_simp
          (try simp only [List.getElem_toArray, List.getElem_cons_zero, List.getElem_cons_succ])
          (try simp only [Act.put, List.setIfInBounds_toArray, List.set_cons_zero, List.set_cons_succ])
          refine wpU_ready (rs := [9]) (by kernel_rfl) (by simp) (AllU.cons (b := false) rfl (by kernel_rfl) ?_ (AllU.nil))
          · intro K' hK'
            (try simp only [List.getElem_toArray, List.getElem_cons_zero, List.getElem_cons_succ])
            go_simp
            refine (HLS.out _ HK.out.bel).mono ?_
            rintro e u1 ⟨rfl, hb⟩
            replace HK := hid (HK.out.step hb)
            refine hK'.out _ _ (fun _ => HK.out.cell hlt) (fun hSe => ?_)
            clear hK' K' hSd
            have hSd := hSe
            clear hSe
            clear hb
            (try simp only [List.getElem_toArray, List.getElem_cons_zero, List.getElem_cons_succ])
            (try simp only [Act.put, List.setIfInBounds_toArray, List.set_cons_zero, List.set_cons_succ])
            refine wpU_ready (rs := [10]) (by kernel_rfl) (by simp) (AllU.cons (b := false) rfl (by kernel_rfl) ?_ (AllU.nil))
            · intro K' hK'
              (try simp only [List.getElem_toArray, List.getElem_cons_zero, List.getElem_cons_succ])
              go_simp
              have hbA := (Below.refl u1.heap.size u1).alloc (Nat.le_refl _) (FC qf.1 qf.2.1 qf.2.2)
              have HY := hid (Box.new u1 qf.1 qf.2.1 qf.2.2)
              replace HK := hid (HK.out.step hbA)
              clear hbA
              refine hK'.out _ _ (fun _ => HK.out.cell hlt) (fun hSe => ?_)
              clear hK' K' hSd
              have hSd := hSe
              clear hSe
              obtain ⟨gy, hgy⟩ : ∃ x, u1.heap.size = x := ⟨_, rfl⟩
              obtain ⟨Vy, hV⟩ : ∃ x, u1.alloc (FC qf.1 qf.2.1 qf.2.2) = x := ⟨_, rfl⟩
              rw [hgy] at HY
              rw [hV] at HY HK hSd
              simp only [hV]
              simp only [hgy]
              clear hgy hV
              (try simp only [List.getElem_toArray, List.getElem_cons_zero, List.getElem_cons_succ])
              (try simp only [Act.put, List.setIfInBounds_toArray, List.set_cons_zero, List.set_cons_succ])
              refine wpU_ready (rs := [11]) (by kernel_rfl) (by simp) (AllU.cons (b := false) rfl (by kernel_rfl) ?_ (AllU.nil))
              · intro K' hK'
                rw [if_pos (by rfl)]
                refine wp_append_fr _ _ rfl Mk (.slice dv nv cv) (lF cc (sN P l k)) qf rfl HK.out.cur gy rfl HY.out (by rw [lF_length]; omega) HK.out.mu ?_
                intro v2 V8 hr8 hg8
                obtain ⟨d8, n8, c8, rfl⟩ := hr8.slv
                have HS8 : Hid (V8.cell? ⟨G, k, none⟩ = some (.slice dv nv cv)) := by
                  show _ = _
                  rw [(HK.out.pre hg8).cell k (by rw [tpV_length]; exact hlt)]
                  simp [tpV]
                have HF8 : Hid (V8.frozen? ⟨G, k, none⟩ = false) := (HK.out.pre hg8).fz k
                have HKN := hid (HK.out.push hg8 (by rw [HQF.out]; exact hr8))
                refine hK'.out _ _ (fun _ => HS8.out) (fun hSe => ?_)
                clear hK' K' hSd hr8 hg8 HK HY
                have hSd := hSe
                clear hSe
                (try simp only [List.getElem_toArray, List.getElem_cons_zero, List.getElem_cons_succ])
                (try simp only [Act.put, List.setIfInBounds_toArray, List.set_cons_zero, List.set_cons_succ])
                refine wpU_take (i := 12) (oi := _) (v := .pointer (some ⟨G, k, none⟩)) (b := false) rfl (by kernel_rfl) (by kernel_rfl) (by kernel_rfl) (by decide) (fun _ _ _ h => h) (Or.inl ⟨by rfl, ?_⟩) (by kernel_rfl) (by assumption) ?_
                · intro u' hSu
                  (try simp only [List.getElem_toArray, List.getElem_cons_zero, List.getElem_cons_succ])
                  go_simp
                (try simp only [List.getElem_toArray, List.getElem_cons_zero, List.getElem_cons_succ])
                (try simp only [Act.put, List.setIfInBounds_toArray, List.set_cons_zero, List.set_cons_succ])
                have q0 := HS8.out
                have q1 := HF8.out
                refine wpU_ready (rs := [13]) (by kernel_rfl) (by simp) (AllU.cons (b := true) rfl (by kernel_rfl) ?_ (AllU.nil))
                · intro K' hK'
                  (try simp only [List.getElem_toArray, List.getElem_cons_zero, List.getElem_cons_succ])
                  go_simp
                  refine hK'.out _ _ (fun e => by cases e) (fun _ => wpU_done (by kernel_rfl) ?_ _)
                  clear hK' K' hSd q0 q1 HS8 HF8
                  go_wp2
                  go_roundw
                  case rel => exact ⟨cc + 1, by omega, by go_num, .slice d8 n8 c8, HKN⟩
                  case measure => simp [intOf]; omega
        · obtain rfl : n = cc := by omega
          obtain ⟨dv, nv, cv, rfl⟩ := HK.out.cur.slv
          obtain ⟨qf, hqf⟩ : ∃ f : Fr, qF (sN P l k n) = f := ⟨_, rfl⟩
          have HQF := hid hqf
          have HOZ : Hid (∀ U : World, Calls Tryz.prog 36 #[.int .i64 0] U fun e w' => e = .returned (.agg #[.bool qf.1, .string qf.2.1, .string qf.2.2]) ∧ Below U.heap.size U w') := fun U => by
            have e9 : sN P l k n = 0 := by
              show (if n < l.length then _ else _) = _
              rw [if_neg (by have := HN.out; omega)]
            rw [← hqf, e9]
            exact HO0.out U
          clear hqf HO0
          have HO0 := HOZ
          clear HOZ
          go_upto_region 10 with fail
          replace HK := hid (HK.out.step (Below.refl _ _).drew)
          refine wp_region_until 10 (fun (b : Bool) (u : World) => b = false → u.cell? ⟨G, k, none⟩ = some (.slice dv nv cv)) (by kernel_rfl) (fun _ => HK.out.cell hlt) (fun hSd => ?_)
          generalize wr.drew = u0 at *
          refine wpU_take (i := 0) (oi := _) (v := .slice (some ⟨G, 0, none⟩) n n) (b := false) rfl (by kernel_rfl) (by kernel_rfl) (by kernel_rfl) (by decide) (fun _ _ _ h => h) (Or.inl ⟨by rfl, ?_⟩) (by kernel_rfl) (by assumption) ?_
          · intro u' hSu
            (try simp only [List.getElem_toArray, List.getElem_cons_zero])
            go_simp
          (try simp only [List.getElem_toArray, List.getElem_cons_zero])
          (try simp only [Act.put, List.setIfInBounds_toArray, List.set_cons_zero, List.set_cons_succ])
          refine wpU_take (i := 1) (oi := _) (v := .int .i64 (k : Nat)) (b := false) rfl (by kernel_rfl) (by kernel_rfl) (by kernel_rfl) (by decide) (fun _ _ _ h => h) (Or.inl ⟨by rfl, ?_⟩) (by kernel_rfl) (by assumption) ?_
          · intro u' hSu
            (try simp only [List.getElem_toArray, List.getElem_cons_zero, List.getElem_cons_succ])
            go_simp
          (try simp only [List.getElem_toArray, List.getElem_cons_zero, List.getElem_cons_succ])
          (try simp only [Act.put, List.setIfInBounds_toArray, List.set_cons_zero, List.set_cons_succ])
          refine wpU_take (i := 2) (oi := _) (v := .slice (some ⟨G, 0, none⟩) n n) (b := false) rfl (by kernel_rfl) (by kernel_rfl) (by kernel_rfl) (by decide) (fun _ _ _ h => h) (Or.inl ⟨by rfl, ?_⟩) (by kernel_rfl) (by assumption) ?_
          · intro u' hSu
            (try simp only [List.getElem_toArray, List.getElem_cons_zero, List.getElem_cons_succ])
            go_simp
          (try simp only [List.getElem_toArray, List.getElem_cons_zero, List.getElem_cons_succ])
          (try simp only [Act.put, List.setIfInBounds_toArray, List.set_cons_zero, List.set_cons_succ])
          refine wpU_take (i := 3) (oi := _) (v := .int .i64 (k : Nat)) (b := false) rfl (by kernel_rfl) (by kernel_rfl) (by kernel_rfl) (by decide) (fun _ _ _ h => h) (Or.inl ⟨by rfl, ?_⟩) (by kernel_rfl) (by assumption) ?_
          · intro u' hSu
            (try simp only [List.getElem_toArray, List.getElem_cons_zero, List.getElem_cons_succ])
            go_simp
          (try simp only [List.getElem_toArray, List.getElem_cons_zero, List.getElem_cons_succ])
          (try simp only [Act.put, List.setIfInBounds_toArray, List.set_cons_zero, List.set_cons_succ])
          refine wpU_take (i := 4) (oi := _) (v := .pointer (some ⟨G, k, none⟩)) (b := false) rfl (by kernel_rfl) (by kernel_rfl) (by kernel_rfl) (by decide) (fun _ _ _ h => h) (Or.inl ⟨by rfl, ?_⟩) (by kernel_rfl) (by assumption) ?_
          · intro u' hSu
            (try simp only [List.getElem_toArray, List.getElem_cons_zero, List.getElem_cons_succ])
            go_simp
          (try simp only [List.getElem_toArray, List.getElem_cons_zero, List.getElem_cons_succ])
          (try simp only [Act.put, List.setIfInBounds_toArray, List.set_cons_zero, List.set_cons_succ])
          refine wpU_ahead (i := 5) (oi := _) (v := .slice dv nv cv) rfl (by kernel_rfl) (by kernel_rfl) (by kernel_rfl) (by decide) rfl (by kernel_rfl) (fun _ _ _ h => h) (Or.inl ⟨by rfl, ?_⟩) (by kernel_rfl) (by assumption) ?_
          · intro u' hSu
            (try simp only [List.getElem_toArray, List.getElem_cons_zero, List.getElem_cons_succ])
            obtain hS9x := hSu
            go_simp
          (try simp only [List.getElem_toArray, List.getElem_cons_zero, List.getElem_cons_succ])
          (try simp only [Act.put, List.setIfInBounds_toArray, List.set_cons_zero, List.set_cons_succ])
          refine wpU_ready (rs := [6]) (by kernel_rfl) (by simp) (AllU.cons (b := false) rfl (by kernel_rfl) ?_ (AllU.nil))
          · intro K' hK'
            (try simp only [List.getElem_toArray, List.getElem_cons_zero, List.getElem_cons_succ])
            go_simp
            refine (HO0.out _).mono ?_
            rintro e u1 ⟨rfl, hb⟩
            replace HK := hid (HK.out.step hb)
            refine hK'.out _ _ (fun _ => HK.out.cell hlt) (fun hSe => ?_)
            clear hK' K' hSd
            have hSd := hSe
            clear hSe
            clear hb
            (try simp only [List.getElem_toArray, List.getElem_cons_zero, List.getElem_cons_succ])
            (try simp only [Act.put, List.setIfInBounds_toArray, List.set_cons_zero, List.set_cons_succ])
            refine wpU_ready (rs := [7]) (by kernel_rfl) (by simp) (AllU.cons (b := false) rfl (by kernel_rfl) ?_ (AllU.nil))
            · intro K' hK'
              (try simp only [List.getElem_toArray, List.getElem_cons_zero, List.getElem_cons_succ])
              go_simp
              have hbA := (Below.refl u1.heap.size u1).alloc (Nat.le_refl _) (FC qf.1 qf.2.1 qf.2.2)
              have HY := hid (Box.new u1 qf.1 qf.2.1 qf.2.2)
              replace HK := hid (HK.out.step hbA)
              clear hbA
              refine hK'.out _ _ (fun _ => HK.out.cell hlt) (fun hSe => ?_)
              clear hK' K' hSd
              have hSd := hSe
              clear hSe
              obtain ⟨gy, hgy⟩ : ∃ x, u1.heap.size = x := ⟨_, rfl⟩
              obtain ⟨Vy, hV⟩ : ∃ x, u1.alloc (FC qf.1 qf.2.1 qf.2.2) = x := ⟨_, rfl⟩
              rw [hgy] at HY
              rw [hV] at HY HK hSd
              simp only [hV]
              simp only [hgy]
              clear hgy hV
              (try simp only [List.getElem_toArray, List.getElem_cons_zero, List.getElem_cons_succ])
              (try simp only [Act.put, List.setIfInBounds_toArray, List.set_cons_zero, List.set_cons_succ])
              refine wpU_ready (rs := [8]) (by kernel_rfl) (by simp) (AllU.cons (b := false) rfl (by kernel_rfl) ?_ (AllU.nil))
              · intro K' hK'
                rw [if_pos (by rfl)]
                refine wp_append_fr _ _ rfl Mk (.slice dv nv cv) (lF n (sN P l k)) qf rfl HK.out.cur gy rfl HY.out (by rw [lF_length]; omega) HK.out.mu ?_
                intro v2 V8 hr8 hg8
                obtain ⟨d8, n8, c8, rfl⟩ := hr8.slv
                have HS8 : Hid (V8.cell? ⟨G, k, none⟩ = some (.slice dv nv cv)) := by
                  show _ = _
                  rw [(HK.out.pre hg8).cell k (by rw [tpV_length]; exact hlt)]
                  simp [tpV]
                have HF8 : Hid (V8.frozen? ⟨G, k, none⟩ = false) := (HK.out.pre hg8).fz k
                have HKN := hid (HK.out.push hg8 (by rw [HQF.out]; exact hr8))
                refine hK'.out _ _ (fun _ => HS8.out) (fun hSe => ?_)
                clear hK' K' hSd hr8 hg8 HK HY
                have hSd := hSe
                clear hSe
                (try simp only [List.getElem_toArray, List.getElem_cons_zero, List.getElem_cons_succ])
                (try simp only [Act.put, List.setIfInBounds_toArray, List.set_cons_zero, List.set_cons_succ])
                refine wpU_take (i := 9) (oi := _) (v := .pointer (some ⟨G, k, none⟩)) (b := false) rfl (by kernel_rfl) (by kernel_rfl) (by kernel_rfl) (by decide) (fun _ _ _ h => h) (Or.inl ⟨by rfl, ?_⟩) (by kernel_rfl) (by assumption) ?_
                · intro u' hSu
                  (try simp only [List.getElem_toArray, List.getElem_cons_zero, List.getElem_cons_succ])
                  go_simp
                (try simp only [List.getElem_toArray, List.getElem_cons_zero, List.getElem_cons_succ])
                (try simp only [Act.put, List.setIfInBounds_toArray, List.set_cons_zero, List.set_cons_succ])
                have q0 := HS8.out
                have q1 := HF8.out
                refine wpU_ready (rs := [10]) (by kernel_rfl) (by simp) (AllU.cons (b := true) rfl (by kernel_rfl) ?_ (AllU.nil))
                · intro K' hK'
                  (try simp only [List.getElem_toArray, List.getElem_cons_zero, List.getElem_cons_succ])
                  go_simp
                  refine hK'.out _ _ (fun e => by cases e) (fun _ => wpU_done (by kernel_rfl) ?_ _)
                  clear hK' K' hSd q0 q1 HS8 HF8
                  obtain ⟨g', c', hd⟩ := HKN.out.done (by omega)
                  have HD := hid hd
                  clear hd HKN
                  go_wp2
                  go_roundw
                  case rel => exact ⟨k + 1, g', c', by omega, by go_num, HD⟩
                  case measure => simp [intOf]; omega
    · obtain rfl : n = k := by omega
      have HE := hid HK1.out.all
      have HB1 := hid HK1.out.bel
      clear HK1
      go_wp2_with fail
      refine (HO1.out _).mono ?_
      rintro e w5 ⟨rfl, hb5⟩
      have HE5 := hid (HE.out.step hb5)
      have HX5 := hid (Box.new w5 (sgn 1) (nu 1) (de 1))
      have hA5 := (Below.refl w5.heap.size w5).alloc (Nat.le_refl _) (FC (sgn 1) (nu 1) (de 1))
      have HE6 := hid (HE5.out.step hA5)
      have HB5 := hid (HB1.out.trans (hb5.mono HB1.out.size))
      have HB6 := hid (HB5.out.trans (hA5.mono HB5.out.size))
      clear hb5 hA5 HE5 HE HB1
      have HNI : Hid ((n : Int) + 1 = ((n + 1 : Nat) : Int)) := by show _ = _; omega
      generalize sgn 1 = on at *
      generalize nu 1 = ox at *
      generalize de 1 = oy at *
      go_wp2_with fail
      generalize (w5.alloc (FC on ox oy)) = w6 at *
      rw [HNI.out]
      refine (HRP.out _ _ HX5.out).mono ?_
      rintro e w7 ⟨S1, rfl, hS1, hr7, hb7⟩
      have HSW := hid (HE6.out.swap (k := n - 1) hb7 hr7 hS1 HB6.out.size (by omega))
      have HB7 := hid ((HB6.out.trans (hb7.mono HB6.out.size)).setCell (p := ⟨G, n - 1, none⟩) HE6.out.gl (.slice (some ⟨S1, 0, none⟩) (n + 1) (n + 1)))
      have k0 := (HE6.out.step hb7).slice (show n - 1 < n by omega)
      have f0 := (HE6.out.step hb7).top.fz (n - 1)
      have hsub : ((n : Int) - 1) = ((n - 1 : Nat) : Int) := by omega
      have HEM : Hid (∀ t, t < n → (if t = n - 1 then (fun _ => 1) else sN P l t) = sM P l t) := fun t ht => by
        funext c
        show _ = if t = l.length - 1 then _ else _
        rw [HN.out]
        by_cases e9 : t = n - 1
        · rw [if_pos e9, if_pos e9]
        · rw [if_neg e9, if_neg e9]
          show (if c < l.length then _ else _) = _
          rw [HN.out]
      have HEQ := hid (HSW.out.congr HEM.out)
      clear HSW HEM hr7 hb7 hS1 HE6 HX5 HRP
      go_upto_region 13 with fail
      clear k0 f0
      generalize (w7.setCell ⟨G, n - 1, none⟩ (.slice (some ⟨S1, 0, none⟩) (n + 1) (n + 1))) = w8 at *
      go_wp2_with fail
      refine (HSOL.out w.heap.size G _ _ _ HEQ.out HB7.out.size).mono ?_
      rintro e w9 ⟨S, rfl, hS, hr, hb⟩
      have HRS := hid hr
      have HBS := hid (HB7.out.trans hb)
      have HSS : Hid (w.heap.size ≤ S) := Nat.le_trans HB7.out.size hS
      clear hr hb hS
      go_wp2
      go_ret
      exact ⟨S, rfl, HSS.out, HRS.out, HBS.out⟩
end Go.Proofs.YtbejijgelljeaaaGreatDoor

