/- What the law NetSums asks of a net that is made. -/
import Derived.Test.YtncccbdledcibaaGreatDoorCrAToMadG
import Derived.Test.YtncccbdledcibaaGreatDoorRtEToOneA
import Derived.Laws.EntriesVeiled
import Derived.Test.YtncccbdledcibaaGreatDoorFracAToRefQ
import Derived.Deep.Strs
import Derived.HandedShaped
import Derived.ProofKit
import Derived.OpenShut
import Derived.ShutString
import Derived.SizedLaws
import Derived.Test.YtncccbdledcibaaGreatDoorRefRToTabP2
import Derived.Carry
namespace Go.Proofs.YtncccbdledcibaaGreatDoor
open Go.RowKit Go.Shelf Go.Lib

theorem row_ok {V : List Vr} {L : List (List Int)} {R : List (List Fr)} (h0 : netE V L R = 0) {v : Nat} (hvL : v < L.length) (hvR : v < R.length) {i : Nat} (hi : i < cnt (sizesN V) (toN L[v])) : rowB (chunkF R[v] (sz (sizesN V) v) i) = true := by
  have hok := netE_ok h0
  have hv : v < V.length := by rw [← hok.len]; exact hvL
  have hlen := hok.rows v hvL hvR
  have h1 : firstE (rowE (sizesN V) L R) V.length = 0 := by
    rw [netE] at h0
    by_cases h1 : L.length = V.length ∧ R.length = V.length
    · rw [if_pos h1] at h0
      by_cases h2 : gcE L = 0
      · rw [if_pos h2] at h0
        by_cases h3 : varsE V = 0
        · rwa [if_pos h3] at h0
        · rw [if_neg h3] at h0; exact absurd h0 h3
      · rw [if_neg h2] at h0; exact absurd h0 h2
    · rw [if_neg h1] at h0; exact absurd h0 (by decide)
  have h2 := firstE_zero h1 v hv
  rw [rowE, List.getD_eq_getElem?_getD, List.getElem?_eq_getElem hvR, List.getD_eq_getElem?_getD, List.getElem?_eq_getElem hvL] at h2
  simp only [Option.getD_some] at h2
  rw [if_pos hlen] at h2
  by_cases h3 : ((List.range (cnt (sizesN V) (toN L[v]))).all fun i => rowB (chunkF R[v] (sz (sizesN V) v) i)) = true
  · rw [List.all_eq_true] at h3
    exact h3 _ (List.mem_range.2 hi)
  · rw [if_neg h3] at h2; exact absurd h2 (by decide)
/-- How likely the k-th assignment is. -/
def pK (V : List Vr) (L : List (List Int)) (R : List (List Fr)) (k : Nat) : Rat := prodV V L R (asg (sizesN V) (List.range V.length) k) V.length
/-- The k-th assignment. -/
def atK (V : List Vr) (k : Nat) : List Int := iL (digs (sizesN V) (List.range V.length) k)
theorem atK_length (V : List Vr) (k : Nat) : (atK V k).length = V.length := by rw [atK, iL_length, digs_length, List.length_range]
theorem up_all (n : Nat) : Up (iL (List.range n)) n := up_iff.2 ⟨fun x hx => by
    obtain ⟨i, hi, rfl⟩ := List.mem_map.1 hx
    have := List.mem_range.1 hi
    omega, by rw [iL, List.pairwise_map]; exact (range_rise n).imp fun h => by omega⟩
theorem NM.fine {V : List Vr} {L : List (List Int)} {R : List (List Fr)} (h : NM V L R) : Fine (iL (sizesN V)) := (netE_ok h.ok).fine
theorem NM.pos {V : List Vr} {L : List (List Int)} {R : List (List Fr)} (h : NM V L R) : Pos (sizesN V) := by have := h.fine.pos; rwa [toN_iL] at this
theorem atK_fun {V : List Vr} (k : Nat) : (fun u => (toN (atK V k)).getD u 0) = asg (sizesN V) (List.range V.length) k := by
  funext u
  rw [atK, toN_iL, List.getD_eq_getElem?_getD]
  by_cases hu : u < V.length
  · rw [asg_digs List.nodup_range (by rw [List.length_range]; exact hu), List.getElem_range]
    rfl
  · rw [List.getElem?_eq_none (by rw [digs_length, List.length_range]; omega), asg_out (fun h => hu (List.mem_range.1 h))]
    rfl
theorem atK_index {V : List Vr} {L : List (List Int)} {R : List (List Fr)} (h : NM V L R) {k : Nat} (hk : k < cnt (sizesN V) (List.range V.length)) : (indexA (iL (sizesN V)) (allI V.length) (atK V k)).2 = 0 := by
  have hsl : (iL (sizesN V)).length = V.length := by rw [iL_length, sizesN_length]
  rw [indexA_ok (countB_of h.fine (by rw [hsl]; exact up_all _)) (by rw [atK_length, allI_length])]
  rw [List.all_eq_true]
  intro i hi
  have hi' : i < V.length := by rw [allI_length] at hi; exact List.mem_range.1 hi
  have hlt := asg_lt h.pos (List.range V.length) k i hk
  have hd := asg_digs (S := sizesN V) (k := k) (i := i) List.nodup_range (by rw [List.length_range]; exact hi')
  rw [List.getElem_range] at hd
  have e : (atK V k).getD i 0 = ((asg (sizesN V) (List.range V.length) k i : Nat) : Int) := by
    rw [atK, iL, List.getD_eq_getElem?_getD, List.getElem?_map, hd]
    rfl
  rw [valB, decide_eq_true_iff, toN_iL, allI, toN_iL, e, List.getD_eq_getElem?_getD, List.getElem?_range hi']
  simp only [Option.getD_some]
  omega
theorem joint_k {V : List Vr} {L : List (List Int)} {R : List (List Fr)} (h : NM V L R) {k : Nat} (hk : k < cnt (sizesN V) (List.range V.length)) : jE V L R (atK V k) = 0 ∧ jF V L R (atK V k) = qF (pK V L R k) := by
  have e : jE V L R (atK V k) = 0 := by rw [jE, if_pos h.ok, atK_index h hk]
  refine ⟨e, ?_⟩
  rw [jF, if_pos e, atK_fun]
  rfl
theorem lik_nonneg {V : List Vr} {L : List (List Int)} {R : List (List Fr)} (h : NM V L R) {f : Nat → Nat} (hf : ∀ u, f u < sz (sizesN V) u) {v : Nat} (hv : v < V.length) : 0 ≤ frQ (likF V L R f v) := by
  have hok := netE_ok h.ok
  have hL : v < L.length := by rw [hok.len]; exact hv
  have hR : v < R.length := by rw [hok.lenR]; exact hv
  have hp := pos_lt f hf (toN L[v])
  have hlen := hok.rows v hL hR
  have hrow := row_ok h.ok hL hR hp
  rw [rowB, Bool.and_eq_true, List.all_eq_true] at hrow
  have hfv := hf v
  have hmul : (pos (sizesN V) f (toN L[v]) + 1) * sz (sizesN V) v ≤ R[v].length := by rw [hlen]; exact Nat.mul_le_mul_right _ hp
  have e1 : (pos (sizesN V) f (toN L[v]) + 1) * sz (sizesN V) v = pos (sizesN V) f (toN L[v]) * sz (sizesN V) v + sz (sizesN V) v := by rw [Nat.add_mul, Nat.one_mul]
  have hcl : (chunkF R[v] (sz (sizesN V) v) (pos (sizesN V) f (toN L[v]))).length = sz (sizesN V) v := by
    rw [chunkF, List.length_take, List.length_drop]
    omega
  have e2 : likF V L R f v = (chunkF R[v] (sz (sizesN V) v) (pos (sizesN V) f (toN L[v])))[f v]'(by rw [hcl]; exact hfv) := by
    rw [likF_eq hL hR, likT, celF_eq (by omega)]
    simp only [chunkF, List.getElem_take, List.getElem_drop]
  have := of_decide_eq_true (hrow.1 _ (List.getElem_mem (by rw [hcl]; exact hfv)))
  rw [e2]
  exact Rat.not_lt.1 this
theorem pK_nonneg {V : List Vr} {L : List (List Int)} {R : List (List Fr)} (h : NM V L R) {k : Nat} (hk : k < cnt (sizesN V) (List.range V.length)) : ¬ pK V L R k < 0 := by
  have hf := fun u => asg_lt h.pos (List.range V.length) k u hk
  have key : ∀ m, m ≤ V.length → 0 ≤ prodV V L R (asg (sizesN V) (List.range V.length) k) m := by
    intro m
    induction m with
    | zero => intro _; show (0 : Rat) ≤ 1; decide
    | succ m ih => intro hm; rw [prodV]; exact Rat.mul_nonneg (ih (by omega)) (lik_nonneg h hf (by omega))
  exact Rat.not_lt.2 (key _ (Nat.le_refl _))
theorem pK_qw {V : List Vr} {L : List (List Int)} {R : List (List Fr)} (h : NM V L R) {k : Nat} (hk : k < cnt (sizesN V) (List.range V.length)) : Fits 19 (pK V L R k) := by
  have h1 := prodV_fits h (fun u => asg_lt h.pos (List.range V.length) k u hk) V.length (Nat.le_refl _)
  obtain ⟨A, D, e1, e2, e3, e4⟩ := h1
  have h6 := h.six
  have hp : (256 : Nat) ^ (1 + 3 * V.length) ≤ 256 ^ 19 := Nat.pow_le_pow_right (by decide) (by omega)
  exact ⟨A, D, e1, e2, Nat.lt_of_lt_of_le e3 hp, Nat.lt_of_lt_of_le e4 hp⟩
theorem cnt_729 {V : List Vr} {L : List (List Int)} {R : List (List Fr)} (h : NM V L R) : cnt (sizesN V) (List.range V.length) ≤ 729 := by
  have h1 := cnt_three (S := sizesN V) h.szs (List.range V.length)
  rw [List.length_range] at h1
  have h2 : 3 ^ V.length ≤ 3 ^ 6 := Nat.pow_le_pow_right (by decide) h.six
  omega
theorem sK_qw {V : List Vr} {L : List (List Int)} {R : List (List Fr)} (h : NM V L R) {k : Nat} (hk : k ≤ cnt (sizesN V) (List.range V.length)) : qw (sumQ (pK V L R) k) ≤ 40000 := by
  have h1 := fits_qw (sumQ_fits' (g := pK V L R) (m := 19) (fun j hj => pK_qw h hj) k hk)
  have h2 := cnt_729 h
  omega
theorem given_up {V : List Vr} {L : List (List Int)} {R : List (List Fr)} (h : NM V L R) {v : Nat} (hv : v < V.length) : Up (gU L v) V.length ∧ (gU L v).length ≤ 4 ∧ (gU L v).contains (v : Int) = true := by
  have hok := netE_ok h.ok
  have hvL : v < L.length := by rw [hok.len]; exact hv
  have eLv : L.getD v [] = L[v] := by rw [List.getD_eq_getElem?_getD, List.getElem?_eq_getElem hvL]; rfl
  refine ⟨by rw [gU, eLv]; exact togL_up (hok.up v hvL) (up_one hv), ?_, ?_⟩
  · rw [← sort_gU hvL (hok.up v hvL) (noSelf_of h.ok hvL), List.length_mergeSort]
    have := h.few L[v] (List.getElem_mem hvL)
    simp
    omega
  · rw [List.contains_iff_mem, gU]
    exact ((togL_rise _ _).2 _).2 (.inr (List.mem_singleton.2 rfl))
theorem given_light {V : List Vr} {L : List (List Int)} {R : List (List Fr)} (h : NM V L R) {v : Nat} (hv : v < V.length) : fw (gL V L R v) ≤ 8192 := by
  have hok := netE_ok h.ok
  have hvL : v < L.length := by rw [hok.len]; exact hv
  have hvR : v < R.length := by rw [hok.lenR]; exact hv
  obtain ⟨hup, h4, _⟩ := given_up h hv
  have hcell : ∀ f ∈ gL V L R v, f.2.1.size + f.2.2.size ≤ 3 := fun f hf => by
    obtain ⟨K, hK, rfl⟩ := List.mem_map.1 hf
    have hK' := List.mem_range.1 hK
    have hff := fun u => asg_lt h.pos (toN (gU L v)) K u hK'
    show (nu _).size + (de _).size ≤ 3
    rw [own_size]
    have hT := likT_lt (S := sizesN V) (P := toN L[v]) hff v
    rw [← hok.rows v hvL hvR] at hT
    rw [likF_eq hvL hvR, celF_eq hT]
    have h1 := qw_val (R[v][likT (sizesN V) (toN L[v]) (asg (sizesN V) (toN (gU L v)) K) v]).1 (R[v][likT (sizesN V) (toN L[v]) (asg (sizesN V) (toN (gU L v)) K) v]).2.1 (R[v][likT (sizesN V) (toN L[v]) (asg (sizesN V) (toN (gU L v)) K) v]).2.2
    have h2 := h.tiny R[v] (List.getElem_mem hvR) _ (List.getElem_mem hT)
    exact Nat.le_trans h1 (by omega)
  have hlen : (gL V L R v).length ≤ 81 := by
    have h1 := cnt_three (S := sizesN V) h.szs (toN (gU L v))
    rw [toN_length] at h1
    have h2 : 3 ^ (gU L v).length ≤ 3 ^ 4 := Nat.pow_le_pow_right (by decide) h4
    simp [gL]
    omega
  have key : ∀ l : List Fr, (∀ f ∈ l, f.2.1.size + f.2.2.size ≤ 3) → fw l ≤ 5 * l.length := by
    intro l
    induction l with
    | nil => intro _; exact Nat.le_refl _
    | cons f l ih =>
      intro hl
      have h1 := hl f List.mem_cons_self
      have h2 := ih fun g hg => hl g (List.mem_cons_of_mem _ hg)
      simp only [fw, List.length_cons]
      omega
  have := key _ hcell
  omega
theorem given_check {V : List Vr} {L : List (List Int)} {R : List (List Fr)} (h : NM V L R) {v : Nat} (hv : v < V.length) : checkA (iL (sizesN V)) (gU L v) (gL V L R v).length = 0 := by
  have hsl : (iL (sizesN V)).length = V.length := by rw [iL_length, sizesN_length]
  exact checkA_yes (countB_of h.fine (by rw [hsl]; exact (given_up h hv).1)) (by rw [toN_iL]; simp [gL])
end Go.Proofs.YtncccbdledcibaaGreatDoor


/- The law NetSums answers true: all assignments of a net that is made are as likely as 1 together, and what is given of a variable is 1 for each assignment of its parents. -/
namespace Go.Proofs.YtncccbdledcibaaGreatDoor
open Go.RowKit Go.Shelf Go.Lib

/-- What the law's innermost loop holds. -/
structure SY (W5 W : World) (B7 B16 : Nat) (x : Value) (q : Option Addr) (cq : Nat) (F : List Fr) (on : Bool) (ox oy : ByteArray) : Prop where
  tb : TBox W B16 x (.slice q F.length cq)
  fr : FrS W q F
  b7 : Box W B7 on ox oy
  bel : Below B7 W5 W
theorem SY.step {W5 W W' : World} {B7 B16 : Nat} {x : Value} {q : Option Addr} {cq : Nat} {F : List Fr} {on : Bool} {ox oy : ByteArray} (h : SY W5 W B7 B16 x q cq F on ox oy) (hb : Below W.heap.size W W') : SY W5 W' B7 B16 x q cq F on ox oy :=
  ⟨h.tb.below hb h.tb.lt, h.fr.below hb, h.b7.below hb h.b7.lt, h.bel.trans (hb.mono (Nat.le_of_lt h.b7.lt))⟩

set_option maxRecDepth 100000 in
set_option maxHeartbeats 8000000 in
theorem netSums_walk (a1 a2 a3 : Option Addr) (c1 c2 c3 : Nat) (L1 L2 L3 : List Int) (bk : Bool) (w : World) (h1 : IntS w a1 L1) (h2 : IntS w a2 L2) (h3 : IntS w a3 L3) (r1 : Rng L1) (r2 : Rng L2) (r3 : Rng L3) :
    Calls Tryz.prog 4 #[.agg #[.slice a1 L1.length c1, .slice a2 L2.length c2, .slice a3 L3.length c3, .bool bk]] w fun e w' => e = .returned (.bool true) ∧ Below w.heap.size w w' := by
  have HMD := hid (fun (U : World) (hB : Below w.heap.size w U) => made_net a1 a2 a3 c1 c2 c3 L1 L2 L3 bk U (h1.below hB) (h2.below hB) (h3.below hB) r1 r2 r3)
  have hrb : (w.alloc (.cells #[.slice a1 L1.length c1, .slice a2 L2.length c2, .slice a3 L3.length c3, .bool bk] 47)).heap[w.heap.size]? = some (.cells #[.slice a1 L1.length c1, .slice a2 L2.length c2, .slice a3 L3.length c3, .bool bk] 47 (0, 0)) := heap_alloc_new w _
  have q0 : (w.alloc (.cells #[.slice a1 L1.length c1, .slice a2 L2.length c2, .slice a3 L3.length c3, .bool bk] 47)).cell? ⟨w.heap.size, 0, none⟩ = some (.slice a1 L1.length c1) := by rw [cell_of_row _ _ _ _ _ (0, 0) hrb]; rfl
  have q1 : (w.alloc (.cells #[.slice a1 L1.length c1, .slice a2 L2.length c2, .slice a3 L3.length c3, .bool bk] 47)).cell? ⟨w.heap.size, 1, none⟩ = some (.slice a2 L2.length c2) := by rw [cell_of_row _ _ _ _ _ (0, 0) hrb]; rfl
  have q2 : (w.alloc (.cells #[.slice a1 L1.length c1, .slice a2 L2.length c2, .slice a3 L3.length c3, .bool bk] 47)).cell? ⟨w.heap.size, 2, none⟩ = some (.slice a3 L3.length c3) := by rw [cell_of_row _ _ _ _ _ (0, 0) hrb]; rfl
  have q3 : (w.alloc (.cells #[.slice a1 L1.length c1, .slice a2 L2.length c2, .slice a3 L3.length c3, .bool bk] 47)).cell? ⟨w.heap.size, 3, none⟩ = some (.bool bk) := by rw [cell_of_row _ _ _ _ _ (0, 0) hrb]; rfl
  have hb0 : Below w.heap.size w (w.alloc (.cells #[.slice a1 L1.length c1, .slice a2 L2.length c2, .slice a3 L3.length c3, .bool bk] 47)) := (Below.refl _ w).alloc (Nat.le_refl _) _
  clear h1 h2 h3 r1 r2 r3 hrb
  go_enter Tryz.func4, Tryz.ntmps4
  go_wp2_with fail
  generalize (w.alloc (.cells #[.slice a1 L1.length c1, .slice a2 L2.length c2, .slice a3 L3.length c3, .bool bk] 47)) = W0 at *
  refine (HMD.out _ hb0).mono ?_
  rintro e W1 ⟨a, b, c, ca, cb, cc, V, L, R, rfl, hN, hLN, hNM, hb1⟩
  have hB1 := hb0.trans (hb1.mono hb0.size)
  clear q0 q1 q2 q3 hb1 hb0
  have hbx := NBox.at (w := W1) rfl (.slice a V.length ca) (.slice b L.length cb) (.slice c R.length cc)
  have hbA : Below W1.heap.size W1 (W1.alloc (NC (.slice a V.length ca) (.slice b L.length cb) (.slice c R.length cc))) := (Below.refl _ W1).alloc (Nat.le_refl _) _
  have hN2 := hN.below hbA
  have hLN2 := hLN.below hN.pars hbA
  have hB2 := hB1.trans (hbA.mono hB1.size)
  have hok := netE_ok hNM.ok
  have hn6 := hNM.six
  have hn1 := hNM.one
  have hsl : (iL (sizesN V)).length = V.length := by rw [iL_length, sizesN_length]
  have hal : (iL (List.range V.length)).length = V.length := by simp [iL]
  have HSZ := hid (fun (U : World) (hU : VsS U a V) => nSizes_any a b c ca cb cc L.length R.length V U hU (by omega))
  have HAL := hid (fun (U : World) (G : Nat) => rAll_any (some ⟨G, 0, none⟩) V.length V.length U (by omega))
  have HCT : Hid (∀ (U : World) (G : Nat) (d : Option Addr) (cd : Nat), RowI U G (sizesN V) → IntS U d (iL (List.range V.length)) → Calls Tryz.prog 18 #[.slice (some ⟨G, 0, none⟩) V.length V.length, .slice d V.length cd] U fun e w' => e = .returned (.tuple #[.int .i64 (cnt (sizesN V) (List.range V.length) : Nat), .int .i64 0]) ∧ Below U.heap.size U w') := fun U G d cd i1 i2 => by
    have h := rCount_in (some ⟨G, 0, none⟩) d V.length cd (iL (sizesN V)) (iL (List.range V.length)) U i1.ints i2 hNM.fine (by rw [hsl]; exact up_all _)
    rwa [hsl, hal, toN_iL, toN_iL] at h
  have HWH : Hid (∀ (U : World) (G : Nat) (d : Option Addr) (cd k : Nat), k < cnt (sizesN V) (List.range V.length) → RowI U G (sizesN V) → IntS U d (iL (List.range V.length)) → Calls Tryz.prog 21 #[.slice (some ⟨G, 0, none⟩) V.length V.length, .slice d V.length cd, .int .i64 (k : Nat)] U fun e w' => ∃ (c' : Option Addr) (cc' : Nat), e = .returned (.tuple #[.slice c' V.length cc', .int .i64 0]) ∧ IntS w' c' (atK V k) ∧ Below U.heap.size U w') := fun U G d cd k hk i1 i2 => by
    have h := rWhere_in (some ⟨G, 0, none⟩) d V.length cd k (iL (sizesN V)) (iL (List.range V.length)) U i1.ints i2 hNM.fine (by rw [hsl]; exact up_all _) (by rw [toN_iL, toN_iL]; exact hk)
    rwa [hsl, hal, toN_iL, toN_iL] at h
  have HJ : Hid (∀ (U : World) (d : Option Addr) (cd k : Nat), k < cnt (sizesN V) (List.range V.length) → NetI U a b c V L R → IntS U d (atK V k) → Calls Tryz.prog 8 #[.agg #[.slice a V.length ca, .slice b L.length cb, .slice c R.length cc], .slice d V.length cd] U fun e w' => e = .returned (.tuple #[frV (qF (pK V L R k)), .int .i64 0]) ∧ Below U.heap.size U w') := fun U d cd k hk i1 i2 => by
    have h := nJoint_any a b c d ca cb cc cd V L R (atK V k) U i1 hNM.small (fun l hl => by have := hNM.light l hl; omega) i2 (by rw [atK_length]; omega) fun U' hU' => check_any a b c ca cb cc V L R U' hU' hNM.small
    obtain ⟨j1, j2⟩ := joint_k hNM hk
    rwa [atK_length, j1, j2] at h
  have HG : Hid (∀ (U : World) (v : Nat), v < V.length → NetI U a b c V L R → LsN U b L → Calls Tryz.prog 6 #[.agg #[.slice a V.length ca, .slice b L.length cb, .slice c R.length cc], .int .i64 (v : Nat)] U fun e w' => TabA (gU L v) (gL V L R v) 0 e w' ∧ Below U.heap.size U w') := fun U v hv i1 i2 =>
    nGiven_yes a b c ca cb cc v V L R U i1 i2 hNM.small (fun l hl => by have := hNM.light l hl; omega) hNM.ok hv fun U' hU' => check_any a b c ca cb cc V L R U' hU' hNM.small
  have HOU : Hid (∀ (U : World) (G : Nat) (p q : Option Addr) (cp cq v : Nat), v < V.length → RowI U G (sizesN V) → IntS U p (gU L v) → FrS U q (gL V L R v) → Calls Tryz.prog 24 #[.slice (some ⟨G, 0, none⟩) V.length V.length, .agg #[.slice p (gU L v).length cp, .slice q (gL V L R v).length cq], .int .i64 (v : Nat), .bool false] U fun e w' => TabA (lessN (gU L v) (v : Int)) (outL (sizesN V) (toN (gU L v)) (toN (lessN (gU L v) (v : Int))) v false (gL V L R v)) 0 e w' ∧ Below U.heap.size U w') := fun U G p q cp cq v hv i1 i2 i3 => by
    obtain ⟨u1, u2, u3⟩ := given_up hNM hv
    have h := rOut_sums (some ⟨G, 0, none⟩) p q V.length cp cq (iL (sizesN V)) (gU L v) (gL V L R v) v U i1.ints i2 i3 (by rw [hsl]; omega) (by omega) (given_check hNM hv) (given_light hNM hv) u3 (by rw [hsl]; exact hv)
    rwa [hsl, toN_iL] at h
  have HON0 : Hid (∀ U : World, Calls Tryz.prog 20 #[.int .i64 1] U fun e w' => e = .returned (frV (qF 1)) ∧ Below U.heap.size U w') := fun U => rOf_one U
  have HZ0 : Hid (∀ U : World, Calls Tryz.prog 20 #[.int .i64 0] U fun e w' => e = .returned (frV (qF 0)) ∧ Below U.heap.size U w') := fun U => rOf_zero U
  have HCM0 : Hid (∀ k, k < cnt (sizesN V) (List.range V.length) → ∃ j : Int, ¬ j < 0 ∧ ∀ U : World, Calls Tryz.prog 22 #[frV (qF (pK V L R k)), frV (qF 0)] U fun e w' => e = .returned (.int .i64 j) ∧ Below U.heap.size U w') := fun k hk => by
    refine ⟨cmpQ (pK V L R k) 0, fun h => pK_nonneg hNM hk (cmpQ_neg.1 h), fun U => ?_⟩
    have hq := fits_qw (pK_qw hNM hk)
    have h := rCmpF_any (sgn (pK V L R k)) (sgn 0) (nu (pK V L R k)) (de (pK V L R k)) (nu 0) (de 0) U (by rw [own_size]; omega) (by rw [own_size]; have := qw_zero; omega)
    rwa [val_own, val_own] at h
  have HAD0 : Hid (∀ k, k < cnt (sizesN V) (List.range V.length) → ∀ U : World, Calls Tryz.prog 23 #[frV (qF (sumQ (pK V L R) k)), frV (qF (pK V L R k))] U fun e w' => e = .returned (frV (qF (sumQ (pK V L R) (k + 1)))) ∧ Below U.heap.size U w') := fun k hk U => by
    have hq := fits_qw (pK_qw hNM hk)
    have hs := sK_qw hNM (Nat.le_of_lt hk)
    have h := rAddF_any (sgn (sumQ (pK V L R) k)) (sgn (pK V L R k)) (nu (sumQ (pK V L R) k)) (de (sumQ (pK V L R) k)) (nu (pK V L R k)) (de (pK V L R k)) U (by rw [own_size]; omega) (by rw [own_size]; omega)
    rw [val_own, val_own] at h
    exact h
  have HTOT : Hid (sumQ (pK V L R) (cnt (sizesN V) (List.range V.length)) = 1) := total_one hNM.ok
  have HC7 := hid (cnt_729 hNM)
  have HO1 : Hid (∀ v (hv : v < V.length) K (h : K < (outL (sizesN V) (toN (gU L v)) (toN (lessN (gU L v) (v : Int))) v false (gL V L R v)).length), (outL (sizesN V) (toN (gU L v)) (toN (lessN (gU L v) (v : Int))) v false (gL V L R v))[K] = qF 1) := fun v hv K h => out_one hNM.ok hv K h
  have HOLN : Hid (∀ v, v < V.length → (outL (sizesN V) (toN (gU L v)) (toN (lessN (gU L v) (v : Int))) v false (gL V L R v)).length ≤ 100000) := fun v hv => by
    obtain ⟨u1, u2, u3⟩ := given_up hNM hv
    have h1 := cnt_three (S := sizesN V) hNM.szs (toN (lessN (gU L v) (v : Int)))
    have h2 : (toN (lessN (gU L v) (v : Int))).length ≤ 4 := by rw [toN_length]; exact Nat.le_trans (List.length_filter_le _ _) u2
    have h3 : 3 ^ (toN (lessN (gU L v) (v : Int))).length ≤ 3 ^ 4 := Nat.pow_le_pow_right (by decide) h2
    simp [outL]
    omega
  have HN2 := hid hN2
  have HLN2 := hid hLN2
  have HBX := hid hbx
  obtain ⟨b0, b1, b2⟩ := hbx.cells
  clear hN hLN hbA hB1 hN2 hLN2 hbx hok hsl hal hNM
  generalize pK V L R = PK at *
  generalize cnt (sizesN V) (List.range V.length) = C0 at *
  go_wp2_with fail
  clear b0 b1 b2
  generalize hB3 : W1.heap.size = B3 at *
  clear hB3
  generalize (W1.alloc (NC (.slice a V.length ca) (.slice b L.length cb) (.slice c R.length cc))) = W2 at *
  refine (HSZ.out _ HN2.out.vars).mono ?_
  rintro e W3 ⟨G, rfl, hG, hrow, hb3⟩
  have HB3 := hid (hB2.trans (hb3.mono hB2.size))
  have HN3 := hid (HN2.out.below hb3)
  have HLN3 := hid (HLN2.out.below HN2.out.pars hb3)
  have HBX3 := hid (HBX.out.below hb3 HBX.out.lt)
  clear HN2 HLN2 HBX hB2 hb3 HSZ hG
  go_wp2_with fail
  refine (HAL.out _ G).mono ?_
  rintro e W4 ⟨x4, rfl, hrw4, hb4⟩
  obtain ⟨d4, cd4, rfl, hi4⟩ := hrw4.ints
  rw [show (iL (List.range V.length)).length = V.length by simp [iL]]
  have hrow4 := hrow.below hb4 hrow.lt
  have HI4 := hid hi4
  have HRW4 := hid hrow4
  clear hrow hrow4 hi4 hrw4
  go_wp2_with fail
  refine (HCT.out _ G d4 cd4 HRW4.out HI4.out).mono ?_
  rintro e W5a ⟨rfl, hb5⟩
  have hb45 := hb4.trans (hb5.mono hb4.size)
  have HR5 := hid (HRW4.out.below hb5 HRW4.out.lt)
  clear HI4 HRW4 HCT hb5
  go_wp2_with fail
  refine (HZ0.out _).mono ?_
  rintro e W5 ⟨rfl, hb6⟩
  have hb46 := hb45.trans (hb6.mono hb45.size)
  have HN5 := hid (HN3.out.below hb46)
  have HLN5 := hid (HLN3.out.below HN3.out.pars hb46)
  have HBX5 := hid (HBX3.out.below hb46 HBX3.out.lt)
  have HB5 := hid (HB3.out.trans (hb46.mono HB3.out.size))
  have HRW5 := hid (HR5.out.below hb6 HR5.out.lt)
  clear hb4 hb45 hb46 hb6 HN3 HLN3 HBX3 HB3 HR5
  have HS0 : Hid (qF (sumQ PK 0) = qF 0) := rfl
  generalize hz0 : qF 0 = fz at *
  clear hz0
  obtain ⟨zn, zx, zy⟩ := fz
  have hX0 := Box.new W5 zn zx zy
  have hBA : Below W5.heap.size W5 (W5.alloc (FC zn zx zy)) := (Below.refl _ W5).alloc (Nat.le_refl _) _
  have HX0 := hid hX0
  have HBA := hid hBA
  clear hX0 hBA
  go_wp2_with fail
  go_loopw [8] (fun iv wr => ∃ k : Nat, k ≤ C0 ∧ iv = .int .i64 k ∧ Hid (Box wr W5.heap.size (qF (sumQ PK k)).1 (qF (sumQ PK k)).2.1 (qF (sumQ PK k)).2.2) ∧ Hid (Below W5.heap.size W5 wr)) (fun iv _ => C0 - (intOf iv).toNat)
  case atStart => exact ⟨0, Nat.zero_le _, rfl, by rw [HS0.out]; exact HX0, HBA⟩
  case round =>
    obtain ⟨k, hk, rfl, HX, HBx⟩ := hrel
    clear HX0 HBA HS0
    have hc7 := HC7.out
    have hbw : Below W5.heap.size W5 wr := HBx.out
    by_cases hlt : k < C0
    · obtain ⟨j, hj0, hcm⟩ := HCM0.out k hlt
      obtain ⟨tn, tx, ty, htq⟩ : ∃ x y z, qF (sumQ PK (k + 1)) = (x, y, z) := ⟨_, _, _, rfl⟩
      obtain ⟨sn, sx, sy, hsq⟩ : ∃ x y z, qF (sumQ PK k) = (x, y, z) := ⟨_, _, _, rfl⟩
      obtain ⟨pn, px, py, hpq⟩ : ∃ x y z, qF (PK k) = (x, y, z) := ⟨_, _, _, rfl⟩
      have HAD := hid (HAD0.out k hlt)
      have HCM := hid hcm
      have HJk := hid (fun (U : World) (d : Option Addr) (cd : Nat) => HJ.out U d cd k hlt)
      have HZ := HZ0
      have HTQ := hid htq
      rw [htq, hsq, hpq] at HAD
      rw [hpq] at HCM HJk
      rw [hsq] at HX
      clear hcm htq hsq hpq
      have hjd : decide (j < 0) = false := decide_eq_false (by omega)
      have HRWr := hid (HRW5.out.below hbw HRW5.out.lt)
      have HNr := hid (HN5.out.below hbw)
      have HBXr := hid (HBX5.out.below hbw HBX5.out.lt)
      clear hbw
      go_wp2_with fail
      refine (HAL.out _ G).mono ?_
      rintro e z1 ⟨x4, rfl, hrw4, hb1⟩
      obtain ⟨d4, cd4, rfl, hi4⟩ := hrw4.ints
      rw [show (iL (List.range V.length)).length = V.length by simp [iL]]
      have HI4 := hid hi4
      clear hrw4 hi4
      go_wp2_with fail
      refine (HWH.out _ G d4 cd4 k hlt (HRWr.out.below hb1 HRWr.out.lt) HI4.out).mono ?_
      rintro e z2 ⟨c', cc', rfl, hi5, hb2⟩
      have hb12 := hb1.trans (hb2.mono hb1.size)
      have HI5 := hid hi5
      clear HI4 hi5 hb1 hb2
      have hbx2 := HBXr.out.below hb12 HBXr.out.lt
      obtain ⟨b0, b1, b2⟩ := hbx2.cells
      clear hbx2
      go_wp2_with fail
      refine (HJk.out _ c' cc' (HNr.out.below hb12) HI5.out).mono ?_
      rintro e z3 ⟨rfl, hb3⟩
      have hb13 := hb12.trans (hb3.mono hb12.size)
      clear b0 b1 b2 hb12 hb3 HI5
      have hb14 := hb13.alloc hb13.size (FC pn px py)
      have hX11 := Box.new z3 pn px py
      have hX7 := HX.out.below hb14 HX.out.lt
      have hBx := HBx.out.trans (hb14.mono (Nat.le_of_lt HX.out.lt))
      clear hb13 hb14 HX HBx HRWr HNr HBXr
      go_upto_region 12 with fail
      generalize hB11 : z3.heap.size = B11 at *
      clear hB11
      generalize (z3.alloc (FC pn px py)) = z11 at *
      replace hX11 : Box z11.drew B11 pn px py := hX11
      replace hX7 : Box z11.drew W5.heap.size sn sx sy := hX7
      replace hBx := hBx.drew
      refine wp_region_held_drew (S := fun u => u.cell? ⟨B11, 0, none⟩ = some (.bool pn) ∧ u.cell? ⟨B11, 1, none⟩ = some (.string px) ∧ u.cell? ⟨B11, 2, none⟩ = some (.string py)) (by kernel_rfl) ⟨hX11.c0, hX11.c1, hX11.c2⟩ (fun hSd => ?_)
      generalize z11.drew = u0 at *
      refine wpAnyH_take (i := 0) (oi := _) (v := .int .i64 0) rfl (by kernel_rfl) (by kernel_rfl) (by kernel_rfl) (fun _ _ _ h => h) (Or.inl ⟨by rfl, ?_⟩) (by assumption) ?_
      · intro u' hSu
        (try simp only [List.getElem_toArray, List.getElem_cons_zero])
        go_simp
      (try simp only [List.getElem_toArray, List.getElem_cons_zero])
      (try simp only [Act.put, List.setIfInBounds_toArray, List.set_cons_zero, List.set_cons_succ])
      refine wpAnyH_take (i := 1) (oi := _) (v := .bool false) rfl (by kernel_rfl) (by kernel_rfl) (by kernel_rfl) (fun _ _ _ h => h) (Or.inl ⟨by rfl, ?_⟩) (by assumption) ?_
      · intro u' hSu
        (try simp only [List.getElem_toArray, List.getElem_cons_zero, List.getElem_cons_succ])
        go_simp
      (try simp only [List.getElem_toArray, List.getElem_cons_zero, List.getElem_cons_succ])
      (try simp only [Act.put, List.setIfInBounds_toArray, List.set_cons_zero, List.set_cons_succ])
      refine wpAnyH_take (i := 2) (oi := _) (v := .bool false) rfl (by kernel_rfl) (by kernel_rfl) (by kernel_rfl) (fun _ _ _ h => h) (Or.inl ⟨by rfl, ?_⟩) (by assumption) ?_
      · intro u' hSu
        (try simp only [List.getElem_toArray, List.getElem_cons_zero, List.getElem_cons_succ])
        go_simp
      (try simp only [List.getElem_toArray, List.getElem_cons_zero, List.getElem_cons_succ])
      (try simp only [Act.put, List.setIfInBounds_toArray, List.set_cons_zero, List.set_cons_succ])
      refine wpAnyH_take (i := 3) (oi := _) (v := .agg #[.bool pn, .string px, .string py]) rfl (by kernel_rfl) (by kernel_rfl) (by kernel_rfl) (fun _ _ _ h => h) (Or.inl ⟨by rfl, ?_⟩) (by assumption) ?_
      · intro u' hSu
        (try simp only [List.getElem_toArray, List.getElem_cons_zero, List.getElem_cons_succ])
        obtain ⟨s1, s2, s3⟩ := hSu
        go_simp
      (try simp only [List.getElem_toArray, List.getElem_cons_zero, List.getElem_cons_succ])
      (try simp only [Act.put, List.setIfInBounds_toArray, List.set_cons_zero, List.set_cons_succ])
      refine wpAnyH_ready (rs := [4]) (by kernel_rfl) (by simp) (AllReadyH.cons rfl ?_ (AllReadyH.nil))
      · intro K' hK'
        (try simp only [List.getElem_toArray, List.getElem_cons_zero, List.getElem_cons_succ])
        go_simp
        refine (HZ.out _).mono ?_
        rintro e9 uu4 ⟨rfl, hb⟩
        replace hX11 := hX11.below hb hX11.lt
        replace hX7 := hX7.below hb hX7.lt
        replace hBx := hBx.trans (hb.mono hBx.size)
        clear hb
        refine hK'.out _ _ ⟨hX11.c0, hX11.c1, hX11.c2⟩ (fun hSe => ?_)
        clear hK' K' hSd
        have hSd := hSe
        clear hSe
        (try simp only [List.getElem_toArray, List.getElem_cons_zero, List.getElem_cons_succ])
        (try simp only [Act.put, List.setIfInBounds_toArray, List.set_cons_zero, List.set_cons_succ])
        refine wpAnyH_ready (rs := [5]) (by kernel_rfl) (by simp) (AllReadyH.cons rfl ?_ (AllReadyH.nil))
        · intro K' hK'
          (try simp only [List.getElem_toArray, List.getElem_cons_zero, List.getElem_cons_succ])
          go_simp
          refine (HCM.out _).mono ?_
          rintro e9 uu5 ⟨rfl, hb⟩
          replace hX11 := hX11.below hb hX11.lt
          replace hX7 := hX7.below hb hX7.lt
          replace hBx := hBx.trans (hb.mono hBx.size)
          clear hb
          refine hK'.out _ _ ⟨hX11.c0, hX11.c1, hX11.c2⟩ (fun hSe => ?_)
          clear hK' K' hSd
          have hSd := hSe
          clear hSe
          (try simp only [List.getElem_toArray, List.getElem_cons_zero, List.getElem_cons_succ])
          (try simp only [Act.put, List.setIfInBounds_toArray, List.set_cons_zero, List.set_cons_succ])
          refine wpAnyH_take (i := 6) (oi := _) (v := .bool false) rfl (by kernel_rfl) (by kernel_rfl) (by kernel_rfl) (fun _ _ _ h => h) (Or.inl ⟨by rfl, ?_⟩) (by assumption) ?_
          · intro u' hSu
            (try simp only [List.getElem_toArray, List.getElem_cons_zero, List.getElem_cons_succ])
            go_simp
          (try simp only [List.getElem_toArray, List.getElem_cons_zero, List.getElem_cons_succ])
          (try simp only [Act.put, List.setIfInBounds_toArray, List.set_cons_zero, List.set_cons_succ])
          refine wpAnyH_take (i := 7) (oi := _) (v := .bool false) rfl (by kernel_rfl) (by kernel_rfl) (by kernel_rfl) (fun _ _ _ h => h) (Or.inl ⟨by rfl, ?_⟩) (by assumption) ?_
          · intro u' hSu
            (try simp only [List.getElem_toArray, List.getElem_cons_zero, List.getElem_cons_succ])
            go_simp
          (try simp only [List.getElem_toArray, List.getElem_cons_zero, List.getElem_cons_succ])
          (try simp only [Act.put, List.setIfInBounds_toArray, List.set_cons_zero, List.set_cons_succ])
          refine wpAnyH_done (by kernel_rfl) ?_ _
          clear hSd
          obtain ⟨q0, q1, q2, -⟩ := hX11.facts
          obtain ⟨s0, s1, s2, -⟩ := hX7.facts
          go_wp2_with fail
          refine (HAD.out _).mono ?_
          rintro e9 z12 ⟨rfl, hb⟩
          replace hX7 := hX7.below hb hX7.lt
          replace hBx := hBx.trans (hb.mono hBx.size)
          clear hb q0 q1 q2 s0 s1 s2 hX11
          obtain ⟨s0, s1, s2, f0, f1, f2⟩ := hX7.facts
          have hpt := hid (hX7.put tn tx ty)
          have hBp := hid (below_put hBx (Nat.le_refl _) (.bool tn) (.string tx) (.string ty))
          clear hX7 hBx
          go_wp2
          go_roundw
          case rel => exact ⟨k + 1, by omega, by go_num, by rw [HTQ.out]; exact hpt, hBp⟩
          case measure => simp [intOf]; omega
    · obtain rfl : C0 = k := by omega
      rw [HTOT.out] at HX
      clear HCM0 HAD0 HTOT HZ0 HJ HWH HAL
      obtain ⟨on, ox, oy, hoq⟩ : ∃ x y z, qF 1 = (x, y, z) := ⟨_, _, _, rfl⟩
      have HON := HON0
      rw [hoq] at HX HON HO1
      have HO2 := HO1
      clear HON0 HO1 hoq hbw
      go_wp2_with fail
      go_loopw [13] (fun iv wr2 => ∃ v : Nat, v ≤ V.length ∧ iv = .int .i64 v ∧ Hid (Box wr2 W5.heap.size on ox oy) ∧ Hid (Below W5.heap.size W5 wr2)) (fun iv _ => V.length - (intOf iv).toNat)
      case atStart => exact ⟨0, Nat.zero_le _, rfl, HX, HBx⟩
      case round =>
        obtain ⟨v, hv, rfl, HX2, HBx2⟩ := hrel
        clear HX HBx
        generalize wr = wr2 at *
        by_cases hvl : v < V.length
        · have hbw : Below W5.heap.size W5 wr2 := HBx2.out
          have HNr := hid (HN5.out.below hbw)
          have HLNr := hid (HLN5.out.below HN5.out.pars hbw)
          have HRWr := hid (HRW5.out.below hbw HRW5.out.lt)
          have hbx2 := HBX5.out.below hbw HBX5.out.lt
          have HO3 := hid (HO2.out v hvl)
          have HOL := HOLN.out v hvl
          have HGv := hid (fun U => HG.out U v hvl)
          have HOv := hid (fun U p q cp cq => HOU.out U G p q cp cq v hvl)
          generalize gL V L R v = F1 at *
          generalize gU L v = T1 at *
          generalize outL (sizesN V) (toN T1) (toN (lessN T1 (v : Int))) v false F1 = F2 at *
          generalize lessN T1 (v : Int) = T2 at *
          obtain ⟨b0, b1, b2⟩ := hbx2.cells
          clear hbx2 hbw
          go_wp2_with fail
          refine (HGv.out _ HNr.out HLNr.out).mono ?_
          rintro e z1 ⟨⟨p1, q1, cp1, cq1, rfl, hi1, hf1⟩, hb1⟩
          clear b0 b1 b2
          have h14 := TBox.at (w := z1) rfl (.slice p1 T1.length cp1) (.slice q1 F1.length cq1)
          have hb2 := hb1.alloc hb1.size (TC (.slice p1 T1.length cp1) (.slice q1 F1.length cq1))
          have hbA : Below z1.heap.size z1 (z1.alloc (TC (.slice p1 T1.length cp1) (.slice q1 F1.length cq1))) := (Below.refl _ z1).alloc (Nat.le_refl _) _
          have HI1 := hid (hi1.below hbA)
          have HF1 := hid (hf1.below hbA)
          obtain ⟨t0, t1, -, -⟩ := h14.facts
          clear hb1 hbA h14 hi1 hf1
          go_wp2_with fail
          clear t0 t1
          generalize (z1.alloc (TC (.slice p1 T1.length cp1) (.slice q1 F1.length cq1))) = z2 at *
          generalize z1.heap.size = B14 at *
          refine (HOv.out _ p1 q1 cp1 cq1 (HRWr.out.below hb2 HRWr.out.lt) HI1.out HF1.out).mono ?_
          rintro e z3 ⟨⟨p2, q2, cp2, cq2, rfl, hi2, hf2⟩, hb3⟩
          have hb23 := hb2.trans (hb3.mono hb2.size)
          have hb4 := hb23.alloc hb23.size (TC (.slice p2 T2.length cp2) (.slice q2 F2.length cq2))
          have hbA : Below z3.heap.size z3 (z3.alloc (TC (.slice p2 T2.length cp2) (.slice q2 F2.length cq2))) := (Below.refl _ z3).alloc (Nat.le_refl _) _
          have HY0 : Hid (SY W5 (z3.alloc (TC (.slice p2 T2.length cp2) (.slice q2 F2.length cq2))) W5.heap.size z3.heap.size (.slice p2 T2.length cp2) q2 cq2 F2 on ox oy) := ⟨TBox.at rfl _ _, hf2.below hbA, HX2.out.below hb4 HX2.out.lt, HBx2.out.trans (hb4.mono (Nat.le_of_lt HX2.out.lt))⟩
          clear hb2 hb3 hb23 hb4 hbA hi2 hf2 HI1 HF1 HX2 HBx2
          go_wp2_with fail
          generalize (z3.alloc (TC (.slice p2 T2.length cp2) (.slice q2 F2.length cq2))) = z4 at *
          generalize z3.heap.size = B16 at *
          go_loopw [17] (fun iv wr3 => ∃ i : Nat, i ≤ F2.length ∧ iv = .int .i64 i ∧ Hid (SY W5 wr3 W5.heap.size B16 (.slice p2 T2.length cp2) q2 cq2 F2 on ox oy)) (fun iv _ => F2.length - (intOf iv).toNat)
          case atStart => exact ⟨0, Nat.zero_le _, rfl, HY0⟩
          case round =>
            obtain ⟨i, hi, rfl, HY⟩ := hrel
            clear HY0
            generalize wr = wr3 at *
            have hT := HY.out.tb
            obtain ⟨-, t1, -, -⟩ := hT.facts
            by_cases hil : i < F2.length
            · obtain ⟨gq, oq, hqe, hgq, m0, m1, m2⟩ := HY.out.fr i hil
              subst hqe
              rw [HO3.out i hil] at m0 m1 m2
              simp only at m0 m1 m2
              go_upto_region 27 with fail
              clear t1
              have HYd := HY.out.step (Below.refl _ _).drew
              change gq < wr3.drew.heap.size at hgq
              change wr3.drew.cell? _ = _ at m0
              change wr3.drew.cell? _ = _ at m1
              change wr3.drew.cell? _ = _ at m2
              replace hT : TBox wr3.drew B16 (.slice p2 T2.length cp2) (.slice (some ⟨gq, oq, none⟩) F2.length cq2) := hT
              refine wp_region_held_drew (S := fun u => u.cell? ⟨B16, 1, none⟩ = some (.slice (some ⟨gq, oq, none⟩) F2.length cq2) ∧ u.cell? ⟨gq, oq + i * 3, none⟩ = some (.bool on) ∧ u.cell? ⟨gq, oq + i * 3 + 1, none⟩ = some (.string ox) ∧ u.cell? ⟨gq, oq + i * 3 + 2, none⟩ = some (.string oy)) (by kernel_rfl) ⟨hT.c1, m0, m1, m2⟩ (fun hSd => ?_)
              generalize wr3.drew = u0 at *
              refine wpAnyH_take (i := 0) (oi := _) (v := .pointer (some ⟨B16, 1, none⟩)) rfl (by kernel_rfl) (by kernel_rfl) (by kernel_rfl) (fun _ _ _ h => h) (Or.inl ⟨by rfl, ?_⟩) (by assumption) ?_
              · intro u' hSu
                (try simp only [List.getElem_toArray, List.getElem_cons_zero])
                go_simp
              (try simp only [List.getElem_toArray, List.getElem_cons_zero])
              (try simp only [Act.put, List.setIfInBounds_toArray, List.set_cons_zero, List.set_cons_succ])
              refine wpAnyH_take (i := 1) (oi := _) (v := .slice (some ⟨gq, oq, none⟩) F2.length cq2) rfl (by kernel_rfl) (by kernel_rfl) (by kernel_rfl) (fun _ _ _ h => h) (Or.inl ⟨by rfl, ?_⟩) (by assumption) ?_
              · intro u' hSu
                (try simp only [List.getElem_toArray, List.getElem_cons_zero, List.getElem_cons_succ])
                obtain ⟨s1, s2, s3, s4⟩ := hSu
                go_simp
              (try simp only [List.getElem_toArray, List.getElem_cons_zero, List.getElem_cons_succ])
              (try simp only [Act.put, List.setIfInBounds_toArray, List.set_cons_zero, List.set_cons_succ])
              refine wpAnyH_take (i := 2) (oi := _) (v := .int .i64 (i : Nat)) rfl (by kernel_rfl) (by kernel_rfl) (by kernel_rfl) (fun _ _ _ h => h) (Or.inl ⟨by rfl, ?_⟩) (by assumption) ?_
              · intro u' hSu
                (try simp only [List.getElem_toArray, List.getElem_cons_zero, List.getElem_cons_succ])
                go_simp
              (try simp only [List.getElem_toArray, List.getElem_cons_zero, List.getElem_cons_succ])
              (try simp only [Act.put, List.setIfInBounds_toArray, List.set_cons_zero, List.set_cons_succ])
              refine wpAnyH_take (i := 3) (oi := _) (v := .pointer (some ⟨gq, oq + i * 3, none⟩)) rfl (by kernel_rfl) (by kernel_rfl) (by kernel_rfl) (fun _ _ _ h => h) (Or.inl ⟨by rfl, ?_⟩) (by assumption) ?_
              · intro u' hSu
                (try simp only [List.getElem_toArray, List.getElem_cons_zero, List.getElem_cons_succ])
                go_simp
              (try simp only [List.getElem_toArray, List.getElem_cons_zero, List.getElem_cons_succ])
              (try simp only [Act.put, List.setIfInBounds_toArray, List.set_cons_zero, List.set_cons_succ])
              refine wpAnyH_take (i := 4) (oi := _) (v := .agg #[.bool on, .string ox, .string oy]) rfl (by kernel_rfl) (by kernel_rfl) (by kernel_rfl) (fun _ _ _ h => h) (Or.inl ⟨by rfl, ?_⟩) (by assumption) ?_
              · intro u' hSu
                (try simp only [List.getElem_toArray, List.getElem_cons_zero, List.getElem_cons_succ])
                obtain ⟨s1, s2, s3, s4⟩ := hSu
                go_simp
              (try simp only [List.getElem_toArray, List.getElem_cons_zero, List.getElem_cons_succ])
              (try simp only [Act.put, List.setIfInBounds_toArray, List.set_cons_zero, List.set_cons_succ])
              refine wpAnyH_ready (rs := [5]) (by kernel_rfl) (by simp) (AllReadyH.cons rfl ?_ (AllReadyH.nil))
              · intro K' hK'
                (try simp only [List.getElem_toArray, List.getElem_cons_zero, List.getElem_cons_succ])
                go_simp
                refine (HON.out _).mono ?_
                rintro e9 uu5 ⟨rfl, hb⟩
                refine hK'.out _ _ ⟨(hb.cell (p := ⟨B16, 1, none⟩) hT.lt).trans hT.c1, (hb.cell (p := ⟨gq, oq + i * 3, none⟩) hgq).trans m0, (hb.cell (p := ⟨gq, oq + i * 3 + 1, none⟩) hgq).trans m1, (hb.cell (p := ⟨gq, oq + i * 3 + 2, none⟩) hgq).trans m2⟩ (fun hSe => ?_)
                have HY2 := hid (HYd.step hb)
                clear hb
                clear hK' K' hSd
                have hSd := hSe
                clear hSe
                (try simp only [List.getElem_toArray, List.getElem_cons_zero, List.getElem_cons_succ])
                (try simp only [Act.put, List.setIfInBounds_toArray, List.set_cons_zero, List.set_cons_succ])
                refine wpAnyH_take (i := 6) (oi := _) (v := .bool false) rfl (by kernel_rfl) (by kernel_rfl) (by kernel_rfl) (fun _ _ _ h => h) (Or.inl ⟨by rfl, ?_⟩) (by assumption) ?_
                · intro u' hSu
                  (try simp only [List.getElem_toArray, List.getElem_cons_zero, List.getElem_cons_succ])
                  go_simp
                (try simp only [List.getElem_toArray, List.getElem_cons_zero, List.getElem_cons_succ])
                (try simp only [Act.put, List.setIfInBounds_toArray, List.set_cons_zero, List.set_cons_succ])
                refine wpAnyH_done (by kernel_rfl) ?_ _
                clear hSd m0 m1 m2 hT
                go_wp2
                go_roundw
                case rel => exact ⟨i + 1, by omega, by go_num, HY2⟩
                case measure => simp [intOf]; omega
            · obtain rfl : i = F2.length := by omega
              have HXe := hid HY.out.b7
              have HBe := hid HY.out.bel
              clear hT
              go_wp2
              go_roundw
              case rel => exact ⟨v + 1, by omega, by go_num, HXe, HBe⟩
              case measure => simp [intOf]; omega
        · obtain rfl : v = V.length := by omega
          have hX7 := HX2.out
          have hBx : Below W5.heap.size W5 wr2 := HBx2.out
          clear HX2 HBx2
          go_upto_region 29 with fail
          replace hX7 : Box wr2.drew W5.heap.size on ox oy := hX7
          replace hBx := hBx.drew
          refine wp_region_held_drew (S := fun u => u.cell? ⟨W5.heap.size, 0, none⟩ = some (.bool on) ∧ u.cell? ⟨W5.heap.size, 1, none⟩ = some (.string ox) ∧ u.cell? ⟨W5.heap.size, 2, none⟩ = some (.string oy)) (by kernel_rfl) ⟨hX7.c0, hX7.c1, hX7.c2⟩ (fun hSd => ?_)
          generalize wr2.drew = u0 at *
          refine wpAnyH_take (i := 0) (oi := _) (v := .agg #[.bool on, .string ox, .string oy]) rfl (by kernel_rfl) (by kernel_rfl) (by kernel_rfl) (fun _ _ _ h => h) (Or.inl ⟨by rfl, ?_⟩) (by assumption) ?_
          · intro u' hSu
            (try simp only [List.getElem_toArray, List.getElem_cons_zero])
            obtain ⟨s1, s2, s3⟩ := hSu
            go_simp
          (try simp only [List.getElem_toArray, List.getElem_cons_zero])
          (try simp only [Act.put, List.setIfInBounds_toArray, List.set_cons_zero, List.set_cons_succ])
          refine wpAnyH_ready (rs := [1]) (by kernel_rfl) (by simp) (AllReadyH.cons rfl ?_ (AllReadyH.nil))
          · intro K' hK'
            (try simp only [List.getElem_toArray, List.getElem_cons_zero, List.getElem_cons_succ])
            go_simp
            refine (HON.out _).mono ?_
            rintro e9 uu1 ⟨rfl, hb⟩
            replace hX7 := hX7.below hb hX7.lt
            replace hBx := hBx.trans (hb.mono hBx.size)
            refine hK'.out _ _ ⟨hX7.c0, hX7.c1, hX7.c2⟩ (fun hSe => ?_)
            clear hb
            clear hK' K' hSd
            have hSd := hSe
            clear hSe
            (try simp only [List.getElem_toArray, List.getElem_cons_zero, List.getElem_cons_succ])
            (try simp only [Act.put, List.setIfInBounds_toArray, List.set_cons_zero, List.set_cons_succ])
            refine wpAnyH_take (i := 2) (oi := _) (v := .bool true) rfl (by kernel_rfl) (by kernel_rfl) (by kernel_rfl) (fun _ _ _ h => h) (Or.inl ⟨by rfl, ?_⟩) (by assumption) ?_
            · intro u' hSu
              (try simp only [List.getElem_toArray, List.getElem_cons_zero, List.getElem_cons_succ])
              go_simp
            (try simp only [List.getElem_toArray, List.getElem_cons_zero, List.getElem_cons_succ])
            (try simp only [Act.put, List.setIfInBounds_toArray, List.set_cons_zero, List.set_cons_succ])
            refine wpAnyH_take (i := 3) (oi := _) (v := .bool true) rfl (by kernel_rfl) (by kernel_rfl) (by kernel_rfl) (fun _ _ _ h => h) (Or.inl ⟨by rfl, ?_⟩) (by assumption) ?_
            · intro u' hSu
              (try simp only [List.getElem_toArray, List.getElem_cons_zero, List.getElem_cons_succ])
              go_simp
            (try simp only [List.getElem_toArray, List.getElem_cons_zero, List.getElem_cons_succ])
            (try simp only [Act.put, List.setIfInBounds_toArray, List.set_cons_zero, List.set_cons_succ])
            refine wpAnyH_done (by kernel_rfl) ?_ _
            clear hSd
            go_wp2
            go_ret
            exact ⟨rfl, HB5.out.trans (hBx.mono HB5.out.size)⟩
end Go.Proofs.YtncccbdledcibaaGreatDoor


/- A lifting that hands on the world's shape beside what the row lists; fractions opened and shut. -/
namespace Go.Proofs.YtncccbdledcibaaGreatDoor
open Go.ChangeShapes Go.WideShapes Go.ChangeAt Go.RowKit

theorem lift_shaped {H : Type} {enc : TypeId × Value → H} {a : Assume} {C : Checked} {os : Os} {f : FuncId} {fn : Func} {s : ChangeSpec} {conds : List PathCond} {apart fresh handsOn again : Bool} {X : World → Array Value → Prop}
    (hX : ∀ (w w' : World) (args : Array Value), w.heap = w'.heap → X w args → X w' args)
    (own : ownKnob C.prog.godebug = none) (started : os.Started) (noInit : C.prog.inits.idxOf? f = none) (hfn : C.prog.funcs[f]? = some fn)
    (witness : ∃ (w : World) (tape : Tape) (i : Input), w.os = os ∧ (w.forCall tape i).Shaped C.prog ∧ i.vars = [] ∧ Input.okWide C.prog (w.forCall tape i) .any w.heap.size f i ∧
      ((s.pre enc C.prog fn conds apart (w.forCall tape i).memory i.args ∧ X (w.forCall tape i).memory i.args) ∧ sizedMet enc C.prog fn (OpenSpec.ofChange s) apart (w.forCall tape i).memory i.args) ∧ a.holds C.prog (lone (Frame.enter C.prog f i.args .normal) [] (w.forCall tape i)))
    (walk : ∀ (W : World) (base : Nat) (args : Array Value) (ds gs : List (DataW H)) (before : List MemPlace),
      (∀ (j : Nat) t v, fn.params[j]? = some t → args[j]? = some v → Value.okWide C.prog W .any base t v) →
      DataW.Whole enc C.prog fn.params.toList s.vars apart W args.toList ds gs before →
      (DataW.weightsEach C.prog (fn.params.toList ++ s.plain.varTypes C.prog) (ds ++ gs)).all (· ≤ reachBytes) = true → X W args → W.ShapedOpen C.prog →
      Calls C.prog f args W fun e W' => ∃ v, e = .returned v ∧ s.post enc C.prog fn apart fresh handsOn again W args v W') :
    ReturnsInHanded a C os f .any (fun w args => (s.pre enc C.prog fn conds apart w args ∧ X w args) ∧ sizedMet enc C.prog fn (OpenSpec.ofChange s) apart w args) (s.post enc C.prog fn apart fresh handsOn again) := by
  refine returnsInHanded_of_calls own started noInit witness ?_
  intro w tape i _ hsh _ hok hpre _
  obtain ⟨_, _, _, fn', hfn', _, _, _, _, hval⟩ := hok
  obtain rfl : fn' = fn := Option.some.inj (hfn'.symm.trans hfn)
  obtain ⟨⟨⟨ds, gs, before, hw, _⟩, hx⟩, hz⟩ := hpre
  refine (walk (w.forCall tape i) w.heap.size i.args ds gs before hval (DataW.Whole.of_heap (w' := w.forCall tape i) (by rfl) hw) (hz.weights hw) (hX _ _ _ (by rfl) hx) hsh).mono fun e W' ⟨v, he, hp⟩ => ?_
  subst he
  exact ChangeSpec.post_blind hp

theorem cellsF : Tryz.prog.cellsOf 37 = 3 := by kernel_rfl
theorem cellsB : Tryz.prog.cellsOf 4 = 1 := by kernel_rfl
theorem cellsN : Tryz.prog.cellsOf 35 = 1 := by kernel_rfl
set_option maxRecDepth 100000 in
theorem open_frac {H : Type} {enc : TypeId × Value → H} {W : World} {r : Reach} {b0 base : Nat} {sp : Nat → Bool} {held : Bool} {v : Value} {d : DataW H} {p : List MemPlace} (hval : Value.okWide Tryz.prog W r b0 37 v) (h : DataW.Trod enc Tryz.prog W base sp held 37 v d p) :
    ∃ (n : Bool) (x y : ByteArray), v = .agg #[.bool n, .string x, .string y] ∧ d = .agg [.lit (.bool n), .lit (.string x.data.toList), .lit (.string y.data.toList)] ∧ p = [] ∧ x.size ≤ maxLen ∧ y.size ≤ maxLen := by
  obtain ⟨cs, rfl, hsz⟩ := okWide_struct Tryz.underlying37 hval
  rw [cellsF] at hsz
  obtain ⟨l⟩ := cs
  match l, hsz with
  | [c0, c1, c2], _ =>
    obtain ⟨fuel, hf⟩ := h
    obtain ⟨y0, y1, y2, m, hx, _, hy0, hy1, hy2⟩ := Deep.trod_struct3 Tryz.underlying37 hf
    obtain ⟨n, e0, rfl⟩ := DataW.trod_bool Tryz.underlying4 hy0
    obtain ⟨x, e1, rfl, hx1⟩ := DataW.trod_string Tryz.underlying35 hy1
    obtain ⟨y, e2, rfl, hx2⟩ := DataW.trod_string Tryz.underlying35 hy2
    simp [Value.cells, cellsB, cellsN] at e0 e1 e2
    subst e0 e1 e2
    simp only [Prod.mk.injEq] at hx
    exact ⟨n, x, y, rfl, hx.1, by simpa using hx.2, hx1, hx2⟩
set_option maxRecDepth 100000 in
theorem shut_frac {H : Type} {enc : TypeId × Value → H} {W : World} {base : Nat} {sp : Nat → Bool} {held : Bool} {n : Bool} {x y : ByteArray} (hx : x.size ≤ maxLen) (hy : y.size ≤ maxLen) :
    DataW.Trod enc Tryz.prog W base sp held 37 (.agg #[.bool n, .string x, .string y]) (.agg [.lit (.bool n), .lit (.string x.data.toList), .lit (.string y.data.toList)]) [] := ⟨2, by
  have f0 : DataW.trod enc Tryz.prog W base sp held 1 4 [.bool n] = some (.lit (.bool n), []) := by simp [DataW.trod, Tryz.underlying4]
  have f1 : DataW.trod enc Tryz.prog W base sp held 1 35 [.string x] = some (.lit (.string x.data.toList), []) := by simp [DataW.trod, Tryz.underlying35, hx]
  have f2 : DataW.trod enc Tryz.prog W base sp held 1 35 [.string y] = some (.lit (.string y.data.toList), []) := by simp [DataW.trod, Tryz.underlying35, hy]
  have := Deep.trod_struct3_mk (enc := enc) (w := W) (base := base) (spare := sp) (held := held) (n := 1) (cs := [.bool n, .string x, .string y]) Tryz.underlying37 (by simp [cellsF]) (by simpa [cellsB] using f0) (by simpa [cellsN] using f1) (by simpa [cellsN] using f2)
  simpa [Value.cells] using this⟩
theorem sized_frac {H : Type} {ts : List TypeId} {ds : List (DataW H)} (h : (DataW.weightsEach Tryz.prog ts ds).all (· ≤ reachBytes) = true) {j : Nat} {n : Bool} {x y : ByteArray} (ht : ts[j]? = some 37) (hd : ds[j]? = some (.agg [.lit (.bool n), .lit (.string x.data.toList), .lit (.string y.data.toList)])) : x.size ≤ 140737488355328 ∧ y.size ≤ 140737488355328 := by
  have h1 := List.all_eq_true.1 h _ (DataW.weights_mem_each ht hd x.data.toList.length (by simp [DataW.weights, Tryz.underlying37, DataW.weightsEach]))
  have h2 := List.all_eq_true.1 h _ (DataW.weights_mem_each ht hd y.data.toList.length (by simp [DataW.weights, Tryz.underlying37, DataW.weightsEach]))
  have h1' : x.data.toList.length ≤ reachBytes := by simpa using h1
  have h2' : y.data.toList.length ≤ reachBytes := by simpa using h2
  rw [bytes_len] at h1' h2'
  simp only [reachBytes] at h1' h2'
  constructor <;> omega
end Go.Proofs.YtncccbdledcibaaGreatDoor

/- A slice of fractions that came in, opened. -/
namespace Go.Proofs.YtncccbdledcibaaGreatDoor
open Go.ChangeShapes Go.WideShapes Go.ChangeAt Go.RowKit

theorem cell_lt {w : World} {a : Addr} {v : Value} (h : w.cell? a = some v) : a.block < w.heap.size := by
  rcases Nat.lt_or_ge a.block w.heap.size with h1 | h1
  · exact h1
  · simp [World.cell?, Array.getElem?_eq_none h1] at h
/-- What a fraction reads as. -/
def fd {H : Type} (f : Fr) : DataW H := .agg [.lit (.bool f.1), .lit (.string f.2.1.data.toList), .lit (.string f.2.2.data.toList)]
set_option maxRecDepth 100000 in
theorem open_fracs {H : Type} {enc : TypeId × Value → H} {W : World} {r : Reach} {b0 : Nat} {v : Value} {d : DataW H} {p : List MemPlace} (hval : Value.okWide Tryz.prog W r b0 29 v) (h : DataW.Trod enc Tryz.prog W 0 (fun _ => true) true 29 v d p) :
    ∃ (a : Option Addr) (cap : Nat) (l : List Fr), v = .slice a l.length cap ∧ FrS W a l ∧ ((d = .nil ∧ l = []) ∨ ∃ rest, d = .slice (l.map fd) rest) := by
  obtain ⟨a, len, cap, rfl⟩ := okWide_slice Tryz.underlying29 hval
  obtain ⟨fuel, hf⟩ := h
  rcases Deep.open_slice Tryz.underlying29 hf with ⟨hcs, hx⟩ | ⟨a', len', cap', m, n, D, Pl, hcs, hb, hl, hm, hmm, hx, hel⟩
  · simp [Value.cells] at hcs
    obtain ⟨rfl, rfl, rfl⟩ := hcs
    simp only [Prod.mk.injEq] at hx
    exact ⟨none, 0, [], rfl, fun k hk => absurd hk (by simp), .inl ⟨hx.1, rfl⟩⟩
  · simp [Value.cells] at hcs
    obtain ⟨rfl, rfl, rfl⟩ := hcs
    simp only [Prod.mk.injEq] at hx
    have hlm : len ≤ m := by rw [hmm]; split <;> omega
    rw [cellsF] at hel
    have each : ∀ i, i < len → ∃ f : Fr, (W.cell? (a'.add (i * 3)) = some (.bool f.1) ∧ W.cell? (a'.add (i * 3 + 1)) = some (.string f.2.1) ∧ W.cell? (a'.add (i * 3 + 2)) = some (.string f.2.2)) ∧ D i = fd f := by
      intro i hi
      obtain ⟨cs', h1, h2⟩ := hel i (by omega)
      obtain ⟨_, hlen, hcell⟩ := World.cells?_some h1
      match cs', hlen with
      | [c0, c1, c2], _ =>
        obtain ⟨y0, y1, y2, k, hxx, _, hy0, hy1, hy2⟩ := Deep.trod_struct3 Tryz.underlying37 h2
        obtain ⟨nn, e0, rfl⟩ := DataW.trod_bool Tryz.underlying4 hy0
        obtain ⟨x, e1, rfl, hx1⟩ := DataW.trod_string Tryz.underlying35 hy1
        obtain ⟨y, e2, rfl, hx2⟩ := DataW.trod_string Tryz.underlying35 hy2
        simp [cellsB, cellsN] at e0 e1 e2
        subst e0 e1 e2
        simp only [Prod.mk.injEq] at hxx
        have g0 := hcell 0 (by omega)
        have g1 := hcell 1 (by omega)
        have g2 := hcell 2 (by omega)
        rw [Deep.add_add] at g0 g1 g2
        exact ⟨(nn, x, y), ⟨by simpa using g0, by simpa using g1, by simpa using g2⟩, hxx.1⟩
    obtain ⟨f, hf2⟩ := Deep.choose_lt (α := Fr) each
    refine ⟨some a', cap, (List.range len).map f, by simp, ?_, .inr ⟨(List.range (m - len)).map fun j => D (len + j), ?_⟩⟩
    · intro k hk
      have hk' : k < len := by simpa using hk
      obtain ⟨⟨g0, g1, g2⟩, _⟩ := hf2 k hk'
      obtain ⟨⟨z0, _, _⟩, _⟩ := hf2 0 (by omega)
      have hsp := World.cell?_spot z0
      obtain ⟨bb, oo, sp⟩ := a'
      rw [Nat.zero_mul] at hsp
      simp [Addr.add] at hsp
      subst hsp
      rw [add_plain] at g0 g1 g2
      refine ⟨bb, oo, rfl, cell_lt g0, ?_, ?_, ?_⟩
      · simpa using g0
      · simpa [Nat.add_assoc] using g1
      · simpa [Nat.add_assoc] using g2
    · rw [hx.1]
      congr 1
      rw [List.map_map]
      exact List.map_congr_left fun i hi => (hf2 i (List.mem_range.1 hi)).2

theorem weights_all {H : Type} {P : Program} {e : TypeId} {n : Nat} : ∀ {l : List (DataW H)} {d : DataW H}, d ∈ l → n ∈ d.weights P e → n ∈ DataW.weightsAll P e l
  | x :: l, d, hd, hn => by
    simp only [DataW.weightsAll, List.mem_append]
    rcases List.mem_cons.1 hd with rfl | hd
    · exact .inl hn
    · exact .inr (weights_all hd hn)
theorem bytesF : Tryz.prog.bytesOf 37 = 40 := by kernel_rfl
theorem sized_fracs {H : Type} {ts : List TypeId} {ds : List (DataW H)} (h : (DataW.weightsEach Tryz.prog ts ds).all (· ≤ reachBytes) = true) {j : Nat} {l : List Fr} {rest : List (DataW H)} (ht : ts[j]? = some 29) (hd : ds[j]? = some (.slice (l.map fd) rest)) :
    l.length ≤ 140737488355328 ∧ ∀ f ∈ l, f.2.1.size ≤ 140737488355328 ∧ f.2.2.size ≤ 140737488355328 := by
  constructor
  · have h1 := List.all_eq_true.1 h _ (DataW.weights_mem_each ht hd (((l.map (fd (H := H))).length + rest.length) * Tryz.prog.bytesOf 37) (by simp [DataW.weights, Tryz.underlying29]))
    have h1' : ((l.map (fd (H := H))).length + rest.length) * Tryz.prog.bytesOf 37 ≤ reachBytes := by simpa using h1
    rw [bytesF, List.length_map] at h1'
    simp only [reachBytes] at h1'
    omega
  · intro f hf
    have hin : ∀ n, n ∈ (fd (H := H) f).weights Tryz.prog 37 → n ≤ reachBytes := fun n hn => by
      have := List.all_eq_true.1 h _ (DataW.weights_mem_each ht hd n (by
        simp only [DataW.weights, Tryz.underlying29, List.mem_cons, List.mem_append]
        exact .inr (.inl (weights_all (List.mem_map_of_mem hf) hn))))
      simpa using this
    have a1 := hin f.2.1.data.toList.length (by simp [fd, DataW.weights, Tryz.underlying37, DataW.weightsEach])
    have a2 := hin f.2.2.data.toList.length (by simp [fd, DataW.weights, Tryz.underlying37, DataW.weightsEach])
    rw [bytes_len] at a1 a2
    simp only [reachBytes] at a1 a2
    constructor <;> omega
end Go.Proofs.YtncccbdledcibaaGreatDoor
