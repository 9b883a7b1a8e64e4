/- Package table: Fix. -/
import Derived.Test.YtknlhejhnopnaaaGreatDoorFixAOwn
namespace Go.Proofs.YtknlhejhnopnaaaGreatDoor
open Go.RowKit Go.Shelf

/-- What a call on one table holds: the table, and its result's block. -/
def NR (w V : World) (T R : Nat) (u v : Value) : Prop := TBox V T u v ∧ TBox V R (.slice none 0 0) (.slice none 0 0) ∧ Below w.heap.size w V
theorem NR.step {w V V' : World} {T R : Nat} {u v : Value} (h : NR w V T R u v) (hb : Below V.heap.size V V') : NR w V' T R u v := ⟨h.1.below hb h.1.lt, h.2.1.below hb h.2.1.lt, h.2.2.trans (hb.mono h.2.2.size)⟩
theorem NR.drew {w V : World} {T R : Nat} {u v : Value} (h : NR w V T R u v) : NR w V.drew T R u v := ⟨h.1, h.2.1, h.2.2.drew⟩
theorem NR.off {w V : World} {T R : Nat} {u v : Value} (h : NR w V T R u v) (B j : Nat) (y : Value) (hT : T ≠ B) (hR : R ≠ B) (hB : w.heap.size ≤ B) : NR w (V.setCell ⟨B, j, none⟩ y) T R u v := ⟨h.1.off B j y hT, h.2.1.off B j y hR, h.2.2.setCell (p := ⟨B, j, none⟩) hB y⟩
theorem NR.fin {w V : World} {T R : Nat} {u v : Value} (h : NR w V T R u v) (hR : w.heap.size ≤ R) {vars : List Int} {b : Option Addr} {cb : Nat} {l : List Fr} {G cc : Nat} (hi : IntS V b vars) (hr : RowF V G l) (hG : G ≠ R) (x y : Value) (hx : x = .slice b vars.length cb) (hy : y = .slice (some ⟨G, 0, none⟩) l.length cc) :
    TBox ((V.setCell ⟨R, 0, none⟩ x).setCell ⟨R, 1, none⟩ y) R x y ∧ TabA vars l 0 (.returned (.tuple #[.agg #[x, y], .int .i64 0])) ((V.setCell ⟨R, 0, none⟩ x).setCell ⟨R, 1, none⟩ y) ∧ Below w.heap.size w ((V.setCell ⟨R, 0, none⟩ x).setCell ⟨R, 1, none⟩ y) := by
  subst hx hy
  exact ⟨h.2.1.put _ _, ⟨b, some ⟨G, 0, none⟩, cb, cc, rfl, hi.putT h.2.1 (slv _ _ _) (slv _ _ _) (slv _ _ _) _, ((hr.off _ 0 _ hG).off _ 1 _ hG).fr⟩, below_put2 h.2.2 hR _ _⟩
theorem up_iff {l : List Int} {n : Nat} : Up l n ↔ (∀ x ∈ l, 0 ≤ x ∧ x < n) ∧ l.Pairwise (· < ·) := by
  constructor
  · intro h
    refine ⟨fun x hx => ?_, List.pairwise_iff_getElem.2 fun i j hi hj hij => h.lt i j hj hij⟩
    obtain ⟨i, hi, rfl⟩ := List.getElem_of_mem hx
    exact h.each i hi
  · rintro ⟨h1, h2⟩
    exact ⟨fun i hi => h1 _ (List.getElem_mem hi), fun i j hj hi => List.pairwise_iff_getElem.1 h2 i j (by omega) hj hi⟩
theorem lessN_up {vars : List Int} {n : Nat} (h : Up vars n) (v : Int) : Up (lessN vars v) n := by
  rw [up_iff] at h ⊢
  exact ⟨fun x hx => h.1 x (List.mem_filter.1 hx).1, h.2.filter _⟩
theorem lessN_out {vars : List Int} {n v : Nat} (h : Up vars n) : ¬ v ∈ toN (lessN vars (v : Int)) := fun hm => by
  obtain ⟨x, hx, e⟩ := List.mem_map.1 hm
  have h1 := (up_iff.1 (lessN_up h v)).1 x hx
  have h2 := (List.mem_filter.1 hx).2
  simp at h2
  omega
theorem fixL_length (S vars rest : List Nat) (v x : Nat) (l : List Fr) : (fixL S vars rest v x l).length = cnt S rest := by simp [fixL]
theorem fixL_get (S vars rest : List Nat) (v x : Nat) (l : List Fr) {k : Nat} (h : k < (fixL S vars rest v x l).length) : (fixL S vars rest v x l)[k] = qF (frQ (celF l (pos S (withV (asg S rest k) v x) vars))) := by simp [fixL]
theorem StandW.shape {W : World} {n m : Nat} {f : Value} {a b : Option Addr} {ca cb : Nat} {sizes vars other : List Int} {v : Nat} (h : StandW W n m f a b ca cb sizes vars other v) : ∃ lb, f = .func (.func 113) #[] lb := by
  obtain ⟨_, _, _, he, _⟩ := h
  exact ⟨_, he⟩
theorem StandW.top {W : World} {n m : Nat} {f : Value} {a b : Option Addr} {ca cb : Nat} {sizes vars other : List Int} {v : Nat} (h : StandW W n m f a b ca cb sizes vars other v) : m ≤ W.heap.size := by
  obtain ⟨_, _, _, _, _, _, _, _, hm, _⟩ := h
  exact hm
theorem StandW.below {W V : World} {n m : Nat} {f : Value} {a b : Option Addr} {ca cb : Nat} {sizes vars other : List Int} {v : Nat} (h : StandW W n m f a b ca cb sizes vars other v) (hb : Below W.heap.size W V) : StandW V n m f a b ca cb sizes vars other v := h.kept (KeepsIn.of_below hb h.top)
/-- The place of an assignment with one more value is a place. -/
theorem with_lt {sizes vars rest : List Int} {v x K m : Nat} (hk : checkA sizes vars m = 0) (hK : K < cnt (toN sizes) (toN rest)) (hx : x < sz (toN sizes) v) : pos (toN sizes) (withV (asg (toN sizes) (toN rest) K) v x) (toN vars) < m := by
  obtain ⟨h1, h2, h3⟩ := checkA_parts hk
  rw [h3]
  exact pos_lt _ (withV_lt (fun u => asg_lt h1.pos _ _ u hK) hx) _
set_option maxRecDepth 100000 in
set_option maxHeartbeats 400000 in
theorem tFix_no (a b c : Option Addr) (ca cb cc m : Nat) (sizes vars : List Int) (v x : Int) (w : World) (hs : IntS w a sizes) (hv : IntS w b vars) (hn : sizes.length ≤ 140737488355328) (hm : vars.length ≤ 140737488355328) (hk : checkA sizes vars m ≠ 0) :
    Calls Tryz.prog 22 #[.slice a sizes.length ca, .agg #[.slice b vars.length cb, .slice c m cc], .int .i64 v, .int .i64 x] w fun e w' => TabA [] [] (checkA sizes vars m) e w' ∧ Below w.heap.size w w' := by
  have HC := hid (fun V h1 h2 => tCheck_any a b c ca cb cc m sizes vars V h1 h2 hn hm)
  generalize checkA sizes vars m = r at *
  have HS := hid hs
  have HV := hid hv
  have hH : NR w (((w.alloc (TC (.slice b vars.length cb) (.slice c m cc))).alloc (.cells #[.int .i64 x] 3)).alloc (TC (.slice none 0 0) (.slice none 0 0))) w.heap.size (w.heap.size + 1 + 1) (.slice b vars.length cb) (.slice c m cc) := ⟨((TBox.at (w := w) rfl _ _).alloc _).alloc _, TBox.at (by simp) _ _, (((Below.refl _ w).alloc (Nat.le_refl _) _).alloc (by simp) _).alloc (by simp; omega) _⟩
  have hX : Boxed (((w.alloc (TC (.slice b vars.length cb) (.slice c m cc))).alloc (.cells #[.int .i64 x] 3)).alloc (TC (.slice none 0 0) (.slice none 0 0))) (w.heap.size + 1) 3 (.int .i64 x) := by
    have h := (Boxed.new (w.alloc (TC (.slice b vars.length cb) (.slice c m cc))) 3 (.int .i64 x)).alloc (TC (.slice none 0 0) (.slice none 0 0))
    rwa [World.size_alloc] at h
  have c0 := hH.1.c0
  have c1 := hH.1.c1
  go_enter Tryz.func22, Tryz.ntmps22
  go_wp2_with fail
  generalize (((w.alloc (TC (.slice b vars.length cb) (.slice c m cc))).alloc (.cells #[.int .i64 x] 3)).alloc (TC (.slice none 0 0) (.slice none 0 0))) = W at *
  refine (HC.out _ (HS.out.below hH.2.2) (HV.out.below hH.2.2)).mono ?_
  rintro e w1 ⟨rfl, hb1⟩
  replace hH := hH.step hb1
  replace hX := boxed_keep hX hb1
  clear c0 c1 hb1
  have hrb : (r == 0) = false := by simp [hk]
  obtain ⟨k0, k1, f0, f1⟩ := hH.2.1.facts
  go_wp2
  refine bodyPost_ret ((hH.2.1.put _ _).result2 rfl _ rfl) rfl ?_
  exact ⟨TabA.empty _ _, below_put2 hH.2.2 (by omega) _ _⟩
set_option maxRecDepth 100000 in
set_option maxHeartbeats 400000 in
theorem tFix_var (a b c : Option Addr) (ca cb cc m : Nat) (sizes vars : List Int) (v x : Int) (w : World) (hs : IntS w a sizes) (hv : IntS w b vars) (hn : sizes.length ≤ 140737488355328) (hm : vars.length ≤ 140737488355328) (hk : checkA sizes vars m = 0) (hv' : ¬ (0 ≤ v ∧ v < (sizes.length : Int))) :
    Calls Tryz.prog 22 #[.slice a sizes.length ca, .agg #[.slice b vars.length cb, .slice c m cc], .int .i64 v, .int .i64 x] w fun e w' => TabA [] [] 11 e w' ∧ Below w.heap.size w w' := by
  have HCK := fun V h1 h2 => tCheck_any a b c ca cb cc m sizes vars V h1 h2 hn hm
  rw [hk] at HCK
  have HC := hid HCK
  clear HCK
  have HS := hid hs
  have HV := hid hv
  have hH : NR w (((w.alloc (TC (.slice b vars.length cb) (.slice c m cc))).alloc (.cells #[.int .i64 x] 3)).alloc (TC (.slice none 0 0) (.slice none 0 0))) w.heap.size (w.heap.size + 1 + 1) (.slice b vars.length cb) (.slice c m cc) := ⟨((TBox.at (w := w) rfl _ _).alloc _).alloc _, TBox.at (by simp) _ _, (((Below.refl _ w).alloc (Nat.le_refl _) _).alloc (by simp) _).alloc (by simp; omega) _⟩
  have hX : Boxed (((w.alloc (TC (.slice b vars.length cb) (.slice c m cc))).alloc (.cells #[.int .i64 x] 3)).alloc (TC (.slice none 0 0) (.slice none 0 0))) (w.heap.size + 1) 3 (.int .i64 x) := by
    have h := (Boxed.new (w.alloc (TC (.slice b vars.length cb) (.slice c m cc))) 3 (.int .i64 x)).alloc (TC (.slice none 0 0) (.slice none 0 0))
    rwa [World.size_alloc] at h
  have c0 := hH.1.c0
  have c1 := hH.1.c1
  go_enter Tryz.func22, Tryz.ntmps22
  go_wp2_with fail
  generalize (((w.alloc (TC (.slice b vars.length cb) (.slice c m cc))).alloc (.cells #[.int .i64 x] 3)).alloc (TC (.slice none 0 0) (.slice none 0 0))) = W at *
  refine (HC.out _ (HS.out.below hH.2.2) (HV.out.below hH.2.2)).mono ?_
  rintro e w1 ⟨rfl, hb1⟩
  replace hH := hH.step hb1
  replace hX := boxed_keep hX hb1
  clear c0 c1 hb1
  obtain ⟨k0, k1, f0, f1⟩ := hH.2.1.facts
  by_cases h0 : v < 0
  · go_wp2
    refine bodyPost_ret ((hH.2.1.put _ _).result2 rfl _ rfl) rfl ?_
    exact ⟨TabA.empty _ _, below_put2 hH.2.2 (by omega) _ _⟩
  · have h0' : 0 ≤ v := by omega
    have h1 : (sizes.length : Int) ≤ v := by omega
    clear hv'
    go_wp2
    refine bodyPost_ret ((hH.2.1.put _ _).result2 rfl _ rfl) rfl ?_
    exact ⟨TabA.empty _ _, below_put2 hH.2.2 (by omega) _ _⟩
set_option maxRecDepth 100000 in
set_option maxHeartbeats 400000 in
theorem tFix_val (a b c : Option Addr) (ca cb cc m : Nat) (sizes vars : List Int) (v : Nat) (x : Int) (w : World) (hs : IntS w a sizes) (hv : IntS w b vars) (hn : sizes.length ≤ 140737488355328) (hm : vars.length ≤ 140737488355328) (hk : checkA sizes vars m = 0) (hv' : v < sizes.length) (hx' : ¬ (0 ≤ x ∧ x < (sz (toN sizes) v : Int))) :
    Calls Tryz.prog 22 #[.slice a sizes.length ca, .agg #[.slice b vars.length cb, .slice c m cc], .int .i64 (v : Nat), .int .i64 x] w fun e w' => TabA [] [] 12 e w' ∧ Below w.heap.size w w' := by
  have HIV := hid (fun V h => isValue_any a ca sizes v x V h (checkA_parts hk).1 hv')
  rw [decide_eq_false hx'] at HIV
  have HCK := fun V h1 h2 => tCheck_any a b c ca cb cc m sizes vars V h1 h2 hn hm
  rw [hk] at HCK
  have HC := hid HCK
  clear HCK
  have h0 : (0 : Int) ≤ (v : Int) := by omega
  have h1 : (v : Int) < (sizes.length : Int) := by omega
  clear hx'
  have HS := hid hs
  have HV := hid hv
  have hH : NR w (((w.alloc (TC (.slice b vars.length cb) (.slice c m cc))).alloc (.cells #[.int .i64 x] 3)).alloc (TC (.slice none 0 0) (.slice none 0 0))) w.heap.size (w.heap.size + 1 + 1) (.slice b vars.length cb) (.slice c m cc) := ⟨((TBox.at (w := w) rfl _ _).alloc _).alloc _, TBox.at (by simp) _ _, (((Below.refl _ w).alloc (Nat.le_refl _) _).alloc (by simp) _).alloc (by simp; omega) _⟩
  have hX : Boxed (((w.alloc (TC (.slice b vars.length cb) (.slice c m cc))).alloc (.cells #[.int .i64 x] 3)).alloc (TC (.slice none 0 0) (.slice none 0 0))) (w.heap.size + 1) 3 (.int .i64 x) := by
    have h := (Boxed.new (w.alloc (TC (.slice b vars.length cb) (.slice c m cc))) 3 (.int .i64 x)).alloc (TC (.slice none 0 0) (.slice none 0 0))
    rwa [World.size_alloc] at h
  have c0 := hH.1.c0
  have c1 := hH.1.c1
  go_enter Tryz.func22, Tryz.ntmps22
  go_wp2_with fail
  generalize (((w.alloc (TC (.slice b vars.length cb) (.slice c m cc))).alloc (.cells #[.int .i64 x] 3)).alloc (TC (.slice none 0 0) (.slice none 0 0))) = W at *
  refine (HC.out _ (HS.out.below hH.2.2) (HV.out.below hH.2.2)).mono ?_
  rintro e w1 ⟨rfl, hb1⟩
  replace hH := hH.step hb1
  replace hX := boxed_keep hX hb1
  clear c0 c1 hb1
  have cx := hX.cell
  go_wp2_with fail
  refine (HIV.out _ (HS.out.below hH.2.2)).mono ?_
  rintro e w2 ⟨rfl, hb2⟩
  replace hH := hH.step hb2
  clear cx hX hb2
  obtain ⟨k0, k1, f0, f1⟩ := hH.2.1.facts
  go_wp2
  refine bodyPost_ret ((hH.2.1.put _ _).result2 rfl _ rfl) rfl ?_
  exact ⟨TabA.empty _ _, below_put2 hH.2.2 (by omega) _ _⟩
set_option maxRecDepth 100000 in
set_option maxHeartbeats 800000 in
theorem tFix_yes (a b c : Option Addr) (ca cb cc : Nat) (sizes vars : List Int) (l : List Fr) (v x : Nat) (w : World) (hs : IntS w a sizes) (hv : IntS w b vars) (hf : FrS w c l) (hn : sizes.length ≤ 140737488355328) (hm : vars.length ≤ 140737488355328) (hk : checkA sizes vars l.length = 0) (hw : fw l ≤ 10000) (hv' : v < sizes.length) (hx' : x < sz (toN sizes) v) :
    Calls Tryz.prog 22 #[.slice a sizes.length ca, .agg #[.slice b vars.length cb, .slice c l.length cc], .int .i64 (v : Nat), .int .i64 (x : Nat)] w fun e w' => TabA (lessN vars (v : Int)) (fixL (toN sizes) (toN vars) (toN (lessN vars (v : Int))) v x l) 0 e w' ∧ Below w.heap.size w w' := by
  obtain ⟨hfi, hup, hlc⟩ := checkA_parts hk
  have HIV := hid (fun V h => isValue_any a ca sizes v x V h hfi hv')
  rw [decide_eq_true (show 0 ≤ (x : Int) ∧ (x : Int) < (sz (toN sizes) v : Int) by omega)] at HIV
  have hx4 : x ≤ 4 := by have := hfi.sz_le v; omega
  have HCK := fun V h1 h2 => tCheck_any a b c ca cb cc l.length sizes vars V h1 h2 hn hm
  rw [hk] at HCK
  have HC := hid HCK
  clear HCK
  have h0 : (0 : Int) ≤ (v : Int) := by omega
  have h1 : (v : Int) < (sizes.length : Int) := by omega
  have hrl : (lessN vars (v : Int)).length ≤ vars.length := List.length_filter_le _ _
  have hv8 := hup.length
  have hl8 := hfi.eight
  have HFI := hid hfi
  have HUP := hid hup
  have HUR := hid (lessN_up hup (v : Int))
  have HOU := hid (lessN_out (v := v) hup)
  have HPL := hid (fun K (hK : K < cnt (toN sizes) (toN (lessN vars (v : Int)))) => with_lt hk hK hx')
  have hfl := fixL_length (toN sizes) (toN vars) (toN (lessN vars (v : Int))) v x l
  have HFG := hid (fun (k : Nat) (h : k < (fixL (toN sizes) (toN vars) (toN (lessN vars (v : Int))) v x l).length) => fixL_get (toN sizes) (toN vars) (toN (lessN vars (v : Int))) v x l h)
  have HWO := hid (fun V h => without_any b cb vars (v : Int) V h (by omega))
  generalize fixL (toN sizes) (toN vars) (toN (lessN vars (v : Int))) v x l = FL at *
  generalize lessN vars (v : Int) = rest at *
  have HST := hid (fun V d cd h1 h2 => standingWith_any a d b ca cd cb sizes rest vars v V h1 h2 hfi hup hv')
  have HF := hid hf
  have HW := hid hw
  have HFL := hid hfl
  clear hx' hk hfi hup hlc hf hw hfl
  have HS := hid hs
  have HV := hid hv
  have hH : NR w (((w.alloc (TC (.slice b vars.length cb) (.slice c l.length cc))).alloc (.cells #[.int .i64 (x : Nat)] 3)).alloc (TC (.slice none 0 0) (.slice none 0 0))) w.heap.size (w.heap.size + 1 + 1) (.slice b vars.length cb) (.slice c l.length cc) := ⟨((TBox.at (w := w) rfl _ _).alloc _).alloc _, TBox.at (by simp) _ _, (((Below.refl _ w).alloc (Nat.le_refl _) _).alloc (by simp) _).alloc (by simp; omega) _⟩
  have hX : Boxed (((w.alloc (TC (.slice b vars.length cb) (.slice c l.length cc))).alloc (.cells #[.int .i64 (x : Nat)] 3)).alloc (TC (.slice none 0 0) (.slice none 0 0))) (w.heap.size + 1) 3 (.int .i64 (x : Nat)) := by
    have h := (Boxed.new (w.alloc (TC (.slice b vars.length cb) (.slice c l.length cc))) 3 (.int .i64 (x : Nat))).alloc (TC (.slice none 0 0) (.slice none 0 0))
    rwa [World.size_alloc] at h
  have c0 := hH.1.c0
  have c1 := hH.1.c1
  go_enter Tryz.func22, Tryz.ntmps22
  go_wp2_with fail
  generalize (((w.alloc (TC (.slice b vars.length cb) (.slice c l.length cc))).alloc (.cells #[.int .i64 (x : Nat)] 3)).alloc (TC (.slice none 0 0) (.slice none 0 0))) = W at *
  refine (HC.out _ (HS.out.below hH.2.2) (HV.out.below hH.2.2)).mono ?_
  rintro e w1 ⟨rfl, hb1⟩
  replace hH := hH.step hb1
  replace hX := boxed_keep hX hb1
  clear c0 c1 hb1
  have cx := hX.cell
  go_wp2_with fail
  refine (HIV.out _ (HS.out.below hH.2.2)).mono ?_
  rintro e w2 ⟨rfl, hb2⟩
  replace hH := hH.step hb2
  replace hX := boxed_keep hX hb2
  clear cx hb2 HIV HC
  have c0 := hH.1.c0
  go_wp2_with fail
  refine (HWO.out _ (HV.out.below hH.2.2)).mono ?_
  rintro e w3 ⟨d, cd, rfl, hi, hb3⟩
  replace hH := hH.step hb3
  replace hX := boxed_keep hX hb3
  clear c0 hb3 HWO
  have c0 := hH.1.c0
  go_wp2_with fail
  refine (HST.out _ d cd (HS.out.below hH.2.2) (HV.out.below hH.2.2)).mono ?_
  rintro e w4 ⟨f, rfl, hSW, hb4⟩
  have hl3 := hH.2.1.lt
  replace hH := hH.step hb4
  replace hX := boxed_keep hX hb4
  replace hi := hi.below hb4
  obtain ⟨lb, rfl⟩ := hSW.shape
  have hs4 := hb4.size
  clear c0 hb4 HST
  generalize w3.heap.size = n3 at *
  have hb6 : Below w4.heap.size w4 (w4.alloc (.cells #[.func (.func 113) #[] lb] 50)) := (Below.refl _ w4).alloc (Nat.le_refl _) _
  have hY : Boxed (w4.alloc (.cells #[.func (.func 113) #[] lb] 50)) w4.heap.size 50 (.func (.func 113) #[] lb) := Boxed.new w4 _ _
  replace hH := hH.step hb6
  replace hX := boxed_keep hX hb6
  replace hSW := hSW.below hb6
  replace hi := hi.below hb6
  go_wp2_with fail
  clear hb6
  generalize (w4.alloc (.cells #[.func (.func 113) #[] lb] 50)) = w5 at *
  generalize w4.heap.size = B12 at *
  have hfill := fill_any a d ca cd sizes rest 74 #[.pointer (some ⟨w.heap.size, 0, none⟩), .pointer (some ⟨B12, 0, none⟩), .pointer (some ⟨w.heap.size + 1, 0, none⟩)] (enters_of Tryz.func74 (by kernel_rfl) rfl) FL w5 (HS.out.below hH.2.2) hi HFI.out HUR.out HFL.out (fun k hk V hb => by
    rw [HFG.out k hk]
    have hk' : k < cnt (toN sizes) (toN rest) := by rw [← HFL.out]; exact hk
    have hB := hH.2.2.trans (hb.mono hH.2.2.size)
    refine fix1_any w.heap.size B12 (w.heap.size + 1) c cc lb l k x _ (HPL.out k hk') V (Nat.lt_of_lt_of_le hH.1.lt hb.size) ((hb.cell (p := ⟨w.heap.size, 1, none⟩) hH.1.lt).trans hH.1.c1) (Nat.lt_of_lt_of_le hY.lt hb.size) (boxed_keep hY hb).cell (Nat.lt_of_lt_of_le hX.lt hb.size) (boxed_keep hX hb).cell (HF.out.below hB) HW.out ?_
    intro V' hb'
    have hb2 := hb.trans (hb'.mono hb.size)
    exact ((hSW.below hb2).calls (HS.out.below (hB.trans (hb'.mono hB.size))) (hi.below hb2) HFI.out HUR.out HUP.out HOU.out hk' hx4))
  have HFILL := hid hfill
  clear hfill
  refine HFILL.out.mono ?_
  rintro e w6 ⟨G, rfl, hG, hrow, hb6⟩
  have hl6 := hH.2.1.lt
  replace hH := hH.step hb6
  replace hi := hi.below hb6
  obtain ⟨k0, k1, f0, f1⟩ := hH.2.1.facts
  obtain ⟨e1, e2, e3⟩ := hH.fin (by omega) (cb := cd) (cc := FL.length) hi hrow (by omega) (.slice d rest.length cd) (.slice (some ⟨G, 0, none⟩) FL.length FL.length) rfl rfl
  go_wp2
  refine bodyPost_ret (e1.result2 rfl _ rfl) rfl ?_
  exact ⟨e2, e3⟩
end Go.Proofs.YtknlhejhnopnaaaGreatDoor
