/- The document's answer: open. (Made by mkopn.py of opn.base.) -/
import Derived.Test.YtockhhleapbpiaaAnsAToAnsB
import Derived.BigQuiet
namespace Go.Proofs.Ytockhhleapbpiaa
open Go.RowKit Go.Shelf

/-- Which way goes on, one by one. -/
def onB (P : List (List Nat)) (n : Nat) (yb zb an : Nat → Bool) (f u : Nat) (r : List Nat) (v : Nat) : Bool := !decide (v ∈ u :: r) && ((paB P v u || paB P u v) && (psB P zb an u r v && opF P n yb zb an f (v :: u :: r)))
theorem opF_eq (P : List (List Nat)) (n : Nat) (yb zb an : Nat → Bool) (f u : Nat) (r : List Nat) : opF P n yb zb an (f + 1) (u :: r) = (yb u || (List.range n).any (onB P n yb zb an f u r)) := rfl
theorem any_range (p : Nat → Bool) (v : Nat) : (List.range (v + 1)).any p = ((List.range v).any p || p v) := by
  rw [List.range_succ, List.any_append]; simp

set_option maxRecDepth 100000 in
set_option maxHeartbeats 2000000 in
theorem rOpen_any (a by' bz : Option Addr) (ca cy cz : Nat) (L : List (List Int)) (y z : List Int) (w : World) (h : LsS w a L) (hl : ∀ l ∈ L, l.length ≤ 1000) (hg : gcE L = 0) (hy : IntS w by' y) (hz : IntS w bz z) (hyl : y.length ≤ 1000) (hzl : z.length ≤ 1000) (hyn : ∀ x ∈ y, 0 ≤ x) (hzn : ∀ x ∈ z, 0 ≤ x ∧ x < (L.length : Int)) :
    ∀ (f u : Nat) (r : List Nat) (b : Option Addr) (c : Nat) (W : World), f + (r.length + 1) = L.length + 1 → (u :: r).Nodup → (∀ x ∈ u :: r, x < L.length) → Below w.heap.size w W → IntS W b (iL (u :: r).reverse) →
    Calls Try.prog 45 #[.slice a L.length ca, .slice b (r.length + 1) c, .slice by' y.length cy, .slice bz z.length cz] W fun e w' => e = .returned (.bool (opF (parN L) L.length (fun v => decide (v ∈ toN y)) (fun v => decide (v ∈ toN z)) (fun v => abO L v (toN z)) f (u :: r))) ∧ Below W.heap.size W w' := by
  intro f
  induction f with
  | zero =>
    intro u r b c W hf hnd hlt
    exfalso
    have := nd_len (l := u :: r) (m := List.range L.length) hnd fun x hx => List.mem_range.2 (hlt x hx)
    rw [List.length_cons, List.length_range] at this
    omega
  | succ f ih =>
    intro u r b c W hf hnd hlt hBW hI
    obtain ⟨h1, h8, hris, -⟩ := gB_parts (gc_parts hg).1
    have hun : u < L.length := hlt u List.mem_cons_self
    have hrl : r.length + 1 ≤ L.length := by omega
    have hws : (iL (u :: r).reverse).length = r.length + 1 := by rw [iL_length, List.length_reverse, List.length_cons]
    have HOE := hid (opF_eq (parN L) L.length (fun v => decide (v ∈ toN y)) (fun v => decide (v ∈ toN z)) (fun v => abO L v (toN z)) f u r)
    have HONB : Hid (∀ v, onB (parN L) L.length (fun v => decide (v ∈ toN y)) (fun v => decide (v ∈ toN z)) (fun v => abO L v (toN z)) f u r v = (!decide (v ∈ u :: r) && ((paB (parN L) v u || paB (parN L) u v) && (psB (parN L) (fun v => decide (v ∈ toN z)) (fun v => abO L v (toN z)) u r v && opF (parN L) L.length (fun v => decide (v ∈ toN y)) (fun v => decide (v ∈ toN z)) (fun v => abO L v (toN z)) f (v :: u :: r))))) := fun v => rfl
    have HAR := hid (any_range (onB (parN L) L.length (fun v => decide (v ∈ toN y)) (fun v => decide (v ∈ toN z)) (fun v => abO L v (toN z)) f u r))
    have HA0 : Hid ((List.range 0).any (onB (parN L) L.length (fun v => decide (v ∈ toN y)) (fun v => decide (v ∈ toN z)) (fun v => abO L v (toN z)) f u r) = false) := rfl
    have HAY : Hid (∀ v, v < L.length → onB (parN L) L.length (fun v => decide (v ∈ toN y)) (fun v => decide (v ∈ toN z)) (fun v => abO L v (toN z)) f u r v = true → (List.range L.length).any (onB (parN L) L.length (fun v => decide (v ∈ toN y)) (fun v => decide (v ∈ toN z)) (fun v => abO L v (toN z)) f u r) = true) := fun v hv h => List.any_eq_true.2 ⟨v, List.mem_range.2 hv, h⟩
    have HREC : Hid (∀ (v : Nat), v < L.length → decide (v ∈ u :: r) = false → ∀ (b : Option Addr) (c : Nat) (V : World), Below w.heap.size w V → IntS V b (iL (u :: r).reverse ++ [((v : Nat) : Int)]) → Calls Try.prog 45 #[.slice a L.length ca, .slice b (r.length + 1 + 1) c, .slice by' y.length cy, .slice bz z.length cz] V fun e w' => e = .returned (.bool (opF (parN L) L.length (fun v => decide (v ∈ toN y)) (fun v => decide (v ∈ toN z)) (fun v => abO L v (toN z)) f (v :: u :: r))) ∧ Below V.heap.size V w') := fun v hv hnm b c V hV hIV => by
      have hnm' : ¬ v ∈ u :: r := of_decide_eq_false hnm
      have hsn : iL (v :: u :: r).reverse = iL (u :: r).reverse ++ [((v : Nat) : Int)] := by rw [List.reverse_cons, iL_append]; rfl
      rw [← hsn] at hIV
      exact ih v (u :: r) b c V (by rw [List.length_cons]; omega) (List.nodup_cons.2 ⟨hnm', hnd⟩) (fun x hx => by
        rcases List.mem_cons.1 hx with rfl | hx
        · exact hv
        · exact hlt x hx) hV hIV
    have HIY : Hid (∀ V : World, Below w.heap.size w V → Calls Try.prog 26 #[.int .i64 (u : Nat), .slice by' y.length cy] V fun r w' => r = .returned (.bool (decide (u ∈ toN y))) ∧ w' = V) := fun V hV => by
      have := rIn_any (u : Int) by' cy y V (hy.below hV) (by omega)
      rw [inB_nat (by omega) hyn, Int.toNat_natCast] at this
      exact this
    have HIZ : Hid (∀ V : World, Below w.heap.size w V → Calls Try.prog 26 #[.int .i64 (u : Nat), .slice bz z.length cz] V fun r w' => r = .returned (.bool (decide (u ∈ toN z))) ∧ w' = V) := fun V hV => by
      have := rIn_any (u : Int) bz cz z V (hz.below hV) (by omega)
      rw [inB_nat (by omega) (fun x hx => (hzn x hx).1), Int.toNat_natCast] at this
      exact this
    have HIA : Hid (∀ V : World, Below w.heap.size w V → Calls Try.prog 41 #[.slice a L.length ca, .int .i64 (u : Nat), .slice bz z.length cz] V fun r w' => r = .returned (.bool (abO L u (toN z))) ∧ w' = V) := fun V hV => aboveOne_any a bz ca cz L z V (h.below hV) hl hg (hz.below hV) hzl hzn u
    have HIW : Hid (∀ (v : Nat) (V : World), Below W.heap.size W V → Calls Try.prog 26 #[.int .i64 (v : Nat), .slice b (r.length + 1) c] V fun e w' => e = .returned (.bool (decide (v ∈ u :: r))) ∧ w' = V) := fun v V hV => by
      have := rIn_any (v : Int) b c (iL (u :: r).reverse) V (hI.below hV) (by omega)
      rw [hws, inB_iL _ (by omega : (0 : Int) ≤ (v : Int)), Int.toNat_natCast] at this
      have ed : decide (v ∈ (u :: r).reverse) = decide (v ∈ u :: r) := decide_eq_decide.2 List.mem_reverse
      rw [ed] at this
      exact this
    have HIP : Hid (∀ (v : Nat), v < L.length → ∃ g o b c lv, a = some ⟨g, o, none⟩ ∧ ∀ U : World, Below w.heap.size w U → U.cell? ⟨g, o + v, none⟩ = some (.slice b lv c) ∧ ∀ x : Nat, Calls Try.prog 26 #[.int .i64 (x : Nat), .slice b lv c] U fun r w' => r = .returned (.bool (paB (parN L) x v)) ∧ w' = U) := fun v hv => by
      obtain ⟨g, o, b, c, e1, e2, e3, e4⟩ := h v hv
      refine ⟨g, o, b, c, L[v].length, e1, fun U hb => ⟨(hb.cell (p := ⟨g, _, none⟩) e2).trans e3, fun x => ?_⟩⟩
      have := rIn_any (x : Int) b c L[v] U (e4.below hb) (by have := hl _ (List.getElem_mem hv); omega)
      rw [inB_nat (by omega) (ris_nonneg (allRis_at hris hv)), Int.toNat_natCast, ← parN_get hv] at this
      exact this
    have HP0 : Hid (r = [] → ∀ v, psB (parN L) (fun v => decide (v ∈ toN z)) (fun v => abO L v (toN z)) u r v = true) := fun e v => by subst e; rfl
    have HP1 : Hid (∀ p l, r = p :: l → ∀ v, psB (parN L) (fun v => decide (v ∈ toN z)) (fun v => abO L v (toN z)) u r v = if (paB (parN L) p u && paB (parN L) v u) = true then abO L u (toN z) else !decide (u ∈ toN z)) := fun p l e v => by subst e; rfl
    have HSELF : Hid (∀ v, paB (parN L) v u = true → paB (parN L) u v = true → False) := fun v h1 h2 => abv_no hg u (.more (.one (of_decide_eq_true h2)) (of_decide_eq_true h1))
    obtain ⟨gw, ow, hbw, hgw, cw⟩ := hI r.length (by rw [hws]; omega)
    have hlast : (iL (u :: r).reverse)[r.length]'(by rw [hws]; omega) = ((u : Nat) : Int) := by
      simp [iL, List.reverse_cons]
    rw [hlast] at cw
    have HCW : Hid (∀ V : World, Below W.heap.size W V → V.cell? ⟨gw, ow + r.length, none⟩ = some (.int .i64 (u : Nat))) := fun V hV => (hV.cell (p := ⟨gw, _, none⟩) hgw).trans cw
    have HPR : Hid (∀ p l, r = p :: l → ∀ V : World, Below W.heap.size W V → V.cell? ⟨gw, ow + (r.length - 1), none⟩ = some (.int .i64 (p : Nat))) := fun p l hr V hV => by
      obtain ⟨g', o', e', hg', c'⟩ := hI (r.length - 1) (by rw [hws]; omega)
      rw [hbw] at e'
      cases e'
      have hp : (iL (u :: r).reverse)[r.length - 1]'(by rw [hws]; omega) = ((p : Nat) : Int) := by
        subst hr
        simp [iL, List.reverse_cons]
      rw [hp] at c'
      exact (hV.cell (p := ⟨gw, _, none⟩) hgw).trans c'
    subst hbw
    have HIV := hid (fun (V : World) (hV : Below W.heap.size W V) => hI.below hV)
    have HBW := hid hBW
    have HWS := hid hws
    clear ih hnd hlt hBW hI cw hlast hws h hl hy hz hyn hzn hris
    generalize iL (u :: r).reverse = WS at *
    generalize hk : r.length = k at *
    have HK := hid hk
    clear hk
    generalize onB (parN L) L.length (fun v => decide (v ∈ toN y)) (fun v => decide (v ∈ toN z)) (fun v => abO L v (toN z)) f u r = ON at *
    generalize psB (parN L) (fun v => decide (v ∈ toN z)) (fun v => abO L v (toN z)) u r = PS at *
    generalize opF (parN L) L.length (fun v => decide (v ∈ toN y)) (fun v => decide (v ∈ toN z)) (fun v => abO L v (toN z)) (f + 1) (u :: r) = RES at *
    generalize opF (parN L) L.length (fun v => decide (v ∈ toN y)) (fun v => decide (v ∈ toN z)) (fun v => abO L v (toN z)) f = OPF at *
    generalize decide (u ∈ toN z) = zu at *
    generalize abO L u (toN z) = au at *
    have c0 := HCW.out W (Below.refl _ _)
    have HIY0 := hid (HIY.out W HBW.out)
    clear HIY
    generalize decide (u ∈ toN y) = yu at *
    go_enter Try.func45, Try.ntmps45
    go_wp2_with fail
    refine HIY0.out.mono ?_
    rintro e W1 ⟨rfl, rfl⟩
    clear HIY0
    cases yu with
    | true =>
      have hR : RES = true := by rw [HOE.out]; rfl
      go_wp2
      go_ret
      exact ⟨by rw [hR]; rfl, Below.refl _ _⟩
    | false =>
      rw [Bool.false_or] at HOE
      clear c0
      go_wp2_with fail
      go_loopw [11] (fun vv wr => ∃ v : Nat, v ≤ L.length ∧ vv = .int .i64 v ∧ Hid ((List.range v).any ON = false) ∧ Hid (Below W1.heap.size W1 wr)) (fun vv _ => L.length - (intOf vv).toNat)
      case atStart => exact ⟨0, Nat.zero_le _, rfl, HA0, Below.refl _ _⟩
      case round =>
        obtain ⟨v, hv, rfl, HF, HBV⟩ := hrel
        by_cases hvn : v < L.length
        · have HB0 := hid (HBW.out.trans (HBV.out.mono HBW.out.size))
          obtain ⟨g, o, bu, cu, lu, rfl, hku⟩ := HIP.out u hun
          obtain ⟨g', o', bv, cv, lv, he, hkv⟩ := HIP.out v hvn
          cases he
          obtain ⟨ku, hIu⟩ := hku wr HB0.out
          obtain ⟨kv, hIv⟩ := hkv wr HB0.out
          have HW0 := hid (HIW.out v wr HBV.out)
          have HU0 := hid (hIu v)
          have HD0 := hid (hIv u)
          have HUQ := hid (fun n' x => (hku (wr.drewN n') (below_drewN HB0.out n')).2 x)
          have HSF := hid (HSELF.out v)
          have HO := hid (HONB.out v)
          have HR1 := hid (HREC.out v hvn)
          have HAV := hid (HAR.out v)
          rw [HF.out, Bool.false_or] at HAV
          have HYV := hid (HAY.out v hvn)
          have HPV := hid (fun e => HP0.out e v)
          have HPQ := hid (fun p l e => HP1.out p l e v)
          clear hku hkv hIu hIv HREC HP0 HP1
          generalize decide (v ∈ u :: r) = was at *
          generalize paB (parN L) u v = dn at *
          generalize hup : paB (parN L) v u = up at *
          clear hup
          generalize OPF (v :: u :: r) = rec at *
          generalize ON v = onv at *
          go_wp2_with fail
          refine HW0.out.mono ?_
          rintro e W2 ⟨rfl, rfl⟩
          go_wp2_with fail
          refine HU0.out.mono ?_
          rintro e W3 ⟨rfl, rfl⟩
          go_wp2_with fail
          refine HD0.out.mono ?_
          rintro e W4 ⟨rfl, rfl⟩
          clear HW0 HU0 HD0
          cases was with
          | true =>
            have HN : Hid ((List.range (v + 1)).any ON = false) := by show _ = _; rw [HAV.out, HO.out]; rfl
            clear HO HR1 HYV HPV HPQ
            go_wp2
            go_roundw
            case rel => exact ⟨v + 1, by omega, by go_num, HN, HBV⟩
            case measure => simp [intOf]; omega
          | false =>
            cases up with
            | true =>
              cases dn with
              | true => exact (HSF.out rfl rfl).elim
              | false =>
                by_cases hk0 : k = 0
                · have hon : onv = rec := by rw [HO.out, HPV.out (List.length_eq_zero_iff.1 (HK.out.trans hk0))]; rfl
                  clear HO HPV HPQ
                  have hl1 : decide ((1 : Int) < ((k : Nat) : Int) + 1) = false := decide_eq_false (by omega)
                  have HK0 := hid hk0
                  clear hk0
                  have HBX := HBV
                  have HBY := HB0
                  generalize W4 = X at *
                  have HRR := hid (HR1.out (by first | rfl | trivial))
                  have hbe : Below X.heap.size X (X.alloc (.cells #[] 3)) := (Below.refl _ X).alloc (Nat.le_refl _) _
                  have hRe : RwI (X.alloc (.cells #[] 3)) X.heap.size (.slice (some ⟨X.heap.size, 0, none⟩) 0 0) [] := ⟨rfl, .inr ⟨X.heap.size, 0, #[], rfl, Nat.le_refl _, heap_alloc_new _ _, Nat.le_refl _, Nat.zero_le _, rfl, rfl⟩⟩
                  have HIe := hid (HIV.out _ (HBX.out.trans (hbe.mono HBX.out.size)))
                  have HRe := hid hRe
                  have HBE := hid hbe
                  have hse := hbe.size
                  have HWL := hid HWS.out
                  clear hbe hRe HR1
                  go_wp2_with (first
                    | (at_builtin; refine wpList_append_ints rfl _ _ rfl X.heap.size _ WS [((v : Nat) : Int)] rfl HR7.out (some ⟨w6.heap.size, 0, none⟩) 1 rfl HO7.out (fun e => by cases e) (by rw [HWL.out]; simp; omega) HB7.out.size ?_; intro v8 w8 hr8 hg8; obtain ⟨d8, cd8, rfl, hi8⟩ := hr8.ints; have HB8 := hid (HB7.out.grown hg8 HB7.out.size (own_from HR7.out)); have HI8 := hid hi8; rw [show (WS ++ [((v : Nat) : Int)]).length = k + 1 + 1 by rw [List.length_append, HWL.out]; rfl]; clear hr8 hg8 hi8)
                    | (at_builtin; refine wpList_append_ints rfl _ _ rfl X.heap.size _ [] WS rfl HRe.out (some ⟨gw, ow, none⟩) c (by rw [HWL.out]; rfl) HIe.out (fun e => by cases e) (by rw [HWL.out]; simp; omega) hse ?_; intro v6 w6 hr6 hg6; rw [List.nil_append] at hr6; obtain ⟨d6, cd6, rfl, -⟩ := hr6.ints; have hb6 : Below X.heap.size X w6 := HBE.out.trans ((Below.refl _ _).grown hg6 hse (fun k e => by cases e; exact Nat.le_refl _)); have hbA := (Below.refl w6.heap.size w6).alloc (Nat.le_refl _) (.cells #[.int .i64 (v : Nat)] 3); have HR7 := hid (hr6.under hbA); have HB7 := hid (hb6.trans (hbA.mono hb6.size)); have HO7 := hid (one_int w6 (v : Nat)); clear hr6 hg6 hb6 hbA))
                  refine (HRR.out d8 cd8 w8 (HBY.out.trans (HB8.out.mono HBY.out.size)) HI8.out).mono ?_
                  rintro e w9 ⟨rfl, hb9⟩
                  have HB9 := hid (HB8.out.trans (hb9.mono HB8.out.size))
                  have HBN := hid (HBX.out.trans (HB9.out.mono HBX.out.size))
                  clear hb9 HB7 HB8 HR7 HO7 HI8 HRR HB9
                  cases rec with
                  | true =>
                    have hR : RES = true := by rw [HOE.out]; exact HYV.out hon
                    clear HYV
                    go_wp2
                    go_ret
                    exact ⟨by first | rfl | (rw [hR]; rfl), HBN.out⟩
                  | false =>
                    have HN : Hid ((List.range (v + 1)).any ON = false) := by show _ = _; rw [HAV.out, hon]
                    clear HYV hon
                    go_wp2
                    go_roundw
                    case rel => exact ⟨v + 1, by omega, by go_num, HN, HBN⟩
                    case measure => simp [intOf]; omega
                · obtain ⟨p, l, hr⟩ := List.exists_cons_of_length_pos (show 0 < r.length by rw [HK.out]; omega)
                  have cp := HPR.out p l hr W4 HBV.out
                  have HFR := hid (fun n' => HUQ.out n' p)
                  have HPV' := hid (HPQ.out p l hr)
                  clear HPV HPQ HUQ hr
                  generalize paB (parN L) p u = fr at *
                  obtain ⟨j, hj⟩ : ∃ j, k - 1 = j := ⟨_, rfl⟩
                  rw [hj] at cp
                  have hjk : j < k + 1 := by omega
                  have hl1 : decide ((1 : Int) < ((k : Nat) : Int) + 1) = true := decide_eq_true (by omega)
                  have hidx : ((k : Nat) : Int) + 1 - 2 = (j : Int) := by omega
                  clear hk0 hj
                  go_wp2_with fail
                  go_quiet ((go_at_call 26; refine Calls.quiet_of_same (HFR.out _)))
                  have HBX := hid (below_drewN HBV.out nq)
                  have HBY := hid (below_drewN HB0.out nq)
                  generalize W4.drewN nq = X at *
                  have HZ0 := hid (HIZ.out X HBY.out)
                  have HA0' := hid (HIA.out X HBY.out)
                  clear cp HFR hl1 hidx hjk
                  go_wp2_with fail
                  refine HZ0.out.mono ?_
                  rintro e X1 ⟨rfl, rfl⟩
                  cases fr with
                  | true =>
                    go_wp2_with fail
                    refine HA0'.out.mono ?_
                    rintro e X2 ⟨rfl, rfl⟩
                    cases au with
                    | true =>
                      have hon : onv = rec := by rw [HO.out, HPV'.out]; rfl
                      generalize X2 = X at *
                      have HRR := hid (HR1.out (by first | rfl | trivial))
                      have hbe : Below X.heap.size X (X.alloc (.cells #[] 3)) := (Below.refl _ X).alloc (Nat.le_refl _) _
                      have hRe : RwI (X.alloc (.cells #[] 3)) X.heap.size (.slice (some ⟨X.heap.size, 0, none⟩) 0 0) [] := ⟨rfl, .inr ⟨X.heap.size, 0, #[], rfl, Nat.le_refl _, heap_alloc_new _ _, Nat.le_refl _, Nat.zero_le _, rfl, rfl⟩⟩
                      have HIe := hid (HIV.out _ (HBX.out.trans (hbe.mono HBX.out.size)))
                      have HRe := hid hRe
                      have HBE := hid hbe
                      have hse := hbe.size
                      have HWL := hid HWS.out
                      clear hbe hRe HR1
                      go_wp2_with (first
                        | (at_builtin; refine wpList_append_ints rfl _ _ rfl X.heap.size _ WS [((v : Nat) : Int)] rfl HR7.out (some ⟨w6.heap.size, 0, none⟩) 1 rfl HO7.out (fun e => by cases e) (by rw [HWL.out]; simp; omega) HB7.out.size ?_; intro v8 w8 hr8 hg8; obtain ⟨d8, cd8, rfl, hi8⟩ := hr8.ints; have HB8 := hid (HB7.out.grown hg8 HB7.out.size (own_from HR7.out)); have HI8 := hid hi8; rw [show (WS ++ [((v : Nat) : Int)]).length = k + 1 + 1 by rw [List.length_append, HWL.out]; rfl]; clear hr8 hg8 hi8)
                        | (at_builtin; refine wpList_append_ints rfl _ _ rfl X.heap.size _ [] WS rfl HRe.out (some ⟨gw, ow, none⟩) c (by rw [HWL.out]; rfl) HIe.out (fun e => by cases e) (by rw [HWL.out]; simp; omega) hse ?_; intro v6 w6 hr6 hg6; rw [List.nil_append] at hr6; obtain ⟨d6, cd6, rfl, -⟩ := hr6.ints; have hb6 : Below X.heap.size X w6 := HBE.out.trans ((Below.refl _ _).grown hg6 hse (fun k e => by cases e; exact Nat.le_refl _)); have hbA := (Below.refl w6.heap.size w6).alloc (Nat.le_refl _) (.cells #[.int .i64 (v : Nat)] 3); have HR7 := hid (hr6.under hbA); have HB7 := hid (hb6.trans (hbA.mono hb6.size)); have HO7 := hid (one_int w6 (v : Nat)); clear hr6 hg6 hb6 hbA))
                      refine (HRR.out d8 cd8 w8 (HBY.out.trans (HB8.out.mono HBY.out.size)) HI8.out).mono ?_
                      rintro e w9 ⟨rfl, hb9⟩
                      have HB9 := hid (HB8.out.trans (hb9.mono HB8.out.size))
                      have HBN := hid (HBX.out.trans (HB9.out.mono HBX.out.size))
                      clear hb9 HB7 HB8 HR7 HO7 HI8 HRR HB9
                      cases rec with
                      | true =>
                        have hR : RES = true := by rw [HOE.out]; exact HYV.out hon
                        clear HYV
                        go_wp2
                        go_ret
                        exact ⟨by first | rfl | (rw [hR]; rfl), HBN.out⟩
                      | false =>
                        have HN : Hid ((List.range (v + 1)).any ON = false) := by show _ = _; rw [HAV.out, hon]
                        clear HYV hon
                        go_wp2
                        go_roundw
                        case rel => exact ⟨v + 1, by omega, by go_num, HN, HBN⟩
                        case measure => simp [intOf]; omega
                    | false =>
                      have HN : Hid ((List.range (v + 1)).any ON = false) := by show _ = _; rw [HAV.out, HO.out, HPV'.out]; rfl
                      go_wp2
                      go_roundw
                      case rel => exact ⟨v + 1, by omega, by go_num, HN, HBX⟩
                      case measure => simp [intOf]; omega
                  | false =>
                    cases zu with
                    | true =>
                      have HN : Hid ((List.range (v + 1)).any ON = false) := by show _ = _; rw [HAV.out, HO.out, HPV'.out]; rfl
                      go_wp2
                      go_roundw
                      case rel => exact ⟨v + 1, by omega, by go_num, HN, HBX⟩
                      case measure => simp [intOf]; omega
                    | false =>
                      have hon : onv = rec := by rw [HO.out, HPV'.out]; rfl
                      generalize X1 = X at *
                      have HRR := hid (HR1.out (by first | rfl | trivial))
                      have hbe : Below X.heap.size X (X.alloc (.cells #[] 3)) := (Below.refl _ X).alloc (Nat.le_refl _) _
                      have hRe : RwI (X.alloc (.cells #[] 3)) X.heap.size (.slice (some ⟨X.heap.size, 0, none⟩) 0 0) [] := ⟨rfl, .inr ⟨X.heap.size, 0, #[], rfl, Nat.le_refl _, heap_alloc_new _ _, Nat.le_refl _, Nat.zero_le _, rfl, rfl⟩⟩
                      have HIe := hid (HIV.out _ (HBX.out.trans (hbe.mono HBX.out.size)))
                      have HRe := hid hRe
                      have HBE := hid hbe
                      have hse := hbe.size
                      have HWL := hid HWS.out
                      clear hbe hRe HR1
                      go_wp2_with (first
                        | (at_builtin; refine wpList_append_ints rfl _ _ rfl X.heap.size _ WS [((v : Nat) : Int)] rfl HR7.out (some ⟨w6.heap.size, 0, none⟩) 1 rfl HO7.out (fun e => by cases e) (by rw [HWL.out]; simp; omega) HB7.out.size ?_; intro v8 w8 hr8 hg8; obtain ⟨d8, cd8, rfl, hi8⟩ := hr8.ints; have HB8 := hid (HB7.out.grown hg8 HB7.out.size (own_from HR7.out)); have HI8 := hid hi8; rw [show (WS ++ [((v : Nat) : Int)]).length = k + 1 + 1 by rw [List.length_append, HWL.out]; rfl]; clear hr8 hg8 hi8)
                        | (at_builtin; refine wpList_append_ints rfl _ _ rfl X.heap.size _ [] WS rfl HRe.out (some ⟨gw, ow, none⟩) c (by rw [HWL.out]; rfl) HIe.out (fun e => by cases e) (by rw [HWL.out]; simp; omega) hse ?_; intro v6 w6 hr6 hg6; rw [List.nil_append] at hr6; obtain ⟨d6, cd6, rfl, -⟩ := hr6.ints; have hb6 : Below X.heap.size X w6 := HBE.out.trans ((Below.refl _ _).grown hg6 hse (fun k e => by cases e; exact Nat.le_refl _)); have hbA := (Below.refl w6.heap.size w6).alloc (Nat.le_refl _) (.cells #[.int .i64 (v : Nat)] 3); have HR7 := hid (hr6.under hbA); have HB7 := hid (hb6.trans (hbA.mono hb6.size)); have HO7 := hid (one_int w6 (v : Nat)); clear hr6 hg6 hb6 hbA))
                      refine (HRR.out d8 cd8 w8 (HBY.out.trans (HB8.out.mono HBY.out.size)) HI8.out).mono ?_
                      rintro e w9 ⟨rfl, hb9⟩
                      have HB9 := hid (HB8.out.trans (hb9.mono HB8.out.size))
                      have HBN := hid (HBX.out.trans (HB9.out.mono HBX.out.size))
                      clear hb9 HB7 HB8 HR7 HO7 HI8 HRR HB9
                      cases rec with
                      | true =>
                        have hR : RES = true := by rw [HOE.out]; exact HYV.out hon
                        clear HYV
                        go_wp2
                        go_ret
                        exact ⟨by first | rfl | (rw [hR]; rfl), HBN.out⟩
                      | false =>
                        have HN : Hid ((List.range (v + 1)).any ON = false) := by show _ = _; rw [HAV.out, hon]
                        clear HYV hon
                        go_wp2
                        go_roundw
                        case rel => exact ⟨v + 1, by omega, by go_num, HN, HBN⟩
                        case measure => simp [intOf]; omega
            | false =>
              cases dn with
              | false =>
                have HN : Hid ((List.range (v + 1)).any ON = false) := by show _ = _; rw [HAV.out, HO.out]; rfl
                clear HO HR1 HYV HPV HPQ
                go_wp2
                go_roundw
                case rel => exact ⟨v + 1, by omega, by go_num, HN, HBV⟩
                case measure => simp [intOf]; omega
              | true =>
                by_cases hk0 : k = 0
                · have hon : onv = rec := by rw [HO.out, HPV.out (List.length_eq_zero_iff.1 (HK.out.trans hk0))]; rfl
                  clear HO HPV HPQ
                  have hl1 : decide ((1 : Int) < ((k : Nat) : Int) + 1) = false := decide_eq_false (by omega)
                  have HK0 := hid hk0
                  clear hk0
                  have HBX := HBV
                  have HBY := HB0
                  generalize W4 = X at *
                  have HRR := hid (HR1.out (by first | rfl | trivial))
                  have hbe : Below X.heap.size X (X.alloc (.cells #[] 3)) := (Below.refl _ X).alloc (Nat.le_refl _) _
                  have hRe : RwI (X.alloc (.cells #[] 3)) X.heap.size (.slice (some ⟨X.heap.size, 0, none⟩) 0 0) [] := ⟨rfl, .inr ⟨X.heap.size, 0, #[], rfl, Nat.le_refl _, heap_alloc_new _ _, Nat.le_refl _, Nat.zero_le _, rfl, rfl⟩⟩
                  have HIe := hid (HIV.out _ (HBX.out.trans (hbe.mono HBX.out.size)))
                  have HRe := hid hRe
                  have HBE := hid hbe
                  have hse := hbe.size
                  have HWL := hid HWS.out
                  clear hbe hRe HR1
                  go_wp2_with (first
                    | (at_builtin; refine wpList_append_ints rfl _ _ rfl X.heap.size _ WS [((v : Nat) : Int)] rfl HR7.out (some ⟨w6.heap.size, 0, none⟩) 1 rfl HO7.out (fun e => by cases e) (by rw [HWL.out]; simp; omega) HB7.out.size ?_; intro v8 w8 hr8 hg8; obtain ⟨d8, cd8, rfl, hi8⟩ := hr8.ints; have HB8 := hid (HB7.out.grown hg8 HB7.out.size (own_from HR7.out)); have HI8 := hid hi8; rw [show (WS ++ [((v : Nat) : Int)]).length = k + 1 + 1 by rw [List.length_append, HWL.out]; rfl]; clear hr8 hg8 hi8)
                    | (at_builtin; refine wpList_append_ints rfl _ _ rfl X.heap.size _ [] WS rfl HRe.out (some ⟨gw, ow, none⟩) c (by rw [HWL.out]; rfl) HIe.out (fun e => by cases e) (by rw [HWL.out]; simp; omega) hse ?_; intro v6 w6 hr6 hg6; rw [List.nil_append] at hr6; obtain ⟨d6, cd6, rfl, -⟩ := hr6.ints; have hb6 : Below X.heap.size X w6 := HBE.out.trans ((Below.refl _ _).grown hg6 hse (fun k e => by cases e; exact Nat.le_refl _)); have hbA := (Below.refl w6.heap.size w6).alloc (Nat.le_refl _) (.cells #[.int .i64 (v : Nat)] 3); have HR7 := hid (hr6.under hbA); have HB7 := hid (hb6.trans (hbA.mono hb6.size)); have HO7 := hid (one_int w6 (v : Nat)); clear hr6 hg6 hb6 hbA))
                  refine (HRR.out d8 cd8 w8 (HBY.out.trans (HB8.out.mono HBY.out.size)) HI8.out).mono ?_
                  rintro e w9 ⟨rfl, hb9⟩
                  have HB9 := hid (HB8.out.trans (hb9.mono HB8.out.size))
                  have HBN := hid (HBX.out.trans (HB9.out.mono HBX.out.size))
                  clear hb9 HB7 HB8 HR7 HO7 HI8 HRR HB9
                  cases rec with
                  | true =>
                    have hR : RES = true := by rw [HOE.out]; exact HYV.out hon
                    clear HYV
                    go_wp2
                    go_ret
                    exact ⟨by first | rfl | (rw [hR]; rfl), HBN.out⟩
                  | false =>
                    have HN : Hid ((List.range (v + 1)).any ON = false) := by show _ = _; rw [HAV.out, hon]
                    clear HYV hon
                    go_wp2
                    go_roundw
                    case rel => exact ⟨v + 1, by omega, by go_num, HN, HBN⟩
                    case measure => simp [intOf]; omega
                · obtain ⟨p, l, hr⟩ := List.exists_cons_of_length_pos (show 0 < r.length by rw [HK.out]; omega)
                  have cp := HPR.out p l hr W4 HBV.out
                  have HFR := hid (fun n' => HUQ.out n' p)
                  have HPV' := hid (HPQ.out p l hr)
                  clear HPV HPQ HUQ hr
                  generalize paB (parN L) p u = fr at *
                  obtain ⟨j, hj⟩ : ∃ j, k - 1 = j := ⟨_, rfl⟩
                  rw [hj] at cp
                  have hjk : j < k + 1 := by omega
                  have hl1 : decide ((1 : Int) < ((k : Nat) : Int) + 1) = true := decide_eq_true (by omega)
                  have hidx : ((k : Nat) : Int) + 1 - 2 = (j : Int) := by omega
                  clear hk0 hj
                  have HPV2 : Hid (PS v = !zu) := by show _ = _; rw [HPV'.out, Bool.and_false]; rfl
                  clear HPV'
                  go_wp2_with fail
                  go_quiet ((go_at_call 26; refine Calls.quiet_of_same (HFR.out _)))
                  have HBX := hid (below_drewN HBV.out nq)
                  have HBY := hid (below_drewN HB0.out nq)
                  generalize W4.drewN nq = X at *
                  have HZ0 := hid (HIZ.out X HBY.out)
                  clear cp HFR hl1 hidx hjk
                  go_wp2_with fail
                  refine HZ0.out.mono ?_
                  rintro e X1 ⟨rfl, rfl⟩
                  cases zu with
                  | true =>
                    have HN : Hid ((List.range (v + 1)).any ON = false) := by show _ = _; rw [HAV.out, HO.out, HPV2.out]; rfl
                    cases fr with
                    | true =>
                      go_wp2
                      go_roundw
                      case rel => exact ⟨v + 1, by omega, by go_num, HN, HBX⟩
                      case measure => simp [intOf]; omega
                    | false =>
                      go_wp2
                      go_roundw
                      case rel => exact ⟨v + 1, by omega, by go_num, HN, HBX⟩
                      case measure => simp [intOf]; omega
                  | false =>
                    have hon : onv = rec := by rw [HO.out, HPV2.out]; rfl
                    generalize X1 = X at *
                    cases fr with
                    | true =>
                      have HRR := hid (HR1.out (by first | rfl | trivial))
                      have hbe : Below X.heap.size X (X.alloc (.cells #[] 3)) := (Below.refl _ X).alloc (Nat.le_refl _) _
                      have hRe : RwI (X.alloc (.cells #[] 3)) X.heap.size (.slice (some ⟨X.heap.size, 0, none⟩) 0 0) [] := ⟨rfl, .inr ⟨X.heap.size, 0, #[], rfl, Nat.le_refl _, heap_alloc_new _ _, Nat.le_refl _, Nat.zero_le _, rfl, rfl⟩⟩
                      have HIe := hid (HIV.out _ (HBX.out.trans (hbe.mono HBX.out.size)))
                      have HRe := hid hRe
                      have HBE := hid hbe
                      have hse := hbe.size
                      have HWL := hid HWS.out
                      clear hbe hRe HR1
                      go_wp2_with (first
                        | (at_builtin; refine wpList_append_ints rfl _ _ rfl X.heap.size _ WS [((v : Nat) : Int)] rfl HR7.out (some ⟨w6.heap.size, 0, none⟩) 1 rfl HO7.out (fun e => by cases e) (by rw [HWL.out]; simp; omega) HB7.out.size ?_; intro v8 w8 hr8 hg8; obtain ⟨d8, cd8, rfl, hi8⟩ := hr8.ints; have HB8 := hid (HB7.out.grown hg8 HB7.out.size (own_from HR7.out)); have HI8 := hid hi8; rw [show (WS ++ [((v : Nat) : Int)]).length = k + 1 + 1 by rw [List.length_append, HWL.out]; rfl]; clear hr8 hg8 hi8)
                        | (at_builtin; refine wpList_append_ints rfl _ _ rfl X.heap.size _ [] WS rfl HRe.out (some ⟨gw, ow, none⟩) c (by rw [HWL.out]; rfl) HIe.out (fun e => by cases e) (by rw [HWL.out]; simp; omega) hse ?_; intro v6 w6 hr6 hg6; rw [List.nil_append] at hr6; obtain ⟨d6, cd6, rfl, -⟩ := hr6.ints; have hb6 : Below X.heap.size X w6 := HBE.out.trans ((Below.refl _ _).grown hg6 hse (fun k e => by cases e; exact Nat.le_refl _)); have hbA := (Below.refl w6.heap.size w6).alloc (Nat.le_refl _) (.cells #[.int .i64 (v : Nat)] 3); have HR7 := hid (hr6.under hbA); have HB7 := hid (hb6.trans (hbA.mono hb6.size)); have HO7 := hid (one_int w6 (v : Nat)); clear hr6 hg6 hb6 hbA))
                      refine (HRR.out d8 cd8 w8 (HBY.out.trans (HB8.out.mono HBY.out.size)) HI8.out).mono ?_
                      rintro e w9 ⟨rfl, hb9⟩
                      have HB9 := hid (HB8.out.trans (hb9.mono HB8.out.size))
                      have HBN := hid (HBX.out.trans (HB9.out.mono HBX.out.size))
                      clear hb9 HB7 HB8 HR7 HO7 HI8 HRR HB9
                      cases rec with
                      | true =>
                        have hR : RES = true := by rw [HOE.out]; exact HYV.out hon
                        clear HYV
                        go_wp2
                        go_ret
                        exact ⟨by first | rfl | (rw [hR]; rfl), HBN.out⟩
                      | false =>
                        have HN : Hid ((List.range (v + 1)).any ON = false) := by show _ = _; rw [HAV.out, hon]
                        clear HYV hon
                        go_wp2
                        go_roundw
                        case rel => exact ⟨v + 1, by omega, by go_num, HN, HBN⟩
                        case measure => simp [intOf]; omega
                    | false =>
                      have HRR := hid (HR1.out (by first | rfl | trivial))
                      have hbe : Below X.heap.size X (X.alloc (.cells #[] 3)) := (Below.refl _ X).alloc (Nat.le_refl _) _
                      have hRe : RwI (X.alloc (.cells #[] 3)) X.heap.size (.slice (some ⟨X.heap.size, 0, none⟩) 0 0) [] := ⟨rfl, .inr ⟨X.heap.size, 0, #[], rfl, Nat.le_refl _, heap_alloc_new _ _, Nat.le_refl _, Nat.zero_le _, rfl, rfl⟩⟩
                      have HIe := hid (HIV.out _ (HBX.out.trans (hbe.mono HBX.out.size)))
                      have HRe := hid hRe
                      have HBE := hid hbe
                      have hse := hbe.size
                      have HWL := hid HWS.out
                      clear hbe hRe HR1
                      go_wp2_with (first
                        | (at_builtin; refine wpList_append_ints rfl _ _ rfl X.heap.size _ WS [((v : Nat) : Int)] rfl HR7.out (some ⟨w6.heap.size, 0, none⟩) 1 rfl HO7.out (fun e => by cases e) (by rw [HWL.out]; simp; omega) HB7.out.size ?_; intro v8 w8 hr8 hg8; obtain ⟨d8, cd8, rfl, hi8⟩ := hr8.ints; have HB8 := hid (HB7.out.grown hg8 HB7.out.size (own_from HR7.out)); have HI8 := hid hi8; rw [show (WS ++ [((v : Nat) : Int)]).length = k + 1 + 1 by rw [List.length_append, HWL.out]; rfl]; clear hr8 hg8 hi8)
                        | (at_builtin; refine wpList_append_ints rfl _ _ rfl X.heap.size _ [] WS rfl HRe.out (some ⟨gw, ow, none⟩) c (by rw [HWL.out]; rfl) HIe.out (fun e => by cases e) (by rw [HWL.out]; simp; omega) hse ?_; intro v6 w6 hr6 hg6; rw [List.nil_append] at hr6; obtain ⟨d6, cd6, rfl, -⟩ := hr6.ints; have hb6 : Below X.heap.size X w6 := HBE.out.trans ((Below.refl _ _).grown hg6 hse (fun k e => by cases e; exact Nat.le_refl _)); have hbA := (Below.refl w6.heap.size w6).alloc (Nat.le_refl _) (.cells #[.int .i64 (v : Nat)] 3); have HR7 := hid (hr6.under hbA); have HB7 := hid (hb6.trans (hbA.mono hb6.size)); have HO7 := hid (one_int w6 (v : Nat)); clear hr6 hg6 hb6 hbA))
                      refine (HRR.out d8 cd8 w8 (HBY.out.trans (HB8.out.mono HBY.out.size)) HI8.out).mono ?_
                      rintro e w9 ⟨rfl, hb9⟩
                      have HB9 := hid (HB8.out.trans (hb9.mono HB8.out.size))
                      have HBN := hid (HBX.out.trans (HB9.out.mono HBX.out.size))
                      clear hb9 HB7 HB8 HR7 HO7 HI8 HRR HB9
                      cases rec with
                      | true =>
                        have hR : RES = true := by rw [HOE.out]; exact HYV.out hon
                        clear HYV
                        go_wp2
                        go_ret
                        exact ⟨by first | rfl | (rw [hR]; rfl), HBN.out⟩
                      | false =>
                        have HN : Hid ((List.range (v + 1)).any ON = false) := by show _ = _; rw [HAV.out, hon]
                        clear HYV hon
                        go_wp2
                        go_roundw
                        case rel => exact ⟨v + 1, by omega, by go_num, HN, HBN⟩
                        case measure => simp [intOf]; omega
        · obtain rfl : v = L.length := by omega
          have hR : RES = false := by rw [HOE.out]; exact HF.out
          go_wp2
          go_ret
          exact ⟨by rw [hR]; rfl, HBV.out⟩
end Go.Proofs.Ytockhhleapbpiaa

