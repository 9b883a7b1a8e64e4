/- The reader: parents, and the place of their values. -/
import Derived.Test.YtojidhnkpeiimaaGreatDoorBakUOwn
import Derived.Test.YtojidhnkpeiimaaGreatDoorIterBToNetC
import Derived.WalkSpells
import Derived.Test.YtojidhnkpeiimaaGreatDoorMadFToMarkA
namespace Go.Proofs.YtojidhnkpeiimaaGreatDoor
open Go.RowKit Go.Shelf Go.Lib
theorem ndp_at {l : List Nat} (h : l.Nodup) {i j : Nat} (hi : i < l.length) (hj : j < l.length) (e : l[i] = l[j]) : i = j := by
  rcases Nat.lt_trichotomy i j with h1 | h1 | h1
  · exact absurd e (List.pairwise_iff_getElem.1 h i j hi hj h1)
  · exact h1
  · exact absurd e.symm (List.pairwise_iff_getElem.1 h j i hj hi h1)
theorem nmV_vs {Vs : List PV} {u : Nat} (h : u < Vs.length) : nmV (vOf Vs) u = Vs[u].1 := by
  have hl : u < (vOf Vs).length := by simpa [vOf] using h
  rw [nmV, getV hl]
  simp [vOf]
theorem open_not {s : ByteArray} (h : nameB s = true) (c : UInt8) (hc : letN c.toNat = false) : (s.toList == [c]) = false := by
  obtain ⟨c0, l0, e1, e2, e3⟩ := tk_name h
  rw [toList_data, show s.data.toList = bl s from rfl, e1, beq_eq_false_iff_ne]
  rintro e
  injection e with e4 e5
  have h5 : letN c.toNat = true := by
    simp only [nameB, wordB, Bool.and_eq_true] at h
    have h6 := h.2.2
    rw [show s.data.toList = bl s from rfl, e1, e4] at h6
    exact h6
  rw [hc] at h5
  exact absurd h5 (by decide)
set_option maxRecDepth 100000 in
set_option maxHeartbeats 2000000 in
theorem parents_tok {ts : List ByteArray} (g v : Nat) (s : List UInt8) (x y z : Value) (Vs : List PV) (Ls : List PL) (Rs : List PR) (P : List Nat) (w : World) (h : RD w g s x y z Vs Ls Rs) (hV : NmsOK (namesV (vOf Vs))) (h8 : Vs.length ≤ 8)
    (hr : Rst (P.map (nmV (vOf Vs)) ++ tOpen :: ts) s) (hP : ∀ u ∈ P, u < Vs.length) (hvP : ¬ v ∈ P) (hnd : P.Nodup) (h1 : 1 ≤ P.length) (h3 : P.length ≤ 8) :
    Calls Tryz.prog 126 #[.pointer (some ⟨g, 0, none⟩), .int .i64 v] w fun e w' => ∃ q s', e = .returned q ∧ RwI w' w.heap.size q (iL P) ∧ RBx w' g s' x y z ∧ s'.length ≤ 20000 ∧ Rst ts s' ∧ ByS w g w' := by
  have hg := h.box.lt
  have HD := hid h
  have HV := hid hV
  have HP := hid hP
  have Hg := hid hg
  have HNP := hid hvP
  have HND := hid hnd
  have K0 := hid (show RBx w g s x y z ∧ s.length ≤ 20000 ∧ Rst (P.map (nmV (vOf Vs)) ++ tOpen :: ts) s ∧ ByS w g w from ⟨h.box, h.short, hr, ByS.refl _ _⟩)
  have HL := hid (fun (U : World) (s' : List UInt8) (t : ByteArray) (ts' : List ByteArray) (hU : RBx U g s' x y z) (hs : s'.length ≤ 20000) (hr : Rst (t :: ts') s') => look_tok g s' _ _ _ U hU hs hr)
  have HN := hid (fun (U : World) (s' : List UInt8) (t : ByteArray) (ts' : List ByteArray) (hU : RBx U g s' x y z) (hs : s'.length ≤ 20000) (hr : Rst (t :: ts') s') => next_tok g s' _ _ _ U hU hs hr)
  have HS := hid (fun (U : World) (s' : List UInt8) (t : ByteArray) (ts' : List ByteArray) (hU : RBx U g s' x y z) (hs : s'.length ≤ 20000) (hr : Rst (t :: ts') s') => sign_tok g s' _ _ _ U hU hs hr)
  have HGU := hid (fun (k : Int) (U : World) => giveUpIf_no (some ⟨g, 0, none⟩) k U)
  clear h hr hV hP hg hvP hnd
  go_enter Tryz.func126, Tryz.ntmps126
  go_wp2_with fail
  go_loopw [5] (fun qv wr => ∃ (i : Nat) (s' : List UInt8), i ≤ P.length ∧ Hid (RwI wr w.heap.size qv (iL (P.take i))) ∧ Hid (RBx wr g s' x y z ∧ s'.length ≤ 20000 ∧ Rst ((P.drop i).map (nmV (vOf Vs)) ++ tOpen :: ts) s' ∧ ByS w g wr)) (fun qv _ => P.length - lenOf qv)
  case atStart => exact ⟨0, s, Nat.zero_le _, RwI.emptyB _ _, K0⟩
  case round =>
    obtain ⟨i, s', hi, HQ, HK⟩ := hrel
    clear K0
    have hll : (iL (P.take i)).length = i := by rw [iL_length, List.length_take]; omega
    obtain ⟨dq, nq, cq, rfl⟩ := (show SlV _ from by obtain ⟨a, c, e, -⟩ := owns_slice HQ.out; exact ⟨a, _, c, e⟩)
    have hnq : i = nq := by
      obtain ⟨d2, c2, e, -⟩ := owns_slice HQ.out
      injection e with _ e2 _
      rw [e2, hll]
    subst hnq
    have HKQ : Hid (∀ (qv : Value) (U U' : World) (s' : List UInt8), RwI U w.heap.size qv (iL (P.take i)) → RBx U g s' x y z → ByS U g U' → RwI U' w.heap.size qv (iL (P.take i))) := fun qv U U' s' h1 h2 h3 => owns_keep h1 (h3.keep h2 (by decide))
    by_cases hlt : i < P.length
    · have hdr : P.drop i = P[i] :: P.drop (i + 1) := List.drop_eq_getElem_cons hlt
      have hu := HP.out P[i] (List.getElem_mem hlt)
      have HTI : Hid (iL (P.take (i + 1)) = iL (P.take i) ++ [((P[i] : Nat) : Int)]) := by
        show _ = _
        rw [List.take_succ_eq_append_getElem hlt, iL, iL, List.map_append]
        rfl
      have hnl : P[i] < (namesV (vOf Vs)).length := by rw [namesV_length]; simpa [vOf] using hu
      have hnm : nameB Vs[P[i]].1 = true := by
        have h2 := (HV.out P[i] hnl).1
        have e1 : (namesV (vOf Vs))[P[i]]'hnl = Vs[P[i]].1 := by simp [namesV, vOf]
        rwa [e1] at h2
      have hbr := open_not hnm 123 (by decide)
      have HVA : Hid (∀ (U : World) (s' : List UInt8), RD U g s' x y z Vs Ls Rs → Calls Tryz.prog 87 #[.pointer (some ⟨g, 0, none⟩), .string Vs[P[i]].1] U fun e w' => e = .returned (.int .i64 (P[i] : Nat)) ∧ Below U.heap.size U w') := fun U s' hU => variable_tok g P[i] s' _ _ _ Vs Ls Rs U hU HV.out (by omega) hu
      have hpv : ((P[i] : Int) == (v : Int)) = false := by
        rw [beq_eq_false_iff_ne]
        intro e
        exact HNP.out (by rw [← show P[i] = v by omega]; exact List.getElem_mem hlt)
      have hct : (iL (P.take i)).contains ((P[i] : Nat) : Int) = false := by
        rw [List.contains_eq_any_beq, List.any_eq_false]
        intro a ha
        rw [iL] at ha
        obtain ⟨b, hb, rfl⟩ := List.mem_map.1 ha
        obtain ⟨j, hj, rfl⟩ := List.getElem_of_mem hb
        rw [List.length_take] at hj
        rw [List.getElem_take]
        intro e
        have e2 : P[i] = P[j]'(by omega) := by
          have e3 := eq_of_beq e
          omega
        have := ndp_at HND.out hlt (by omega) e2
        omega
      have HCT : Hid (∀ U : World, RwI U w.heap.size (.slice dq i cq) (iL (P.take i)) → Calls Tryz.prog 161 #[.slice dq i cq, .int .i64 (P[i] : Nat)] U fun e w' => e = .returned (.bool false) ∧ Below U.heap.size U w') := fun U hU => by
        obtain ⟨d2, c2, e, h2⟩ := hU.ints
        rw [hll] at e
        injection e with e1 _ _
        have := slContains_any dq cq (iL (P.take i)) ((P[i] : Nat) : Int) U (by rw [e1]; exact h2) (by omega)
        rwa [hll, hct] at this
      have HK1 := HK.out.2.2.1
      rw [hdr, List.map_cons, nmV_vs hu] at HK1
      replace HK := hid (show RBx wr g s' x y z ∧ s'.length ≤ 20000 ∧ Rst (Vs[P[i]].1 :: ((P.drop (i + 1)).map (nmV (vOf Vs)) ++ tOpen :: ts)) s' ∧ ByS w g wr from ⟨HK.out.1, HK.out.2.1, HK1, HK.out.2.2.2⟩)
      have HLI := hid hll
      clear hdr HK1 hnm hct hnl hll
      generalize Vs[P[i]].1 = nm at *
      generalize P[i] = u at *
      by_cases hi0 : i = 0
      focus
        have hc : ((i : Int) == 0) = true := by rw [beq_iff_eq]; omega
        clear hi0
        go_upto_region 3 with fail
        clear hc hbr
      rotate_left
      focus
        have hc : ((i : Int) == 0) = false := by rw [beq_eq_false_iff_ne]; omega
        clear hi0
        go_wp2_with fail
        refine (HL.out _ _ _ _ HK.out.1 HK.out.2.1 HK.out.2.2.1).mono ?_
        rintro e w5 ⟨rfl, s5, a1, a2, a3, a4⟩
        replace HQ := hid (HKQ.out _ _ _ _ HQ.out HK.out.1 a4)
        replace HK := hid (show RBx w5 g s5 x y z ∧ s5.length ≤ 20000 ∧ Rst (nm :: ((P.drop (i + 1)).map (nmV (vOf Vs)) ++ tOpen :: ts)) s5 ∧ ByS w g w5 from ⟨a1, a2, a3, HK.out.2.2.2.trans a4⟩)
        clear a1 a2 a3 a4
        go_upto_region 3 with fail
        clear hc hbr
      all_goals
        rename World => wq
        go_wp2_with fail
        refine (HN.out _ _ _ _ HK.out.1 HK.out.2.1 HK.out.2.2.1).mono ?_
        rintro e w6 ⟨rfl, s6, a1, a2, a3, a4⟩
        replace HQ := hid (HKQ.out _ _ _ _ HQ.out HK.out.1 a4)
        replace HK := hid (show RBx w6 g s6 x y z ∧ s6.length ≤ 20000 ∧ Rst ((P.drop (i + 1)).map (nmV (vOf Vs)) ++ tOpen :: ts) s6 ∧ ByS w g w6 from ⟨a1, a2, a3, HK.out.2.2.2.trans a4⟩)
        clear a1 a2 a3 a4
        go_wp2_with fail
        refine (HVA.out _ s6 (HD.out.by HK.out.2.2.2 HK.out.1 HK.out.2.1)).mono ?_
        rintro e w7 ⟨rfl, hb⟩
        replace HQ := hid (HQ.out.below hb)
        replace HK := hid (show RBx w7 g s6 x y z ∧ s6.length ≤ 20000 ∧ Rst ((P.drop (i + 1)).map (nmV (vOf Vs)) ++ tOpen :: ts) s6 ∧ ByS w g w7 from ⟨HK.out.1.below hb, HK.out.2.1, HK.out.2.2.1, HK.out.2.2.2.step hb⟩)
        clear hb
        go_wp2_with fail
        refine (HCT.out _ HQ.out).mono ?_
        rintro e w8 ⟨rfl, hb⟩
        replace HQ := hid (HQ.out.below hb)
        replace HK := hid (show RBx w8 g s6 x y z ∧ s6.length ≤ 20000 ∧ Rst ((P.drop (i + 1)).map (nmV (vOf Vs)) ++ tOpen :: ts) s6 ∧ ByS w g w8 from ⟨HK.out.1.below hb, HK.out.2.1, HK.out.2.2.1, HK.out.2.2.2.step hb⟩)
        clear hb
        go_wp2_with fail
        refine (HGU.out _ _).mono ?_
        rintro e w9 ⟨rfl, hw⟩
        obtain rfl := hw.symm
        have hbB : Below w8.heap.size w8 (w8.alloc (.cells #[.int .i64 (u : Nat)] 3)) := (Below.refl _ w8).alloc (Nat.le_refl _) _
        replace HQ := hid (HQ.out.below hbB)
        replace HK := hid (show RBx (w8.alloc (.cells #[.int .i64 (u : Nat)] 3)) g s6 x y z ∧ s6.length ≤ 20000 ∧ Rst ((P.drop (i + 1)).map (nmV (vOf Vs)) ++ tOpen :: ts) s6 ∧ ByS w g (w8.alloc (.cells #[.int .i64 (u : Nat)] 3)) from ⟨HK.out.1.below hbB, HK.out.2.1, HK.out.2.2.1, HK.out.2.2.2.step hbB⟩)
        have HNI : Hid (IntS (w8.alloc (.cells #[.int .i64 (u : Nat)] 3)) (some ⟨w8.heap.size, 0, none⟩) [((u : Nat) : Int)]) := fun k hk => by
          have hk0 : k = 0 := by simpa using hk
          subst hk0
          refine ⟨w8.heap.size, 0, rfl, by simp, ?_⟩
          rw [cell_of_row _ _ _ _ _ (0, 0) (heap_alloc_new w8 _)]
          rfl
        have hbs : w.heap.size ≤ (w8.alloc (.cells #[.int .i64 (u : Nat)] 3)).heap.size := HK.out.2.2.2.size
        clear hbB
        go_wp2_with (at_builtin; refine wpList_append_ints rfl _ _ rfl w.heap.size _ (iL (P.take i)) [((u : Nat) : Int)] rfl HQ.out (some ⟨w8.heap.size, 0, none⟩) 1 rfl HNI.out (fun e => by cases e) (by rw [HLI.out]; simp; omega) hbs ?_; intro v' w10 hr3 hg3)
        have K9 := hid (show RBx w10 g s6 x y z ∧ s6.length ≤ 20000 ∧ Rst ((P.drop (i + 1)).map (nmV (vOf Vs)) ++ tOpen :: ts) s6 ∧ ByS w g w10 from ⟨HK.out.1.grown hg3 (fun k e => owns_from HQ.out k e) Hg.out, HK.out.2.1, HK.out.2.2.1, HK.out.2.2.2.grown hg3 (fun k e => owns_from HQ.out k e)⟩)
        have Q9 : Hid (RwI w10 w.heap.size v' (iL (P.take (i + 1)))) := by
          show RwI _ _ _ _
          rw [HTI.out]
          exact hr3
        have hq9 : lenOf v' = i + 1 := by
          obtain ⟨d2, c2, e, -⟩ := owns_slice hr3
          rw [e, List.length_append, HLI.out]
          rfl
        clear hr3 hg3 HQ HK HNI hbs HTI
        go_wp2
        go_roundw
        case rel => exact ⟨i + 1, s6, by omega, Q9, K9⟩
        case measure => rw [hq9]; simp [lenOf]; omega
    · obtain rfl : i = P.length := by omega
      have HK1 := HK.out.2.2.1
      rw [List.drop_length] at HK1
      replace HK := hid (show RBx wr g s' x y z ∧ s'.length ≤ 20000 ∧ Rst (tOpen :: ts) s' ∧ ByS w g wr from ⟨HK.out.1, HK.out.2.1, HK1, HK.out.2.2.2⟩)
      have hc : ((P.length : Int) == 0) = false := by rw [beq_eq_false_iff_ne]; omega
      have hop : (tOpen.toList == [123]) = true := by rw [toList_data]; rfl
      clear HK1 hll
      go_wp2_with fail
      refine (HL.out _ _ _ _ HK.out.1 HK.out.2.1 HK.out.2.2.1).mono ?_
      rintro e w5 ⟨rfl, s5, a1, a2, a3, a4⟩
      replace HQ := hid (HKQ.out _ _ _ _ HQ.out HK.out.1 a4)
      replace HK := hid (show RBx w5 g s5 x y z ∧ s5.length ≤ 20000 ∧ Rst (tOpen :: ts) s5 ∧ ByS w g w5 from ⟨a1, a2, a3, HK.out.2.2.2.trans a4⟩)
      clear a1 a2 a3 a4
      go_wp2_with fail
      refine (HS.out _ _ tOpen _ HK.out.1 HK.out.2.1 HK.out.2.2.1).mono ?_
      rintro e w6 ⟨rfl, s6, a1, a2, a3, a4⟩
      replace HQ := hid (HKQ.out _ _ _ _ HQ.out HK.out.1 a4)
      replace HK := hid (show RBx w6 g s6 x y z ∧ s6.length ≤ 20000 ∧ Rst ts s6 ∧ ByS w g w6 from ⟨a1, a2, a3, HK.out.2.2.2.trans a4⟩)
      clear a1 a2 a3 a4 hc hop
      have hqf := HQ.out
      rw [List.take_length] at hqf
      have HQF := hid hqf
      clear hqf HQ
      go_wp2
      go_ret
      exact ⟨_, s6, rfl, HQF.out, HK.out⟩
theorem iLg {l : List Nat} {k : Nat} (h : k < l.length) {h2 : k < (iL l).length} : (iL l)[k]'h2 = ((l[k] : Nat) : Int) := by simp [iL]
set_option maxRecDepth 100000 in
set_option maxHeartbeats 1000000 in
theorem slIdx_at (a : Option Addr) (ca n k : Nat) (l : List Nat) (w : World) (h : IntS w a (iL l)) (hl : l.length = n) (hd : l.Nodup) (hk : k < l.length) (hn : n ≤ 1000) :
    Calls Tryz.prog 163 #[.slice a n ca, .int .i64 (l[k] : Nat)] w fun e w' => e = .returned (.int .i64 (k : Nat)) ∧ w' = w := by
  have HV := hid h
  have HL := hid hl
  have HD := hid hd
  obtain ⟨x, hx⟩ : ∃ x, l[k] = x := ⟨_, rfl⟩
  rw [hx]
  have HX := hid hx
  clear h hl hd hx
  go_enter Tryz.func163, Tryz.ntmps163
  go_wp2_with fail
  go_loopw [8] (fun jv wr => ∃ j : Nat, j ≤ k ∧ jv = .int .i64 j ∧ wr = w) (fun jv _ => n - (intOf jv).toNat)
  case atStart => exact ⟨0, Nat.zero_le _, rfl, rfl⟩
  case round =>
    obtain ⟨j, hj, rfl, rfl⟩ := hrel
    have hlt : j < n := by have := HL.out; omega
    have hjl : j < l.length := by omega
    have hji : j < (iL l).length := by rw [iL_length]; exact hjl
    obtain ⟨g, o, rfl, hg, c0⟩ := HV.out j hji
    rw [iLg hjl] at c0
    by_cases hjk : j = k
    · subst hjk
      rw [HX.out] at c0
      go_wp2
      go_ret
      exact ⟨rfl, rfl⟩
    · have hne : ¬ ((x : Int) = ((l[j] : Nat) : Int)) := fun e => hjk (ndp_at HD.out hjl hk (by rw [HX.out]; omega))
      generalize l[j] = y at *
      go_wp2
      go_roundw
      case rel => exact ⟨j + 1, by omega, by go_num, trivial⟩
      case measure => simp [intOf]; omega
theorem valsL_drop (V : List Vr) (P D : List Nat) (n : Nat) {i : Nat} (h : i < n) : (valsL V P D n).drop i = vlV V (P.getD i 0) (D.getD i 0) :: (valsL V P D n).drop (i + 1) := by
  have hl : i < (valsL V P D n).length := by simpa [valsL] using h
  rw [List.drop_eq_getElem_cons hl]
  congr 1
  simp [valsL]
set_option maxRecDepth 100000 in
set_option maxHeartbeats 4000000 in
theorem place_tok {ts : List ByteArray} (g v K : Nat) (s : List UInt8) (x y z : Value) (Vs : List PV) (Ls : List PL) (Rs : List PR) (P D : List Nat) (dt : Option Addr) (ct : Nat) (w : World) (h : RD w g s x y z Vs Ls Rs) (hV : ∀ p ∈ Vs, NmsOK p.2.2 ∧ p.2.2.length ≤ 4) (h8 : Vs.length ≤ 8)
    (hv : v < Ls.length) (hL : Ls[v].2 = iL P) (hT : ∀ U, ByS w g U → IntS U dt (iL P)) (hr : Rst (valsL (vOf Vs) P D P.length ++ ts) s) (hP : ∀ u ∈ P, u < Vs.length) (hnd : P.Nodup) (h3 : P.length ≤ 8) (hDl : D.length = P.length)
    (hD : ∀ i (h1 : i < P.length) (h2 : i < D.length), D[i] < sz (sizesN (vOf Vs)) P[i]) (hix : indexA (iL (sizesN (vOf Vs))) (iL P) (iL D) = ((K : Int), 0)) :
    Calls Tryz.prog 129 #[.pointer (some ⟨g, 0, none⟩), .int .i64 v, .slice dt P.length ct] w fun e w' => ∃ s', e = .returned (.int .i64 K) ∧ RBx w' g s' x y z ∧ s'.length ≤ 20000 ∧ Rst ts s' ∧ ByS w g w' := by
  obtain ⟨i0, hi0, hz0, hz1, hz2⟩ := info_parts Tryz.infoInt
  have hg := h.box.lt
  have hlv : (vOf Vs).length = Vs.length := by simp [vOf]
  obtain ⟨a, c, rfl, hvs⟩ := h.vs.vars
  obtain ⟨b, cb, rfl, -⟩ := owns_slice h.ls.1
  obtain ⟨cc, cz, rfl, -⟩ := owns_slice h.rs.1
  obtain ⟨gy, rfl, hgy, k1⟩ := owns_cell h.ls.1 (j := v) (by simpa using hv)
  obtain ⟨dp, cp, e1, hpi⟩ := (h.ls.2 Ls[v] (List.getElem_mem hv)).ints
  rw [List.getElem_map, e1, hL, iL_length] at k1
  rw [hL] at hpi
  have hgg : gy ≠ g := fun e => by
    have h1 := h.box
    obtain ⟨c1, f1, h2⟩ := owns_typed h.ls.1 gy rfl
    rw [RBx, ← e, h2] at h1
    injection h1 with h3
    injection h3 with _ h4 _
    exact absurd h4 (by decide)
  have HD := hid h
  have Hg := hid hg
  have hqi := h.ls.2 Ls[v] (List.getElem_mem hv)
  rw [hL] at hqi
  have HPI : Hid (∀ U, ByS w g U → IntS U dp (iL P)) := fun U hU => by
    have h2 : RwI U g Ls[v].1 (iL P) := owns_keep hqi (hU.keep h.box (by decide))
    obtain ⟨d2, c2, e2, h3⟩ := h2.ints
    rw [e1] at e2
    injection e2 with e3 _ _
    rw [e3]
    exact h3
  have HIX : Hid (∀ (i : Nat) (hi : i < P.length) (U : World), ByS w g U → Calls Tryz.prog 163 #[.slice dp P.length cp, .int .i64 (P[i] : Nat)] U fun e w' => e = .returned (.int .i64 (i : Nat)) ∧ w' = U) := fun i hi U hU => slIdx_at dp cp P.length i P U (HPI.out U hU) rfl hnd hi (by omega)
  have HNX := hid (fun (U : World) (s' : List UInt8) (t : ByteArray) (ts' : List ByteArray) (hU : RBx U g s' (.slice a (vOf Vs).length c) (.slice (some ⟨gy, 0, none⟩) Ls.length cb) (.slice cc Rs.length cz)) (hs : s'.length ≤ 20000) (hr : Rst (t :: ts') s') => next_tok g s' _ _ _ U hU hs hr)
  have HPL := hid hP
  have HDV := hid hD
  have HVV := hid hV
  have HTO := hid hT
  have hsl : (sizesN (vOf Vs)).length = Vs.length := by rw [sizesN_length]; exact hlv
  have HSIZ : Hid (∀ (U : World) (s' : List UInt8), RD U g s' (.slice a (vOf Vs).length c) (.slice (some ⟨gy, 0, none⟩) Ls.length cb) (.slice cc Rs.length cz) Vs Ls Rs → Calls Tryz.prog 45 #[.agg #[.slice a (vOf Vs).length c, .slice (some ⟨gy, 0, none⟩) Ls.length cb, .slice cc Rs.length cz]] U fun e w' => ∃ G, e = .returned (.slice (some ⟨G, 0, none⟩) (vOf Vs).length (vOf Vs).length) ∧ U.heap.size ≤ G ∧ RowI w' G (sizesN (vOf Vs)) ∧ Below U.heap.size U w') := fun U s' hU => by
    obtain ⟨a2, c2, e2, hv2⟩ := hU.vs.vars
    injection e2 with e3 e4 e5
    subst e3
    exact nSizes_any a (some ⟨gy, 0, none⟩) cc c cb cz Ls.length Rs.length (vOf Vs) U hv2 (by omega)
  have HIN : Hid (∀ (G G2 : Nat) (U : World), RowI U G (sizesN (vOf Vs)) → IntS U dp (iL P) → RowI U G2 D → Calls Tryz.prog 164 #[.slice (some ⟨G, 0, none⟩) (vOf Vs).length (vOf Vs).length, .slice dp P.length cp, .slice (some ⟨G2, 0, none⟩) P.length P.length] U fun e w' => e = .returned (.tuple #[.int .i64 K, .int .i64 0]) ∧ Below U.heap.size U w') := fun G G2 U h1 h2 h4 => by
    have := tIndex_any (some ⟨G, 0, none⟩) dp (some ⟨G2, 0, none⟩) (vOf Vs).length cp P.length (iL (sizesN (vOf Vs))) (iL P) (iL D) U h1.ints h2 h4.ints (by rw [iL_length]; omega) (by rw [iL_length]; omega) (by rw [iL_length]; omega)
    rw [hix, iL_length, iL_length, iL_length, hDl, hsl, ← hlv] at this
    exact this
  have K0 := hid (show RBx w g s (.slice a (vOf Vs).length c) (.slice (some ⟨gy, 0, none⟩) Ls.length cb) (.slice cc Rs.length cz) ∧ s.length ≤ 20000 ∧ Rst (valsL (vOf Vs) P D P.length ++ ts) s ∧ ByS w g w from ⟨h.box, h.short, hr, ByS.refl _ _⟩)
  obtain ⟨-, -, c2, -⟩ := h.box.cells
  clear h hr hvs hP hD hV hT hqi hpi e1 hix hsl
  go_enter Tryz.func129, Tryz.ntmps129
  go_upto_region 2 with fail
  go_wp2_with (at_make; refine wpList_make_full _ rfl _ _ 22 rfl w.heap.size 3 i0 (.int .i64 0) 1 Tryz.underlying22 hi0 hz0 hz1 .i64 .i64 _ _ P.length rfl rfl (by go_num) (by go_num) (by rw [hz2]; omega) (by unfold maxLen; omega) (Nat.le_refl _) ?_; intro w2 hown2 hgrow2)
  have hb2 := block_of_own hown2
  rw [made_ints] at hb2
  have HA2 : Hid (RowI w2 w.heap.size (partD D 0)) := by
    show RowI _ _ _
    rw [partD_zero, hDl]
    exact hb2
  have K2 := hid (show RBx w2 g s (.slice a (vOf Vs).length c) (.slice (some ⟨gy, 0, none⟩) Ls.length cb) (.slice cc Rs.length cz) ∧ s.length ≤ 20000 ∧ Rst (valsL (vOf Vs) P D P.length ++ ts) s ∧ ByS w g w2 from ⟨K0.out.1.grown hgrow2 (fun k e => by cases e) Hg.out, K0.out.2.1, K0.out.2.2.1, K0.out.2.2.2.grown hgrow2 (fun k e => by cases e)⟩)
  clear hown2 hgrow2 hb2 K0 k1 c2
  go_wp2_with fail
  obtain ⟨nv, hnv⟩ : ∃ nv, (vOf Vs).length = nv := ⟨_, rfl⟩
  rw [hnv] at HNX HSIZ HIN HD K2 hlv
  have HLV := hid hlv
  have HNV := hid hnv
  clear hnv hlv
  go_loopw [26] (fun iv wr => ∃ (i : Nat) (s' : List UInt8), i ≤ P.length ∧ iv = .int .i64 i ∧ Hid (RowI wr w.heap.size (partD D i)) ∧ Hid (RBx wr g s' (.slice a nv c) (.slice (some ⟨gy, 0, none⟩) Ls.length cb) (.slice cc Rs.length cz) ∧ s'.length ≤ 20000 ∧ Rst ((valsL (vOf Vs) P D P.length).drop i ++ ts) s' ∧ ByS w g wr)) (fun iv _ => P.length - (intOf iv).toNat)
  case atStart => exact ⟨0, s, Nat.zero_le _, rfl, HA2, K2⟩
  case round =>
    obtain ⟨i, s', hi, rfl, HA, HK⟩ := hrel
    clear HA2 K2
    by_cases hlt : i < P.length
    · obtain ⟨gt, ot, rfl, hgt, t0⟩ := HTO.out wr HK.out.2.2.2 i (by rw [iL_length]; exact hlt)
      rw [iLg hlt] at t0
      have hu := HPL.out P[i] (List.getElem_mem hlt)
      have hiD : i < D.length := by omega
      have hdi := HDV.out i hlt hiD
      have e1 : P.getD i 0 = P[i] := by rw [List.getD_eq_getElem?_getD, List.getElem?_eq_getElem hlt]; rfl
      have e2 : D.getD i 0 = D[i] := by rw [List.getD_eq_getElem?_getD, List.getElem?_eq_getElem hiD]; rfl
      have huV : P[i] < (vOf Vs).length := by simpa [vOf] using hu
      have e3 : (vOf Vs)[P[i]].2 = Vs[P[i]].2.2 := by simp [vOf]
      rw [szV huV, e3] at hdi
      obtain ⟨hno, hn4⟩ := HVV.out Vs[P[i]] (List.getElem_mem hu)
      have e4 : vlV (vOf Vs) P[i] D[i] = (Vs[P[i]].2.2)[D[i]] := by
        rw [vlV, getV huV, e3, List.getD_eq_getElem?_getD, List.getElem?_eq_getElem hdi]
        rfl
      have hname := (hno D[i] hdi).1
      have hplace := hno.place hdi
      have HK1 := HK.out.2.2.1
      rw [valsL_drop (vOf Vs) P D P.length hlt, e1, e2, e4] at HK1
      obtain ⟨gx, ox, bv, cv, rfl, hgx, -, x1, -, -⟩ : ∃ g' o b' c', a = some ⟨g', o, none⟩ ∧ g' < w.heap.size ∧ w.cell? ⟨g', o + P[i] * 2, none⟩ = some (.string (vOf Vs)[P[i]].1) ∧ w.cell? ⟨g', o + P[i] * 2 + 1, none⟩ = some (.slice b' (vOf Vs)[P[i]].2.length c') ∧ StS w b' (vOf Vs)[P[i]].2 ∧ (vOf Vs)[P[i]].2.length ≤ c' := by
        obtain ⟨a2, c2, ea, hvv⟩ := HD.out.vs.vars
        injection ea with ea1 _ _
        rw [ea1]
        exact hvv P[i] huV
      have hgxg : gx ≠ g := fun e => by
        have h1 := HD.out.box
        obtain ⟨c1, f1, h2⟩ := owns_typed HD.out.vs.1 gx rfl
        rw [RBx, ← e, h2] at h1
        injection h1 with h3
        injection h3 with _ h4 _
        exact absurd h4 (by decide)
      rw [e3] at x1
      have HVC : Hid (∀ (U : World) (s' : List UInt8), RBx U g s' (.slice (some ⟨gx, ox, none⟩) nv c) (.slice (some ⟨gy, 0, none⟩) Ls.length cb) (.slice cc Rs.length cz) → s'.length ≤ 20000 → ByS w g U → U.cell? ⟨gx, ox + P[i] * 2 + 1, none⟩ = some (.slice bv Vs[P[i]].2.2.length cv) ∧ StS U bv Vs[P[i]].2.2) := fun U s' hb hs hU => by
        have hc := (hU.cell (p := ⟨gx, ox + P[i] * 2 + 1, none⟩) hgx hgxg).trans x1
        refine ⟨hc, ?_⟩
        obtain ⟨a2, c2, ea, hvv⟩ := (HD.out.by hU hb hs).vs.vars
        injection ea with ea1 _ _
        obtain ⟨g', o', b', c', e5, _, _, h6, h7, _⟩ := hvv P[i] huV
        rw [← ea1] at e5
        cases e5
        rw [hc] at h6
        injection h6 with h8
        injection h8 with h9 _ _
        rw [h9, ← e3]
        exact h7
      have HKN : Hid (∀ U : World, StS U bv Vs[P[i]].2.2 → Calls Tryz.prog 123 #[.pointer (some ⟨g, 0, none⟩), .slice bv Vs[P[i]].2.2.length cv, .string (Vs[P[i]].2.2)[D[i]]] U fun e w' => e = .returned (.int .i64 (D[i] : Nat)) ∧ w' = U) := fun U hU => known_tok (some ⟨g, 0, none⟩) bv cv D[i] Vs[P[i]].2.2 _ U hU (by omega) hname hplace
      have HIX1 := hid (HIX.out i hlt)
      have HPS := hid (partD_set D hiD)
      replace HK := hid (show RBx wr g s' (.slice (some ⟨gx, ox, none⟩) nv c) (.slice (some ⟨gy, 0, none⟩) Ls.length cb) (.slice cc Rs.length cz) ∧ s'.length ≤ 20000 ∧ Rst ((Vs[P[i]].2.2)[D[i]] :: ((valsL (vOf Vs) P D P.length).drop (i + 1) ++ ts)) s' ∧ ByS w g wr from ⟨HK.out.1, HK.out.2.1, HK1, HK.out.2.2.2⟩)
      have huv : P[i] < nv := by have := HLV.out; omega
      have hpl : (partD D i).length = P.length := by rw [partD_length _ (by omega), hDl]
      have HPLN := hid hpl
      clear e1 e2 hno hn4 hname hplace HK1 e4 x1 hpl
      generalize (Vs[P[i]].2.2)[D[i]] = t at *
      clear hdi
      generalize Vs[P[i]].2.2 = vals at *
      generalize D[i] = di at *
      clear huV e3 hu
      generalize P[i] = u at *
      go_upto_region 6 with fail
      have hbD : Below wr.heap.size wr wr.drew := (Below.refl _ wr).drew
      replace HK := hid (And.intro (HK.out.1.below hbD) (And.intro HK.out.2.1 (And.intro HK.out.2.2.1 (HK.out.2.2.2.step hbD))))
      replace HA := hid HA.out.drew
      clear hbD t0
      have X0 := hid (HVC.out _ _ HK.out.1 HK.out.2.1 HK.out.2.2.2)
      refine wp_region_held_drew (S := fun U => U.cell? ⟨g, 1, none⟩ = some (.slice (some ⟨gx, ox, none⟩) nv c) ∧ U.cell? ⟨gx, ox + u * 2 + 1, none⟩ = some (.slice bv vals.length cv)) (by kernel_rfl) ⟨HK.out.1.cells.2.1, X0.out.1⟩ (fun hSd => ?_)
      generalize wr.drew = u0 at *
      refine wpAnyH_take (i := 0) (oi := _) (v := (.slice (some ⟨w.heap.size, 0, none⟩) P.length P.length)) rfl (by kernel_rfl) (by kernel_rfl) (by kernel_rfl) (fun _ _ _ h => h) (Or.inl ⟨by rfl, ?_⟩) (by assumption) ?_
      · intro u' hSu
        (try simp only [List.getElem_toArray, List.getElem_cons_zero])
        go_simp
      (try simp only [List.getElem_toArray, List.getElem_cons_zero])
      (try simp only [Act.put, List.setIfInBounds_toArray, List.set_cons_zero, List.set_cons_succ])
      refine wpAnyH_take (i := 1) (oi := _) (v := (.slice dp P.length cp)) rfl (by kernel_rfl) (by kernel_rfl) (by kernel_rfl) (fun _ _ _ h => h) (Or.inl ⟨by rfl, ?_⟩) (by assumption) ?_
      · intro u' hSu
        (try simp only [List.getElem_toArray, List.getElem_cons_zero, List.getElem_cons_succ])
        go_simp
      (try simp only [List.getElem_toArray, List.getElem_cons_zero, List.getElem_cons_succ])
      (try simp only [Act.put, List.setIfInBounds_toArray, List.set_cons_zero, List.set_cons_succ])
      refine wpAnyH_take (i := 2) (oi := _) (v := (.int .i64 (u : Nat))) rfl (by kernel_rfl) (by kernel_rfl) (by kernel_rfl) (fun _ _ _ h => h) (Or.inl ⟨by rfl, ?_⟩) (by assumption) ?_
      · intro u' hSu
        (try simp only [List.getElem_toArray, List.getElem_cons_zero, List.getElem_cons_succ])
        go_simp
      (try simp only [List.getElem_toArray, List.getElem_cons_zero, List.getElem_cons_succ])
      (try simp only [Act.put, List.setIfInBounds_toArray, List.set_cons_zero, List.set_cons_succ])
      refine wpAnyH_take (i := 4) (oi := _) (v := (.pointer (some ⟨g, 0, none⟩))) rfl (by kernel_rfl) (by kernel_rfl) (by kernel_rfl) (fun _ _ _ h => h) (Or.inl ⟨by rfl, ?_⟩) (by assumption) ?_
      · intro u' hSu
        (try simp only [List.getElem_toArray, List.getElem_cons_zero, List.getElem_cons_succ])
        go_simp
      (try simp only [List.getElem_toArray, List.getElem_cons_zero, List.getElem_cons_succ])
      (try simp only [Act.put, List.setIfInBounds_toArray, List.set_cons_zero, List.set_cons_succ])
      refine wpAnyH_take (i := 5) (oi := _) (v := (.pointer (some ⟨g, 0, none⟩))) rfl (by kernel_rfl) (by kernel_rfl) (by kernel_rfl) (fun _ _ _ h => h) (Or.inl ⟨by rfl, ?_⟩) (by assumption) ?_
      · intro u' hSu
        (try simp only [List.getElem_toArray, List.getElem_cons_zero, List.getElem_cons_succ])
        go_simp
      (try simp only [List.getElem_toArray, List.getElem_cons_zero, List.getElem_cons_succ])
      (try simp only [Act.put, List.setIfInBounds_toArray, List.set_cons_zero, List.set_cons_succ])
      refine wpAnyH_take (i := 6) (oi := _) (v := (.pointer (some ⟨g, 0, none⟩))) rfl (by kernel_rfl) (by kernel_rfl) (by kernel_rfl) (fun _ _ _ h => h) (Or.inl ⟨by rfl, ?_⟩) (by assumption) ?_
      · intro u' hSu
        (try simp only [List.getElem_toArray, List.getElem_cons_zero, List.getElem_cons_succ])
        go_simp
      (try simp only [List.getElem_toArray, List.getElem_cons_zero, List.getElem_cons_succ])
      (try simp only [Act.put, List.setIfInBounds_toArray, List.set_cons_zero, List.set_cons_succ])
      refine wpAnyH_take (i := 7) (oi := _) (v := (.pointer (some ⟨g, 1, none⟩))) rfl (by kernel_rfl) (by kernel_rfl) (by kernel_rfl) (fun _ _ _ h => h) (Or.inl ⟨by rfl, ?_⟩) (by assumption) ?_
      · intro u' hSu
        (try simp only [List.getElem_toArray, List.getElem_cons_zero, List.getElem_cons_succ])
        go_simp
      (try simp only [List.getElem_toArray, List.getElem_cons_zero, List.getElem_cons_succ])
      (try simp only [Act.put, List.setIfInBounds_toArray, List.set_cons_zero, List.set_cons_succ])
      refine wpAnyH_take (i := 8) (oi := _) (v := (.pointer (some ⟨g, 1, none⟩))) rfl (by kernel_rfl) (by kernel_rfl) (by kernel_rfl) (fun _ _ _ h => h) (Or.inl ⟨by rfl, ?_⟩) (by assumption) ?_
      · intro u' hSu
        (try simp only [List.getElem_toArray, List.getElem_cons_zero, List.getElem_cons_succ])
        go_simp
      (try simp only [List.getElem_toArray, List.getElem_cons_zero, List.getElem_cons_succ])
      (try simp only [Act.put, List.setIfInBounds_toArray, List.set_cons_zero, List.set_cons_succ])
      refine wpAnyH_take (i := 9) (oi := _) (v := (.slice (some ⟨gx, ox, none⟩) nv c)) rfl (by kernel_rfl) (by kernel_rfl) (by kernel_rfl) (fun _ _ _ h => h) (Or.inl ⟨by rfl, ?_⟩) (by assumption) ?_
      · intro u' hSu
        (try simp only [List.getElem_toArray, List.getElem_cons_zero, List.getElem_cons_succ])
        obtain ⟨s1, s2⟩ := hSu
        go_simp
      (try simp only [List.getElem_toArray, List.getElem_cons_zero, List.getElem_cons_succ])
      (try simp only [Act.put, List.setIfInBounds_toArray, List.set_cons_zero, List.set_cons_succ])
      refine wpAnyH_take (i := 10) (oi := _) (v := (.int .i64 (u : Nat))) rfl (by kernel_rfl) (by kernel_rfl) (by kernel_rfl) (fun _ _ _ h => h) (Or.inl ⟨by rfl, ?_⟩) (by assumption) ?_
      · intro u' hSu
        (try simp only [List.getElem_toArray, List.getElem_cons_zero, List.getElem_cons_succ])
        go_simp
      (try simp only [List.getElem_toArray, List.getElem_cons_zero, List.getElem_cons_succ])
      (try simp only [Act.put, List.setIfInBounds_toArray, List.set_cons_zero, List.set_cons_succ])
      refine wpAnyH_take (i := 11) (oi := _) (v := (.pointer (some ⟨gx, ox + u * 2, none⟩))) rfl (by kernel_rfl) (by kernel_rfl) (by kernel_rfl) (fun _ _ _ h => h) (Or.inl ⟨by rfl, ?_⟩) (by assumption) ?_
      · intro u' hSu
        (try simp only [List.getElem_toArray, List.getElem_cons_zero, List.getElem_cons_succ])
        go_simp
      (try simp only [List.getElem_toArray, List.getElem_cons_zero, List.getElem_cons_succ])
      (try simp only [Act.put, List.setIfInBounds_toArray, List.set_cons_zero, List.set_cons_succ])
      refine wpAnyH_take (i := 12) (oi := _) (v := (.pointer (some ⟨gx, ox + u * 2 + 1, none⟩))) rfl (by kernel_rfl) (by kernel_rfl) (by kernel_rfl) (fun _ _ _ h => h) (Or.inl ⟨by rfl, ?_⟩) (by assumption) ?_
      · intro u' hSu
        (try simp only [List.getElem_toArray, List.getElem_cons_zero, List.getElem_cons_succ])
        go_simp
      (try simp only [List.getElem_toArray, List.getElem_cons_zero, List.getElem_cons_succ])
      (try simp only [Act.put, List.setIfInBounds_toArray, List.set_cons_zero, List.set_cons_succ])
      refine wpAnyH_take (i := 13) (oi := _) (v := (.slice bv vals.length cv)) rfl (by kernel_rfl) (by kernel_rfl) (by kernel_rfl) (fun _ _ _ h => h) (Or.inl ⟨by rfl, ?_⟩) (by assumption) ?_
      · intro u' hSu
        (try simp only [List.getElem_toArray, List.getElem_cons_zero, List.getElem_cons_succ])
        obtain ⟨s1, s2⟩ := hSu
        go_simp
      (try simp only [List.getElem_toArray, List.getElem_cons_zero, List.getElem_cons_succ])
      (try simp only [Act.put, List.setIfInBounds_toArray, List.set_cons_zero, List.set_cons_succ])
      refine wpAnyH_take (i := 14) (oi := _) (v := (.pointer (some ⟨g, 0, none⟩))) rfl (by kernel_rfl) (by kernel_rfl) (by kernel_rfl) (fun _ _ _ h => h) (Or.inl ⟨by rfl, ?_⟩) (by assumption) ?_
      · intro u' hSu
        (try simp only [List.getElem_toArray, List.getElem_cons_zero, List.getElem_cons_succ])
        go_simp
      (try simp only [List.getElem_toArray, List.getElem_cons_zero, List.getElem_cons_succ])
      (try simp only [Act.put, List.setIfInBounds_toArray, List.set_cons_zero, List.set_cons_succ])
      refine wpAnyH_take (i := 15) (oi := _) (v := (.pointer (some ⟨g, 0, none⟩))) rfl (by kernel_rfl) (by kernel_rfl) (by kernel_rfl) (fun _ _ _ h => h) (Or.inl ⟨by rfl, ?_⟩) (by assumption) ?_
      · intro u' hSu
        (try simp only [List.getElem_toArray, List.getElem_cons_zero, List.getElem_cons_succ])
        go_simp
      (try simp only [List.getElem_toArray, List.getElem_cons_zero, List.getElem_cons_succ])
      (try simp only [Act.put, List.setIfInBounds_toArray, List.set_cons_zero, List.set_cons_succ])
      refine wpAnyH_take (i := 16) (oi := _) (v := (.pointer (some ⟨g, 0, none⟩))) rfl (by kernel_rfl) (by kernel_rfl) (by kernel_rfl) (fun _ _ _ h => h) (Or.inl ⟨by rfl, ?_⟩) (by assumption) ?_
      · intro u' hSu
        (try simp only [List.getElem_toArray, List.getElem_cons_zero, List.getElem_cons_succ])
        go_simp
      (try simp only [List.getElem_toArray, List.getElem_cons_zero, List.getElem_cons_succ])
      (try simp only [Act.put, List.setIfInBounds_toArray, List.set_cons_zero, List.set_cons_succ])
      refine wpAnyH_ready (rs := [3]) (by kernel_rfl) (by simp) (AllReadyH.cons rfl ?_ (AllReadyH.nil))
      · intro K' hK'
        (try simp only [List.getElem_toArray, List.getElem_cons_zero, List.getElem_cons_succ])
        go_simp
        refine (HIX1.out u0 HK.out.2.2.2).mono ?_
        rintro e u1 ⟨rfl, hw⟩
        obtain rfl := hw.symm
        refine hK'.out _ _ hSd (fun hSe => ?_)
        clear hK' K' hSd
        (try simp only [List.getElem_toArray, List.getElem_cons_zero, List.getElem_cons_succ])
        (try simp only [Act.put, List.setIfInBounds_toArray, List.set_cons_zero, List.set_cons_succ])
        refine wpAnyH_ready (rs := [17]) (by kernel_rfl) (by simp) (AllReadyH.cons rfl ?_ (AllReadyH.nil))
        · intro K' hK'
          (try simp only [List.getElem_toArray, List.getElem_cons_zero, List.getElem_cons_succ])
          go_simp
          refine (HNX.out _ _ _ _ HK.out.1 HK.out.2.1 HK.out.2.2.1).mono ?_
          rintro e u2 ⟨rfl, s6, a1, a2, a3, a4⟩
          have K6 := hid (show RBx u2 g s6 (.slice (some ⟨gx, ox, none⟩) nv c) (.slice (some ⟨gy, 0, none⟩) Ls.length cb) (.slice cc Rs.length cz) ∧ s6.length ≤ 20000 ∧ Rst ((valsL (vOf Vs) P D P.length).drop (i + 1) ++ ts) s6 ∧ ByS w g u2 from ⟨a1, a2, a3, HK.out.2.2.2.trans a4⟩)
          have hne : w.heap.size ≠ g := by have := Hg.out; omega
          have A6 : Hid (RowI u2 w.heap.size (partD D i)) := (a4.block _ HA.out.lt hne).trans HA.out
          have X6 := hid (HVC.out _ _ K6.out.1 K6.out.2.1 K6.out.2.2.2)
          clear a1 a2 a3 a4 hne HK HA X0
          refine hK'.out _ _ ⟨K6.out.1.cells.2.1, X6.out.1⟩ (fun hSf => ?_)
          clear hK' K' hSe
          (try simp only [List.getElem_toArray, List.getElem_cons_zero, List.getElem_cons_succ])
          (try simp only [Act.put, List.setIfInBounds_toArray, List.set_cons_zero, List.set_cons_succ])
          refine wpAnyH_ready (rs := [18]) (by kernel_rfl) (by simp) (AllReadyH.cons rfl ?_ (AllReadyH.nil))
          · intro K' hK'
            (try simp only [List.getElem_toArray, List.getElem_cons_zero, List.getElem_cons_succ])
            go_simp
            refine (HKN.out _ X6.out.2).mono ?_
            rintro e u3 ⟨rfl, hw⟩
            obtain rfl := hw.symm
            refine hK'.out _ _ hSf (fun hSg => ?_)
            clear hK' K' hSf
            have q0 := A6.out.cell i (by rw [HPLN.out]; exact hlt)
            have q1 := A6.out.fz i
            generalize (partD D i)[i]'(by rw [HPLN.out]; exact hlt) = zz at *
            (try simp only [List.getElem_toArray, List.getElem_cons_zero, List.getElem_cons_succ])
            (try simp only [Act.put, List.setIfInBounds_toArray, List.set_cons_zero, List.set_cons_succ])
            refine wpAnyH_take (i := 19) (oi := _) (v := (.pointer (some ⟨w.heap.size, i, none⟩))) rfl (by kernel_rfl) (by kernel_rfl) (by kernel_rfl) (fun _ _ _ h => h) (Or.inl ⟨by rfl, ?_⟩) (by assumption) ?_
            · intro u' hSu
              (try simp only [List.getElem_toArray, List.getElem_cons_zero, List.getElem_cons_succ])
              go_simp
            (try simp only [List.getElem_toArray, List.getElem_cons_zero, List.getElem_cons_succ])
            (try simp only [Act.put, List.setIfInBounds_toArray, List.set_cons_zero, List.set_cons_succ])
            refine wpAnyH_ready (rs := [20]) (by kernel_rfl) (by simp) (AllReadyH.cons rfl ?_ (AllReadyH.nil))
            · intro K' hK'
              (try simp only [List.getElem_toArray, List.getElem_cons_zero, List.getElem_cons_succ])
              go_simp
              have A7 := hid (A6.out.set i di)
              have hgn : g ≠ w.heap.size := by have := Hg.out; omega
              have K7 := hid (show RBx (u2.setCell ⟨w.heap.size, i, none⟩ (.int .i64 (di : Int))) g s6 (.slice (some ⟨gx, ox, none⟩) nv c) (.slice (some ⟨gy, 0, none⟩) Ls.length cb) (.slice cc Rs.length cz) ∧ s6.length ≤ 20000 ∧ Rst ((valsL (vOf Vs) P D P.length).drop (i + 1) ++ ts) s6 ∧ ByS w g (u2.setCell ⟨w.heap.size, i, none⟩ (.int .i64 (di : Int))) from ⟨K6.out.1.far hgn i _, K6.out.2.1, K6.out.2.2.1, K6.out.2.2.2.put w.heap.size i _ (Nat.le_refl _)⟩)
              have X7 := hid (HVC.out _ _ K7.out.1 K7.out.2.1 K7.out.2.2.2)
              replace A7 : Hid (RowI (u2.setCell ⟨w.heap.size, i, none⟩ (.int .i64 (di : Int))) w.heap.size (partD D (i + 1))) := by
                have := A7.out
                rwa [HPS.out] at this
              refine hK'.out _ _ ⟨K7.out.1.cells.2.1, X7.out.1⟩ (fun hSh => ?_)
              clear hK' K' hSg q0 q1 K6 A6 X6 X7 hgn
              try simp only [List.getElem_toArray, List.getElem_cons_zero, List.getElem_cons_succ]
              try simp only [Act.put, List.setIfInBounds_toArray, List.set_cons_zero, List.set_cons_succ]
              refine wpAnyH_done (by kernel_rfl) ?_ _
              clear hSh
              go_wp2
              go_roundw
              case rel => exact ⟨i + 1, s6, by omega, by go_num, A7, K7⟩
              case measure => simp [intOf]; omega
    · obtain rfl : i = P.length := by omega
      have HK1 := HK.out.2.2.1
      have e1 : (valsL (vOf Vs) P D P.length).drop P.length = [] := List.drop_eq_nil_of_le (by simp [valsL])
      rw [e1] at HK1
      have ha := HA.out
      rw [← hDl, partD_all] at ha
      have HAF := hid ha
      have HD5 := hid (HD.out.by HK.out.2.2.2 HK.out.1 HK.out.2.1)
      have K5 := hid (show RBx wr g s' (.slice a nv c) (.slice (some ⟨gy, 0, none⟩) Ls.length cb) (.slice cc Rs.length cz) ∧ s'.length ≤ 20000 ∧ Rst ts s' ∧ ByS w g wr from ⟨HK.out.1, HK.out.2.1, HK1, HK.out.2.2.2⟩)
      obtain ⟨-, n1, n2, n3⟩ := HK.out.1.cells
      clear HK1 e1 ha HA HK
      go_wp2_with fail
      refine (HSIZ.out _ _ HD5.out).mono ?_
      rintro e w5 ⟨G, rfl, hG, hR, hb⟩
      have HR5 := hid hR
      have HA5 := hid (HAF.out.below hb HAF.out.lt)
      have K6 := hid (show RBx w5 g s' (.slice a nv c) (.slice (some ⟨gy, 0, none⟩) Ls.length cb) (.slice cc Rs.length cz) ∧ s'.length ≤ 20000 ∧ Rst ts s' ∧ ByS w g w5 from ⟨K5.out.1.below hb, K5.out.2.1, K5.out.2.2.1, K5.out.2.2.2.step hb⟩)
      clear hG hR hb K5 HAF HD5 n1 n2 n3
      go_wp2_with fail
      refine (HIN.out _ _ _ HR5.out (HPI.out _ K6.out.2.2.2) HA5.out).mono ?_
      rintro e w6 ⟨rfl, hb⟩
      have K7 := hid (show RBx w6 g s' (.slice a nv c) (.slice (some ⟨gy, 0, none⟩) Ls.length cb) (.slice cc Rs.length cz) ∧ s'.length ≤ 20000 ∧ Rst ts s' ∧ ByS w g w6 from ⟨K6.out.1.below hb, K6.out.2.1, K6.out.2.2.1, K6.out.2.2.2.step hb⟩)
      clear hb K6
      go_wp2
      go_ret
      have k7 := K7.out
      rw [← HNV.out] at k7
      exact ⟨s', rfl, k7⟩
end Go.Proofs.YtojidhnkpeiimaaGreatDoor

/- The reader: rows under way; slices.Concat of rows; whether one is lacking. -/
namespace Go.Proofs.YtojidhnkpeiimaaGreatDoor
open Go.RowKit Go.Shelf Go.Lib
theorem owns_set {w : World} {B G n c : Nat} {e : TypeId} {xs : List Value} (h : w.ownsRow B e 1 (.slice (some ⟨G, 0, none⟩) n c) n xs) (j : Nat) (u : Value) : (w.setCell ⟨G, j, none⟩ u).ownsRow B e 1 (.slice (some ⟨G, 0, none⟩) n c) n (xs.set j u) := by
  refine ⟨by rw [List.length_set]; exact h.1, ?_⟩
  rcases h.2 with ⟨h1, _⟩ | ⟨g, cap, cur, h1, h2, h3, h4, h5, h6, h7⟩
  · cases h1
  · injection h1 with e1 e2 e3
    injection e1 with e4
    injection e4 with e5 _ _
    subst e5
    subst e3
    refine .inr ⟨G, c, cur.setIfInBounds j u, rfl, h2, heap_setCell_same w G j _ _ u h3, h4, h5, by simpa using h6, ?_⟩
    rw [Array.toList_setIfInBounds, ← h7, List.take_set]
theorem RD.setL {W : World} {g v gy cy : Nat} {s : List UInt8} {x z q : Value} {Vs : List PV} {Ls : List PL} {Rs : List PR} {l : List Int} (h : RD W g s x (.slice (some ⟨gy, 0, none⟩) Ls.length cy) z Vs Ls Rs) (hq : RwI W g q l) :
    RD (W.setCell ⟨gy, v, none⟩ q) g s x (.slice (some ⟨gy, 0, none⟩) Ls.length cy) z Vs (Ls.set v (q, l)) Rs ∧ Below g W (W.setCell ⟨gy, v, none⟩ q) ∧ W.frozen? ⟨gy, v, none⟩ = false := by
  obtain ⟨c0, f0, hb⟩ := owns_typed h.ls.1 gy rfl
  have hf0 : f0 = (0, 0) := by
    rcases h.ls.1.2 with ⟨h1, _⟩ | ⟨g', cap, cur, h1, _, h3, _⟩
    · cases h1
    · injection h1 with e1 _ _
      injection e1 with e4
      injection e4 with e5 _ _
      subst e5
      rw [h3] at hb
      injection hb with e6
      injection e6 with _ _ e7
      exact e7.symm
  subst hf0
  have ks : ∀ tt : TypeId, tt ≠ 22 → KeepT tt W (W.setCell ⟨gy, v, none⟩ q) := fun tt hne => KeepT.set hb hne v q
  have hlow : g ≤ gy := owns_from h.ls.1 gy rfl
  refine ⟨⟨ks 81 (by decide) _ _ _ h.box, h.vs.keep (ks _ (by decide)) (ks _ (by decide)), ⟨?_, fun p hp => ?_⟩, h.rs.keep (ks _ (by decide)) (ks _ (by decide)), h.short⟩, (Below.refl g W).setCell (p := ⟨gy, v, none⟩) hlow q, frozen_of_row W gy v _ _ hb⟩
  · rw [List.length_set, List.map_set]
    exact owns_set h.ls.1 v q
  · rcases List.mem_or_eq_of_mem_set hp with hp | hp
    · exact owns_keep (h.ls.2 p hp) (ks _ (by decide))
    · subst hp
      exact owns_keep hq (ks _ (by decide))
theorem OwR.set {W : World} {B v G c : Nat} {q : Value} {Rs : List PR} {l : List Fr} (h : OwR W B (.slice (some ⟨G, 0, none⟩) Rs.length c) Rs) (hq : RwF W B q l) :
    OwR (W.setCell ⟨G, v, none⟩ q) B (.slice (some ⟨G, 0, none⟩) Rs.length c) (Rs.set v (q, l)) ∧ W.frozen? ⟨G, v, none⟩ = false ∧ B ≤ G ∧ (∀ tt : TypeId, tt ≠ 51 → KeepT tt W (W.setCell ⟨G, v, none⟩ q)) := by
  obtain ⟨c0, f0, hb⟩ := owns_typed h.1 G rfl
  have hf0 : f0 = (0, 0) := by
    rcases h.1.2 with ⟨h1, _⟩ | ⟨g', cap, cur, h1, _, h3, _⟩
    · cases h1
    · injection h1 with e1 _ _
      injection e1 with e4
      injection e4 with e5 _ _
      subst e5
      rw [h3] at hb
      injection hb with e6
      injection e6 with _ _ e7
      exact e7.symm
  subst hf0
  have ks : ∀ tt : TypeId, tt ≠ 51 → KeepT tt W (W.setCell ⟨G, v, none⟩ q) := fun tt hne => KeepT.set hb hne v q
  refine ⟨⟨?_, fun p hp => ?_⟩, frozen_of_row W G v _ _ hb, owns_from h.1 G rfl, ks⟩
  · rw [List.length_set, List.map_set]
    exact owns_set h.1 v q
  · rcases List.mem_or_eq_of_mem_set hp with hp | hp
    · exact owns_keep (h.2 p hp) (ks _ (by decide))
    · subst hp
      exact owns_keep hq (ks _ (by decide))
theorem RD.setR {W : World} {g v gz cz : Nat} {s : List UInt8} {x y q : Value} {Vs : List PV} {Ls : List PL} {Rs : List PR} {l : List Fr} (h : RD W g s x y (.slice (some ⟨gz, 0, none⟩) Rs.length cz) Vs Ls Rs) (hq : RwF W g q l) :
    RD (W.setCell ⟨gz, v, none⟩ q) g s x y (.slice (some ⟨gz, 0, none⟩) Rs.length cz) Vs Ls (Rs.set v (q, l)) ∧ Below g W (W.setCell ⟨gz, v, none⟩ q) ∧ W.frozen? ⟨gz, v, none⟩ = false := by
  obtain ⟨h1, h2, h3, ks⟩ := h.rs.set (v := v) hq
  exact ⟨⟨ks 81 (by decide) _ _ _ h.box, h.vs.keep (ks _ (by decide)) (ks _ (by decide)), h.ls.keep (ks _ (by decide)) (ks _ (by decide)), h1, h.short⟩, (Below.refl g W).setCell (p := ⟨gz, v, none⟩) h3 q, h2⟩
set_option maxRecDepth 100000 in
set_option maxHeartbeats 400000 in
theorem slGrowFr_nil (n : Nat) (hn : n ≤ 100000) (w : World) :
    Calls Tryz.prog 166 #[.slice none 0 0, .int .i64 (n : Nat)] w fun e w' => ∃ v, e = .returned v ∧ RwF w' w.heap.size v [] ∧ Below w.heap.size w w' := by
  obtain ⟨i0, hi0, hz0, hz1, hz2⟩ := info_parts Tryz.infoFrac
  by_cases h : n = 0
  · subst h
    go_enter Tryz.func166, Tryz.ntmps166
    go_wp2
    go_ret
    exact ⟨_, rfl, ⟨rfl, .inl ⟨rfl, rfl⟩⟩, Below.refl _ _⟩
  · have hold : (Builtin.firstCells i0.size 0 (.slice none 0 0)).run Tryz.prog w.drew = .ok ([] : List Value).toArray w.drew := run_firstCells_none w.drew i0.size 0 0 0
    have hrz : ∀ ty, (Builtin.append_ #[51, 3] ty #[.slice none 0 0, .int .i64 (n : Int)]).run Tryz.prog w = .ok (.slice (some ⟨w.heap.size, 0, none⟩) (0 + n) (grownCap w (0 + n) 0 58)) (w.drew.alloc (.cells (([] : List Value).toArray ++ Builtin.zeroCells (Value.agg #[.bool false, .string ⟨#[]⟩, .string ⟨#[]⟩]).cells n ++ Builtin.zeroCells (Value.agg #[.bool false, .string ⟨#[]⟩, .string ⟨#[]⟩]).cells (grownCap w (0 + n) 0 58 - (0 + n))) 58)) := fun ty =>
      Lib.run_append_grow_zeros w 51 3 ty 58 i0 (.agg #[.bool false, .string ⟨#[]⟩, .string ⟨#[]⟩]) .i64 .i64 Tryz.underlying51 Tryz.underlying3 hi0 hz0 none 0 0 [] hold n (by omega) (by omega) (by omega) (by omega) (by rw [hz2]; omega) (growslice_fits (by omega) (by rw [hz2]; omega))
    have hGn : 0 + n ≤ grownCap w (0 + n) 0 58 := grownCap_ge w _ _ _
    have hGm := grownCap_le_maxLen w (0 + n) 0 58 (by unfold maxLen; omega)
    rw [Nat.zero_add] at hrz hGn hGm
    obtain ⟨G, hG⟩ : ∃ G, G = grownCap w n 0 58 := ⟨_, rfl⟩
    rw [← hG] at hrz hGn hGm
    have HGM := hid hGm
    have hG63 : G ≤ 9223372036854775807 := by unfold maxLen at hGm; omega
    have hn0 : (0 : Int) < (n : Int) := by omega
    clear hold hG hGm
    go_enter Tryz.func166, Tryz.ntmps166
    go_wp2_with (at_builtin; refine Lib.wpList_append_run _ rfl _ _ _ _ rfl _ _ rfl rfl _ _ (hrz _) ?_)
    go_ret
    refine ⟨_, rfl, ⟨rfl, .inr ⟨w.heap.size, G, _, rfl, Nat.le_refl _, heap_alloc_new w.drew _, Nat.zero_le _, HGM.out, ?_, by simp [frC]⟩⟩, ((Below.refl _ w).drew).alloc (Nat.le_refl _) _⟩
    simp [size_zeroCells]
    omega
def catF (L : List (List Fr)) (i : Nat) : List Fr := (L.take i).flatten
theorem catF_succ {L : List (List Fr)} {i : Nat} (h : i < L.length) : catF L (i + 1) = catF L i ++ L[i] := by rw [catF, List.take_succ_eq_append_getElem h, List.flatten_append]; simp [catF]
theorem catF_len {L : List (List Fr)} (h : ∀ l ∈ L, l.length ≤ 4) (i : Nat) : (catF L i).length ≤ 4 * i := by
  have key : ∀ M : List (List Fr), (∀ l ∈ M, l.length ≤ 4) → M.flatten.length ≤ 4 * M.length := by
    intro M
    induction M with
    | nil => intro _; exact Nat.le_refl _
    | cons l M ih =>
      intro hM
      have h1 := hM l List.mem_cons_self
      have h2 := ih fun x hx => hM x (List.mem_cons_of_mem _ hx)
      rw [List.flatten_cons, List.length_append, List.length_cons]
      omega
  have h1 := key (L.take i) fun l hl => h l (List.mem_of_mem_take hl)
  have h2 : (L.take i).length ≤ i := by rw [List.length_take]; exact Nat.min_le_left _ _
  rw [catF]
  omega
set_option maxRecDepth 100000 in
set_option maxHeartbeats 1000000 in
theorem slConcatFr_any (R n c : Nat) (L : List (List Fr)) (w : World) (h : FsS w (some ⟨R, 0, none⟩) L) (hn : L.length = n) (hc : n ≤ 100) (h1 : 1 ≤ n) (hl : ∀ l ∈ L, 1 ≤ l.length ∧ l.length ≤ 4) :
    Calls Tryz.prog 133 #[.slice (some ⟨R, 0, none⟩) n c] w fun e w' => ∃ v, e = .returned v ∧ RwF w' w.heap.size v L.flatten ∧ Below w.heap.size w w' := by
  have hR : R < w.heap.size := by
    obtain ⟨g, o, b, c, e, hg, _⟩ := h 0 (by omega)
    cases e
    exact hg
  have HONE : Hid (∀ i, i < n → ∃ (g o c : Nat) (l : List Fr), w.cell? ⟨R, i, none⟩ = some (.slice (some ⟨g, o, none⟩) l.length c) ∧ FrS w (some ⟨g, o, none⟩) l ∧ l.length ≤ 4 ∧ catF L (i + 1) = catF L i ++ l) := fun i hi => by
    have hiL : i < L.length := by omega
    obtain ⟨g, o, b, c, e, hg, hc, hf, _⟩ := h i hiL
    cases e
    have hli := hl L[i] (List.getElem_mem hiL)
    obtain ⟨g2, o2, e2, _⟩ := hf 0 (by omega)
    subst e2
    rw [Nat.zero_add] at hc
    exact ⟨g2, o2, c, L[i], hc, hf, hli.2, catF_succ hiL⟩
  have HFL := hid (catF_len (L := L) fun l hm => (hl l hm).2)
  have hall : L.flatten = catF L n := by rw [catF, ← hn, List.take_length]
  rw [hall]
  have hz : catF L 0 = [] := rfl
  have hRN := hid hn
  clear h hn hl hall
  generalize catF L = F at *
  go_enter Tryz.func133, Tryz.ntmps133
  go_wp2_with fail
  go_loopw [3, 11] (fun sv iv wr => ∃ i : Nat, i ≤ n ∧ iv = .int .i64 i ∧ sv = .int .i64 ((F i).length : Nat) ∧ Hid (Below w.heap.size w wr)) (fun _ iv _ => n - (intOf iv).toNat)
  case atStart => exact ⟨0, by omega, rfl, by rw [hz]; rfl, Below.refl _ _⟩
  case round =>
    obtain ⟨i, hi, rfl, rfl, HW⟩ := hrel
    by_cases hlt : i < n
    · obtain ⟨g, o, c, l, hc, hI, hl, hf⟩ := HONE.out i hlt
      have hcw := (HW.out.cell (p := ⟨R, i, none⟩) hR).trans hc
      have hfl := HFL.out i
      have hw1 : IntKind.i64.wrap (((F i).length : Int) + (l.length : Int)) = ((F i).length : Int) + (l.length : Int) := by rw [IntKind.wrap_i64]; omega
      have HE : Hid (((F (i + 1)).length : Int) = ((F i).length : Int) + (l.length : Int)) := by show _ = _; rw [hf, List.length_append]; exact Int.natCast_add _ _
      have hnn : (0 : Int) ≤ ((F i).length : Int) + (l.length : Int) := by omega
      clear hf hc hI
      go_wp2
      go_roundw
      case rel => exact ⟨i + 1, by omega, by go_num, by rw [HE.out], HW⟩
      case measure => simp [intOf]; omega
    · obtain rfl : i = n := by omega
      have hfl := HFL.out i
      go_wp2_with fail
      refine (slGrowFr_nil (F i).length (by omega) _).mono ?_
      rintro e w1 ⟨v1, rfl, hr1, hb1⟩
      have HB1 := hid (HW.out.trans (hb1.mono HW.out.size))
      have HR := hid (show RwF w1 w.heap.size v1 [] from owns_lower hr1 HW.out.size)
      clear hr1 hb1
      go_wp2_with fail
      go_loopw [6, 27] (fun sv jv wr => ∃ j : Nat, j ≤ i ∧ jv = .int .i64 j ∧ Hid (RwF wr w.heap.size sv (F j)) ∧ Hid (Below w.heap.size w wr)) (fun _ jv _ => i - (intOf jv).toNat)
      case atStart => exact ⟨0, by omega, rfl, by rw [hz]; exact HR, HB1⟩
      case round =>
        obtain ⟨j, hj, rfl, HRR, HWW⟩ := hrel
        by_cases hlt : j < i
        · obtain ⟨g, o, c, l, hc, hI, hl, hf⟩ := HONE.out j hlt
          have hcw := (HWW.out.cell (p := ⟨R, j, none⟩) hR).trans hc
          have hfl := HFL.out j
          have HI := hid (hI.below HWW.out)
          have HE := hid hf
          have HOWN := hid HRR.out.own
          clear hf hc hI
          go_wp2_with (at_builtin; refine wpList_append_frs rfl _ _ rfl w.heap.size _ (F j) l rfl HRR.out g o c rfl HI.out (by omega) HWW.out.size ?_; intro v' w2 hr2 hg2)
          have HR2 := hid hr2
          have HB2 := hid (HWW.out.grown hg2 HWW.out.size HOWN.out)
          clear hr2 hg2
          go_roundw
          case rel => exact ⟨j + 1, by omega, by go_num, by rw [HE.out]; exact HR2, HB2⟩
          case measure => simp [intOf]; omega
        · obtain rfl : j = i := by omega
          go_wp2
          go_ret
          exact ⟨_, rfl, HRR.out, HWW.out⟩
set_option maxRecDepth 100000 in
set_option maxHeartbeats 1000000 in
theorem lacks_no (R n c : Nat) (L : List (List Fr)) (w : World) (h : FsS w (some ⟨R, 0, none⟩) L) (hn : L.length = n) (hc : n ≤ 100) (hl : ∀ l ∈ L, 1 ≤ l.length ∧ l.length ≤ 4) :
    Calls Tryz.prog 131 #[.slice (some ⟨R, 0, none⟩) n c, .func (.func 132) #[] #[]] w fun e w' => e = .returned (.bool false) ∧ w' = w := by
  have HONE : Hid (∀ i, i < n → ∃ (g o c m : Nat), w.cell? ⟨R, i, none⟩ = some (.slice (some ⟨g, o, none⟩) m c)) := fun i hi => by
    have hiL : i < L.length := by omega
    obtain ⟨g, o, b, c, e, hg, hc, hf, _⟩ := h i hiL
    cases e
    obtain ⟨g2, o2, e2, _⟩ := hf 0 (hl L[i] (List.getElem_mem hiL)).1
    subst e2
    rw [Nat.zero_add] at hc
    exact ⟨g2, o2, c, _, hc⟩
  have HF : Hid (∀ (g o c m : Nat) (U : World), Calls Tryz.prog 132 #[.slice (some ⟨g, o, none⟩) m c] U fun e w' => e = .returned (.bool false) ∧ w' = U) := fun g o c m U => by
    have q0 : ∀ (w : World) (a : Option Addr) (n c n' c' : Nat), (binOp .eql 51 (.slice a n c) (.slice none n' c')).run Tryz.prog w = .ok (.bool a.isNone) w := fun w a n c n' c' => Lib.run_eql_slice_nil w _ _ a n c n' c' Tryz.underlying51
    go_enter Tryz.func132, Tryz.ntmps132
    go_wp2
    go_ret
    exact ⟨rfl, rfl⟩
  have HX : Hid (Calls Tryz.prog 165 #[.slice (some ⟨R, 0, none⟩) n c, .func (.func 132) #[] #[]] w fun e w' => e = .returned (.int .i64 (-1)) ∧ w' = w) := by
    clear h hn hl
    show Calls _ _ _ _ _
    go_enter Tryz.func165, Tryz.ntmps165
    go_wp2_with fail
    go_loopw [8] (fun iv wr => ∃ i : Nat, i ≤ n ∧ iv = .int .i64 i ∧ wr = w) (fun iv _ => n - (intOf iv).toNat)
    case atStart => exact ⟨0, by omega, rfl, rfl⟩
    case round =>
      obtain ⟨i, hi, rfl, rfl⟩ := hrel
      by_cases hlt : i < n
      · obtain ⟨g, o, c, m, hc⟩ := HONE.out i hlt
        go_wp2_with fail
        refine (HF.out g o c m _).mono ?_
        rintro e w2 ⟨rfl, hw⟩
        obtain rfl := hw.symm
        go_wp2
        go_roundw
        case rel => exact ⟨i + 1, by omega, by go_num, trivial⟩
        case measure => simp [intOf]; omega
      · obtain rfl : i = n := by omega
        go_wp2
        go_ret
        exact ⟨rfl, rfl⟩
  clear h hn hl HONE HF
  go_enter Tryz.func131, Tryz.ntmps131
  go_wp2_with fail
  refine HX.out.mono ?_
  rintro e w2 ⟨rfl, hw⟩
  obtain rfl := hw.symm
  go_wp2
  go_ret
  exact ⟨rfl, rfl⟩
end Go.Proofs.YtojidhnkpeiimaaGreatDoor

/- The reader: rising of a list that rises already. -/
namespace Go.Proofs.YtojidhnkpeiimaaGreatDoor
open Go.RowKit Go.Shelf Go.Lib Go.Sort
set_option maxRecDepth 100000 in
set_option maxHeartbeats 400000 in
theorem rising_up (g cap : Nat) (l : List Int) (w : World) (hh : Holds (Value.int .i64) w g 0 l.toArray) (hg : g < w.heap.size) (hl : l.length ≤ 100000) (hs : l.Pairwise (· ≤ ·)) :
    Calls Tryz.prog 127 #[.slice (some ⟨g, 0, none⟩) l.length cap] w fun e w' => e = .returned (.slice (some ⟨g, 0, none⟩) l.length cap) ∧ Below w.heap.size w w' := by
  have HSORT := hid (Tryz.slices_Sort_int g 0 cap l w hh hg (by omega))
  have he : (l.mergeSort fun x y => decide (x ≤ y)) = l := List.mergeSort_of_pairwise (hs.imp fun h => by simpa using h)
  rw [he] at HSORT
  have HH := hid hh
  clear hh hs he
  go_enter Tryz.func127, Tryz.ntmps127
  go_wp2_with fail
  refine HSORT.out.mono ?_
  rintro e w2 ⟨rfl, q, os, rfl⟩
  have hp : putRow (Value.int .i64) (Sort.ahead w q) g 0 l.toArray = Sort.ahead w q := putRow_self _ _ _ _ _ HH.out
  rw [hp]
  have hb : Below w.heap.size w (grow (Sort.ahead w q) os) := by
    refine ⟨rfl, rfl, rfl, ?_, fun k hk => ?_⟩
    · simp [grow, Sort.ahead]
    · show (w.heap ++ os)[k]? = _
      rw [Array.getElem?_append_left hk]
  have HB := hid hb
  clear hp hb
  generalize grow (Sort.ahead w q) os = w2 at *
  go_wp2
  go_ret
  exact ⟨rfl, HB.out⟩
theorem RwI.holds {w : World} {B g n c : Nat} {l : List Int} (h : RwI w B (.slice (some ⟨g, 0, none⟩) n c) l) : Holds (Value.int .i64) w g 0 l.toArray ∧ g < w.heap.size ∧ n = l.length := by
  rcases h.2 with ⟨h1, _⟩ | ⟨g', cap, cur, h1, h2, h3, h4, h5, h6, h7⟩
  · cases h1
  · injection h1 with e1 e2 e3
    injection e1 with e4
    injection e4 with e5 _ _
    subst e5
    refine ⟨holds_row h3 fun j hj => ?_, (Array.getElem?_eq_some_iff.1 h3).1, e2⟩
    have e6 : cur[j]? = (cur.toList.take (l.length * 1))[j]? := by rw [List.getElem?_take, if_pos (by omega), Array.getElem?_toList]
    rw [e6, h7, List.getElem?_map, List.getElem?_eq_getElem hj]
    rfl
end Go.Proofs.YtojidhnkpeiimaaGreatDoor
