/- The reader: a row of numbers. -/
import Derived.Test.YtojidhnkpeiimaaGreatDoorBakRToFracP
import Derived.OrdersHeld
import Derived.Deep.RegionHeld
import Derived.Test.YtojidhnkpeiimaaGreatDoorTextDToNumQ
namespace Go.Proofs.YtojidhnkpeiimaaGreatDoor
open Go.RowKit Go.Shelf Go.Lib
theorem ByS.grown {W U U' : World} {g : Nat} {row : Option Nat} (h : ByS W g U) (hg : U.grownBy U' row) (hr : ∀ k, row = some k → W.heap.size ≤ k) : ByS W g U' :=
  ⟨hg.os.trans h.os, hg.tape.trans h.tape, hg.output.trans h.output, Nat.le_trans h.size hg.size, fun k hk hn => (hg.block k (Nat.lt_of_lt_of_le hk h.size) fun e => by have := hr k e.symm; omega).trans (h.block k hk hn)⟩
theorem RBx.grown {U U' : World} {g B : Nat} {s : List UInt8} {x y z : Value} {row : Option Nat} (h : RBx U g s x y z) (hg : U.grownBy U' row) (hr : ∀ k, row = some k → B ≤ k) (hB : g < B) : RBx U' g s x y z :=
  (hg.block g h.lt fun e => by have := hr g e.symm; omega).trans h
theorem cell_lt {w : World} {a : Addr} {v : Value} (h : w.cell? a = some v) : a.block < w.heap.size := by
  rcases Nat.lt_or_ge a.block w.heap.size with h1 | h1
  · exact h1
  · simp [World.cell?, Array.getElem?_eq_none h1] at h
structure NuOK (f : Fr) : Prop where
  fp : fpar (ftF f) = (0, frQ f)
  sz : (ftF f).size ≤ 8
  dig : ∃ c r, bl (ftF f) = c :: r ∧ figN c.toNat = true
  low : (lowF f).2.1.size + (lowF f).2.2.size ≤ 3
theorem frac_first {q : Rat} (h : sgn q = false) : ∃ c r, bl (ftxt q) = c :: r ∧ figN c.toNat = true := by
  have key : ∀ (m : Nat) (r : List UInt8), ∃ c r', decDigits m ++ r = c :: r' ∧ figN c.toNat = true := fun m r => by
    have hall := List.all_eq_true.1 (dec_all m)
    cases hl : decDigits m with
    | nil => exact absurd hl (dec_ne m)
    | cons c l =>
      rw [hl] at hall
      exact ⟨c, l ++ r, rfl, dig_fig (hall c List.mem_cons_self)⟩
  by_cases h1 : q.den = 1
  · obtain ⟨c, r, e1, e2⟩ := key q.num.natAbs []
    refine ⟨c, r, ?_, e2⟩
    rw [ftxt_one h1, h, ← e1]
    simp [bl, dtx]
  · obtain ⟨c, r, e1, e2⟩ := key q.num.natAbs (47 :: decDigits q.den)
    refine ⟨c, r, ?_, e2⟩
    rw [ftxt_two h1, h, ← e1, if_neg (by decide)]
    show (dtx _ ++ (⟨#[47]⟩ ++ dtx _)).data.toList = _
    rw [cat_data, cat_data]
    rfl
theorem nu_ok {f : Fr} (h : f.2.1.size + f.2.2.size ≤ 2) (hn : ¬ frQ f < 0) : NuOK f := by
  have h7 := ftF_7 h
  have hq : qw (frQ f) ≤ f.2.1.size + f.2.2.size + 1 := qw_val f.1 f.2.1 f.2.2
  have ho := own_size (frQ f)
  have hl : (frQ f).num.natAbs < 256 ^ 3 ∧ (frQ f).den < 256 ^ 3 := by
    have a1 := N_lt (nu (frQ f))
    have a2 := N_lt (de (frQ f))
    rw [show nu (frQ f) = B (frQ f).num.natAbs from rfl, N_B] at a1
    rw [show de (frQ f) = B (frQ f).den from rfl, N_B] at a2
    have b1 : (B (frQ f).num.natAbs).size ≤ 3 := by show (nu (frQ f)).size ≤ 3; omega
    have b2 : (B (frQ f).den).size ≤ 3 := by show (de (frQ f)).size ≤ 3; omega
    exact ⟨Nat.lt_of_lt_of_le a1 (Nat.pow_le_pow_right (by decide) b1), Nat.lt_of_lt_of_le a2 (Nat.pow_le_pow_right (by decide) b2)⟩
  refine ⟨fpar_back _ (dec_160 _ 3 hl.1 (by decide)) (dec_160 _ 3 hl.2 (by decide)), h7, frac_first (sgn_no hn), ?_⟩
  have := own_size (frQ f)
  show (nu (frQ f)).size + (de (frQ f)).size ≤ 3
  omega
theorem fw_low {l : List Fr} (h : ∀ f ∈ l, NuOK f) : fw (l.map lowF) ≤ 5 * l.length := by
  induction l with
  | nil => exact Nat.le_refl _
  | cons f l ih =>
    have h1 := (h f List.mem_cons_self).low
    have h2 := ih fun x hx => h x (List.mem_cons_of_mem _ hx)
    rw [List.map_cons, fw, List.length_cons]
    omega
set_option maxRecDepth 100000 in
set_option maxHeartbeats 400000 in
theorem isNumber_yes (s : ByteArray) (w : World) (h : ∃ c r, bl s = c :: r ∧ figN c.toNat = true) :
    Calls Tryz.prog 124 #[.string s] w fun e w' => e = .returned (.bool true) ∧ w' = w := by
  obtain ⟨c, r, h1, h2⟩ := h
  have hsz : 0 < s.size := by rw [← bl_length, h1]; simp
  have hne : s.toList.isEmpty = false := by
    rw [toList_data, show s.data.toList = bl s from rfl, h1]
    rfl
  have h0 : s[0] = c := by
    have e : (bl s)[0]? = some c := by rw [h1]; rfl
    have e2 : (bl s)[0]? = some s[0] := by
      rw [List.getElem?_eq_getElem (by rw [bl_length]; exact hsz)]
      rfl
    rw [e2] at e
    exact Option.some.inj e
  have HD : Hid (∀ U : World, Calls Tryz.prog 95 #[.int .u8 (c.toNat : Nat)] U fun e w' => e = .returned (.bool true) ∧ w' = U) := fun U => by
    have := nDigit_any c.toNat U
    rwa [h2] at this
  clear h1 h2
  go_enter Tryz.func124, Tryz.ntmps124
  go_wp2_with fail
  refine (HD.out _).mono ?_
  rintro e w2 ⟨rfl, hw⟩
  obtain rfl := hw.symm
  go_wp2
  go_ret
  exact ⟨rfl, rfl⟩
set_option maxRecDepth 100000 in
set_option maxHeartbeats 2000000 in
theorem row_tok {ts : List ByteArray} (g v : Nat) (m : Int) (s : List UInt8) (x y z : Value) (Vs : List PV) (Ls : List PL) (Rs : List PR) (l : List Fr) (w : World) (h : RD w g s x y z Vs Ls Rs) (hv : v < Vs.length) (hl : l.length = Vs[v].2.2.length) (h4 : l.length ≤ 4) (h1 : 1 ≤ l.length)
    (hr : Rst (l.map ftF ++ tSemi :: ts) s) (hnu : ∀ f ∈ l, NuOK f) (hrow : rowB l = true) (hm : w.cell? ⟨0, 0, none⟩ = some (.int .i64 m)) (hmg : 0 ≠ g) :
    Calls Tryz.prog 88 #[.pointer (some ⟨g, 0, none⟩), .int .i64 v] w fun e w' => ∃ q s', e = .returned q ∧ RwF w' w.heap.size q (l.map lowF) ∧ RBx w' g s' x y z ∧ s'.length ≤ 20000 ∧ Rst ts s' ∧ ByS w g w' := by
  obtain ⟨i0, hi0, hz0, hz1, hz2⟩ := info_parts Tryz.infoFrac
  have hg := h.box.lt
  obtain ⟨-, c1, -, -⟩ := h.box.cells
  obtain ⟨a, c, rfl, hvs⟩ := h.vs.vars
  have hlv : (vOf Vs).length = Vs.length := by simp [vOf]
  obtain ⟨gx, ox, bx, cx, rfl, hgx, -, k1, -, -⟩ := hvs v (by omega)
  have e2 : (vOf Vs)[v].2.length = l.length := by rw [hl]; simp [vOf]
  rw [e2] at k1
  have HMM := hid (fun (U : World) (hU : ByS w g U) => (hU.cell (p := ⟨0, 0, none⟩) (cell_lt hm) hmg).trans hm)
  have HL := hid (fun (U : World) (s' : List UInt8) (t : ByteArray) (ts' : List ByteArray) (hU : RBx U g s' (.slice (some ⟨gx, ox, none⟩) (vOf Vs).length c) y z) (hs : s'.length ≤ 20000) (hr : Rst (t :: ts') s') => look_tok g s' _ y z U hU hs hr)
  have HN := hid (fun (U : World) (s' : List UInt8) (t : ByteArray) (ts' : List ByteArray) (hU : RBx U g s' (.slice (some ⟨gx, ox, none⟩) (vOf Vs).length c) y z) (hs : s'.length ≤ 20000) (hr : Rst (t :: ts') s') => next_tok g s' _ y z U hU hs hr)
  have HS := hid (fun (U : World) (s' : List UInt8) (t : ByteArray) (ts' : List ByteArray) (hU : RBx U g s' (.slice (some ⟨gx, ox, none⟩) (vOf Vs).length c) y z) (hs : s'.length ≤ 20000) (hr : Rst (t :: ts') s') => sign_tok g s' _ y z U hU hs hr)
  have HMU := hid (fun (t : ByteArray) (U : World) => must_yes (some ⟨g, 0, none⟩) t U)
  have HGU := hid (fun (k : Int) (U : World) => giveUpIf_no (some ⟨g, 0, none⟩) k U)
  have HIS : Hid (∀ (d : Option Addr) (cd : Nat) (U : World), FrS U d (l.map lowF) → Calls Tryz.prog 48 #[.slice d l.length cd] U fun e w' => e = .returned (.bool true) ∧ Below U.heap.size U w') := fun d cd U hU => by
    have hw := fw_low hnu
    have := isRow_any d cd (l.map lowF) U hU (by omega) (by rw [List.length_map]; omega)
    rw [rowB_low, hrow, List.length_map] at this
    exact this
  have hbox := h.box
  have hshort := h.short
  have K0 := hid (show RBx w g s _ y z ∧ s.length ≤ 20000 ∧ Rst (l.map ftF ++ tSemi :: ts) s ∧ ByS w g w from ⟨hbox, hshort, hr, ByS.refl _ _⟩)
  have HNU := hid hnu
  have Hg := hid hg
  have hvn : v < (vOf Vs).length := by omega
  clear h hvs hlv e2 hl hrow hm hmg hbox hshort hr hnu hg
  generalize (vOf Vs).length = nv at *
  go_enter Tryz.func88, Tryz.ntmps88
  go_upto_region 2 with fail
  go_wp2_with (first
    | (at_make; refine wpList_make_own _ rfl _ _ 51 rfl w.heap.size 58 i0 (.agg #[.bool false, .string ⟨#[]⟩, .string ⟨#[]⟩]) 3 Tryz.underlying51 hi0 hz0 hz1 .i64 .i64 _ l.length rfl rfl (by go_num) (by rw [hz2]; omega) (by unfold maxLen; omega) (Nat.le_refl _) ?_; intro w2 hown2 hgrow2))
  have HB2 : Hid (ByS w g w2) := (ByS.refl w g).grown hgrow2 (fun k e => by cases e)
  have HQ : Hid (RwF w2 w.heap.size (.slice (some ⟨w.heap.size, 0, none⟩) 0 l.length) []) := hown2
  have HR : Hid (RBx w2 g s (.slice (some ⟨gx, ox, none⟩) nv c) y z) := K0.out.1.grown hgrow2 (fun k e => by cases e) Hg.out
  clear c1 k1 hvn hown2 hgrow2
  go_wp2_with fail
  go_loopw [6] (fun qv wr => ∃ (i : Nat) (s' : List UInt8), i ≤ l.length ∧ Hid (RwF wr w.heap.size qv ((l.map lowF).take i)) ∧ Hid (RBx wr g s' (.slice (some ⟨gx, ox, none⟩) nv c) y z ∧ s'.length ≤ 20000 ∧ Rst ((l.drop i).map ftF ++ tSemi :: ts) s' ∧ ByS w g wr)) (fun qv _ => l.length - lenOf qv)
  case atStart => exact ⟨0, s, Nat.zero_le _, by simpa using HQ, HR.out, K0.out.2.1, by simpa using K0.out.2.2.1, HB2.out⟩
  case round =>
    obtain ⟨i, s', hi, HQI, HK⟩ := hrel
    clear HQ HR HB2 K0
    by_cases hlt : i < l.length
    · have hdr : l.drop i = l[i] :: l.drop (i + 1) := (List.drop_eq_getElem_cons hlt)
      have hok := HNU.out l[i] (List.getElem_mem hlt)
      have HK1 : Hid (Rst (ftF l[i] :: ((l.drop (i + 1)).map ftF ++ tSemi :: ts)) s') := by
        have := HK.out.2.2.1
        rw [hdr] at this
        exact this
      have HTK : Hid ((l.map lowF).take (i + 1) = (l.map lowF).take i ++ [lowF l[i]]) := by
        show _ = _
        rw [List.take_succ_eq_append_getElem (by rw [List.length_map]; exact hlt), List.getElem_map]
      have hne : ((ftF l[i]).toList == [59]) = false := by
        obtain ⟨c, r, e1, e2⟩ := hok.dig
        rw [toList_data, show (ftF l[i]).data.toList = bl (ftF l[i]) from rfl, e1, beq_eq_false_iff_ne]
        rintro e
        injection e with e3 e4
        rw [e3] at e2
        exact absurd e2 (by decide)
      have HPA : Hid (∀ U : World, ByS w g U → Calls Tryz.prog 125 #[.string (ftF l[i])] U fun e w' => e = .returned (.tuple #[.agg #[.bool (lowF l[i]).1, .string (lowF l[i]).2.1, .string (lowF l[i]).2.2], .int .i64 0]) ∧ Below U.heap.size U w') := fun U hU => by
        have := fParse_any (ftF l[i]) m U (by have := hok.sz; omega) (HMM.out U hU)
        rw [hok.fp] at this
        exact this
      have HNB := hid (fun U => isNumber_yes (ftF l[i]) U hok.dig)
      clear hok hdr
      generalize lowF l[i] = lo at *
      obtain ⟨ln, lx, ly⟩ := lo
      generalize ftF l[i] = t at *
      have HKQ : Hid (∀ (qv : Value) (U U' : World) (s' : List UInt8), RwF U w.heap.size qv ((l.map lowF).take i) → RBx U g s' (.slice (some ⟨gx, ox, none⟩) nv c) y z → ByS U g U' → RwF U' w.heap.size qv ((l.map lowF).take i)) := fun qv U U' s' h1 h2 h3 => owns_keep h1 (h3.keep h2 (by decide))
      have hll : ((l.map lowF).take i).length = i := by rw [List.length_take, List.length_map]; omega
      have HLL := hid hll
      clear hll
      obtain ⟨dq, nq, cq, rfl⟩ := HQI.out.slv
      have hnq : nq = i := by
        obtain ⟨d2, c2, e, -⟩ := HQI.out.fr
        injection e with _ e2 _
        rw [e2, HLL.out]
      subst hnq
      go_wp2_with fail
      refine (HL.out _ _ _ _ HK.out.1 HK.out.2.1 HK1.out).mono ?_
      rintro e w3 ⟨rfl, s2, a1, a2, a3, a4⟩
      have K1 := hid (show RBx w3 g s2 _ y z ∧ s2.length ≤ 20000 ∧ Rst (t :: ((l.drop (nq + 1)).map ftF ++ tSemi :: ts)) s2 ∧ ByS w g w3 from ⟨a1, a2, a3, HK.out.2.2.2.trans a4⟩)
      have Q1 := hid (HKQ.out _ _ _ _ HQI.out HK.out.1 a4)
      clear a1 a2 a3 a4 HK HQI HK1
      go_wp2_with fail
      refine (HN.out _ _ _ _ K1.out.1 K1.out.2.1 K1.out.2.2.1).mono ?_
      rintro e w4 ⟨rfl, s3, a1, a2, a3, a4⟩
      have K2 := hid (show RBx w4 g s3 _ y z ∧ s3.length ≤ 20000 ∧ Rst ((l.drop (nq + 1)).map ftF ++ tSemi :: ts) s3 ∧ ByS w g w4 from ⟨a1, a2, a3, K1.out.2.2.2.trans a4⟩)
      have Q2 := hid (HKQ.out _ _ _ _ Q1.out K1.out.1 a4)
      clear a1 a2 a3 a4 K1 Q1 hne
      go_wp2_with fail
      refine (HNB.out _).mono ?_
      rintro e w5 ⟨rfl, hw⟩
      obtain rfl := hw.symm
      go_wp2_with fail
      refine (HMU.out _ _).mono ?_
      rintro e w5 ⟨rfl, hw⟩
      obtain rfl := hw.symm
      go_wp2_with fail
      refine (HPA.out _ K2.out.2.2.2).mono ?_
      rintro e w5 ⟨rfl, hb⟩
      have K3 := hid (show RBx w5 g s3 _ y z ∧ s3.length ≤ 20000 ∧ Rst ((l.drop (nq + 1)).map ftF ++ tSemi :: ts) s3 ∧ ByS w g w5 from ⟨K2.out.1.below hb, K2.out.2.1, K2.out.2.2.1, K2.out.2.2.2.step hb⟩)
      have Q3 := hid (Q2.out.below hb)
      clear hb K2 Q2
      go_wp2_with fail
      have hbA : Below w5.heap.size w5 (w5.alloc (FC ln lx ly)) := (Below.refl _ w5).alloc (Nat.le_refl _) _
      have K4 := hid (show RBx (w5.alloc (FC ln lx ly)) g s3 _ y z ∧ s3.length ≤ 20000 ∧ Rst ((l.drop (nq + 1)).map ftF ++ tSemi :: ts) s3 ∧ ByS w g (w5.alloc (FC ln lx ly)) from ⟨K3.out.1.below hbA, K3.out.2.1, K3.out.2.2.1, K3.out.2.2.2.step hbA⟩)
      have Q4 := hid (Q3.out.below hbA)
      have hbx := Box.at (w := w5) rfl ln lx ly
      clear hbA K3 Q3
      generalize w5.heap.size = gf at *
      generalize w5.alloc (FC ln lx ly) = w6 at *
      refine (HGU.out _ _).mono ?_
      rintro e w7 ⟨rfl, hw⟩
      obtain rfl := hw.symm
      have hneq : ((nq : Int) == (l.length : Int)) = false := by rw [beq_eq_false_iff_ne]; omega
      go_wp2_with fail
      refine (HGU.out _ _).mono ?_
      rintro e w7 ⟨rfl, hw⟩
      obtain rfl := hw.symm
      clear hneq
      obtain ⟨b0, b1, b2⟩ := (show w6.cell? ⟨gf, 0, none⟩ = some (.bool ln) ∧ w6.cell? ⟨gf, 1, none⟩ = some (.string lx) ∧ w6.cell? ⟨gf, 2, none⟩ = some (.string ly) from ⟨hbx.c0, hbx.c1, hbx.c2⟩)
      have hbB : Below w6.heap.size w6 (w6.alloc (FC ln lx ly)) := (Below.refl _ w6).alloc (Nat.le_refl _) _
      have K5 := hid (show RBx (w6.alloc (FC ln lx ly)) g s3 _ y z ∧ s3.length ≤ 20000 ∧ Rst ((l.drop (nq + 1)).map ftF ++ tSemi :: ts) s3 ∧ ByS w g (w6.alloc (FC ln lx ly)) from ⟨K4.out.1.below hbB, K4.out.2.1, K4.out.2.2.1, K4.out.2.2.2.step hbB⟩)
      have Q5 := hid (Q4.out.below hbB)
      have hb5 : w.heap.size ≤ (w6.alloc (FC ln lx ly)).heap.size := K5.out.2.2.2.size
      have hbx2 := Box.at (w := w6) rfl ln lx ly
      have hlen : ((l.map lowF).take nq).length + 1 ≤ 100000 := by rw [HLL.out]; omega
      clear hbB K4 Q4 hbx
      go_wp2_with (at_builtin; refine wpList_append_fr rfl _ _ rfl w.heap.size _ ((l.map lowF).take nq) (ln, lx, ly) rfl Q5.out w6.heap.size rfl hbx2 hlen hb5 ?_; intro v' w8 hr8 hg8)
      have K6 := hid (show RBx w8 g s3 _ y z ∧ s3.length ≤ 20000 ∧ Rst ((l.drop (nq + 1)).map ftF ++ tSemi :: ts) s3 ∧ ByS w g w8 from ⟨K5.out.1.grown hg8 (fun k e => Q5.out.own k e) Hg.out, K5.out.2.1, K5.out.2.2.1, K5.out.2.2.2.grown hg8 (fun k e => Q5.out.own k e)⟩)
      have Q6 : Hid (RwF w8 w.heap.size v' ((l.map lowF).take (nq + 1))) := by
        show RwF _ _ _ _
        rw [HTK.out]
        exact hr8
      have hq6 : lenOf v' = nq + 1 := by
        obtain ⟨d2, c2, e, -⟩ := hr8.fr
        rw [e, List.length_append, HLL.out]
        rfl
      clear hr8 hg8 K5 Q5 hbx2 hlen hb5 HTK b0 b1 b2
      generalize w6.heap.size = g6 at *
      go_wp2
      go_roundw
      case rel => exact ⟨nq + 1, s3, by omega, Q6, K6⟩
      case measure => rw [hq6]; simp [lenOf]; omega
    · obtain rfl : i = l.length := by omega
      have HK1 : Hid (Rst (tSemi :: ts) s') := by
        have := HK.out.2.2.1
        rw [List.drop_length] at this
        exact this
      have HTK : Hid ((l.map lowF).take l.length = l.map lowF) := List.take_of_length_le (by rw [List.length_map]; exact Nat.le_refl _)
      have hqf := HQI.out
      rw [HTK.out] at hqf
      have HQF := hid hqf
      clear hqf
      obtain ⟨dq, nq, cq, rfl⟩ := HQF.out.slv
      have hnq : nq = l.length := by
        obtain ⟨d2, c2, e, -⟩ := HQF.out.fr
        injection e with _ e2 _
        rw [e2, List.length_map]
      subst hnq
      have HKQ : Hid (∀ (qv : Value) (U U' : World) (s' : List UInt8), RwF U w.heap.size qv (l.map lowF) → RBx U g s' (.slice (some ⟨gx, ox, none⟩) nv c) y z → ByS U g U' → RwF U' w.heap.size qv (l.map lowF)) := fun qv U U' s' h1 h2 h3 => owns_keep h1 (h3.keep h2 (by decide))
      have HSF : Hid (∀ U, RwF U w.heap.size (.slice dq l.length cq) (l.map lowF) → FrS U dq (l.map lowF)) := fun U hU => by
        obtain ⟨d2, c2, e, h2⟩ := hU.fr
        injection e with e1 _ _
        rw [e1]
        exact h2
      clear HQI HTK
      have hsemi : (tSemi.toList == [59]) = true := by rw [toList_data]; rfl
      go_wp2_with fail
      refine (HL.out _ _ _ _ HK.out.1 HK.out.2.1 HK1.out).mono ?_
      rintro e w3 ⟨rfl, s2, a1, a2, a3, a4⟩
      have K1 := hid (show RBx w3 g s2 _ y z ∧ s2.length ≤ 20000 ∧ Rst (tSemi :: ts) s2 ∧ ByS w g w3 from ⟨a1, a2, a3, HK.out.2.2.2.trans a4⟩)
      have Q1 := hid (HKQ.out _ _ _ _ HQF.out HK.out.1 a4)
      clear a1 a2 a3 a4 HK HQF HK1
      go_wp2_with fail
      refine (HS.out _ _ _ _ K1.out.1 K1.out.2.1 K1.out.2.2.1).mono ?_
      rintro e w4 ⟨rfl, s3, a1, a2, a3, a4⟩
      have K2 := hid (show RBx w4 g s3 _ y z ∧ s3.length ≤ 20000 ∧ Rst ts s3 ∧ ByS w g w4 from ⟨a1, a2, a3, K1.out.2.2.2.trans a4⟩)
      have Q2 := hid (HKQ.out _ _ _ _ Q1.out K1.out.1 a4)
      clear a1 a2 a3 a4 K1 Q1 hsemi
      go_wp2_with fail
      refine (HGU.out _ _).mono ?_
      rintro e w5 ⟨rfl, hw⟩
      obtain rfl := hw.symm
      go_wp2_with fail
      refine (HIS.out _ _ _ (HSF.out _ Q2.out)).mono ?_
      rintro e w5 ⟨rfl, hb⟩
      have K3 := hid (show RBx w5 g s3 _ y z ∧ s3.length ≤ 20000 ∧ Rst ts s3 ∧ ByS w g w5 from ⟨K2.out.1.below hb, K2.out.2.1, K2.out.2.2.1, K2.out.2.2.2.step hb⟩)
      have Q3 := hid (Q2.out.below hb)
      clear hb K2 Q2
      go_wp2_with fail
      refine (HGU.out _ _).mono ?_
      rintro e w6 ⟨rfl, hw⟩
      obtain rfl := hw.symm
      go_wp2
      go_ret
      exact ⟨_, s3, rfl, Q3.out, K3.out⟩
end Go.Proofs.YtojidhnkpeiimaaGreatDoor

/- Regions that draw their order: a condition on the world that holds until one operation (a store, say) has come up, and another one behind it. What yields its value under the first may be taken ahead of all, if that operation waits for it. -/
namespace Go.Proofs.YtojidhnkpeiimaaGreatDoor
section
variable {P : Program} {ops : Array Oper} {Q : Exit → Act → World → Prop} {md : Region.Mode} {S : Bool → World → Prop} {k : Nat}
def wpU (P : Program) (md : Region.Mode) (ops : Array Oper) (Q : Exit → Act → World → Prop) (S : Bool → World → Prop) (k : Nat) : Nat → Array Bool → Act → World → Prop
  | 0, l, a, w => Region.ready md ops l = [] ∧ Q .normal a w
  | n + 1, l, a, w => (Region.ready md ops l = [] → Q .normal a w) ∧ ∀ i ∈ Region.ready md ops l, wpOp P ops Q i (fun a' w' => S ((l.setIfInBounds i true).getD k true) w' ∧ wpU P md ops Q S k n (l.setIfInBounds i true) a' w') a w
theorem wpU_any : ∀ (n : Nat) (l : Array Bool) (a : Act) (w : World), wpU P md ops Q S k n l a w → wpAny P md ops Q n l a w
  | 0, _, _, _, h => h
  | n + 1, _, _, _, h => ⟨h.1, fun i hi => wpOp_mono (fun a' w' h' => wpU_any n _ a' w' h'.2) (h.2 i hi)⟩
theorem ready_un {l : Array Bool} {i : Nat} (h : i ∈ Region.ready md ops l) : l.getD i true = false := (mem_ready.1 h).1
theorem wpU_first {i : Nat} {oi : Oper} {v : Value} (W : Bool → Prop) (hi : ops[i]? = some oi) (hsel : ∀ (j : Nat) (o : Oper) cs b, ops[j]? = some o → o.op ≠ .select cs b)
    (hQ : ∀ c a w, Q (.panic c) (a.put oi.dst v) w → Q (.panic c) a w)
    (hW : ∀ (l : Array Bool) (j : Nat), i ∈ Region.ready md ops l → j ∈ Region.ready md ops l → j ≠ i → W (l.getD k true) → W ((l.setIfInBounds j true).getD k true)) (hk : k ≠ i) :
    ∀ (n : Nat) (l : Array Bool) (a : Act) (w : World),
      (∀ j oj, ops[j]? = some oj → j ≠ i → l.getD j true = false → (∀ e ∈ oj.after, Region.binds md e = true → e.on ≠ i) → oi.apart ops oj = true) →
      i ∈ Region.ready md ops l → YieldsIf P ops (fun u => ∃ b, W b ∧ S b u) oi v a → W (l.getD k true) → S (l.getD k true) w →
      wpU P md ops Q S k n (l.setIfInBounds i true) (a.put oi.dst v) w → wpU P md ops Q S k (n + 1) l a w := by
  have hflag : ∀ l : Array Bool, (l.setIfInBounds i true).getD k true = l.getD k true := fun l => getD_set_ne true (Ne.symm hk)
  intro n
  induction n with
  | zero =>
    intro l a w _ hr hy hw hS H
    refine ⟨fun h => (by rw [h] at hr; cases hr), fun j hj => ?_⟩
    by_cases hji : j = i
    · subst hji
      exact hy.wpOp hi ⟨_, hw, hS⟩ ⟨by rw [hflag]; exact hS, H⟩
    · have := ready_mono hj hji
      rw [H.1] at this
      cases this
  | succ n ih =>
    intro l a w hfree hr hy hw hS H
    refine ⟨fun h => (by rw [h] at hr; cases hr), fun j hj => ?_⟩
    by_cases hji : j = i
    · subst hji
      exact hy.wpOp hi ⟨_, hw, hS⟩ ⟨by rw [hflag]; exact hS, H⟩
    · have h1 := H.2 j (ready_mono hj hji)
      obtain ⟨hjun, oj, hoj, hall⟩ := mem_ready.1 hj
      have hnot : ∀ e ∈ oj.after, Region.binds md e = true → e.on ≠ i := fun e he hb heq => by
        have h1 := hall e he hb
        have h0 := ready_un hr
        rw [heq] at h1
        rcases Nat.lt_or_ge i l.size with h' | h'
        · simp [h'] at h0 h1; rw [h0] at h1; cases h1
        · simp [Array.getElem?_eq_none h'] at h1
      have h2 := wpOp_putIf hoj (hfree j oj hoj hji hjun hnot) (fun cs b => hsel i oi cs b hi) (fun cs b => hsel j oj cs b hoj) hQ hy h1
      have hfree' : ∀ x ox, ops[x]? = some ox → x ≠ i → (l.setIfInBounds j true).getD x true = false → (∀ e ∈ ox.after, Region.binds md e = true → e.on ≠ i) → oi.apart ops ox = true := fun x ox hx hxi hun hno => by
        refine hfree x ox hx hxi ?_ hno
        by_cases hjx : j = x
        · subst hjx; exact hjun
        · rw [getD_set_ne true hjx] at hun; exact hun
      have hw' := hW l j hr hj hji hw
      have ecomm : (l.setIfInBounds i true).setIfInBounds j true = (l.setIfInBounds j true).setIfInBounds i true := Array.setIfInBounds_comm _ _ (Ne.symm hji)
      refine wpOp_mono (fun a' w' h3 => ?_) h2
      have hS' : S ((l.setIfInBounds j true).getD k true) w' := by
        have := h3.2.1
        rwa [ecomm, getD_set_ne true (Ne.symm hk)] at this
      refine ⟨hS', ih (l.setIfInBounds j true) a' w' hfree' (ready_mono hr (Ne.symm hji)) h3.1 hw' hS' ?_⟩
      rw [← ecomm]
      exact h3.2.2
theorem wpU_take {i : Nat} {oi : Oper} {v : Value} {n : Nat} {l : Array Bool} {a : Act} {w : World} (hi : ops[i]? = some oi)
    (hs : Region.noSelect ops = true) (hf : Region.free md ops l i = true) (hr : (Region.ready md ops l).contains i = true) (hk : k ≠ i)
    (hQ : ∀ c a w, Q (.panic c) (a.put oi.dst v) w → Q (.panic c) a w) (hy : YieldsIf P ops (fun u => ∃ b, S b u) oi v a) {b : Bool} (hb : l.getD k true = b) (hS : S b w)
    (h : wpU P md ops Q S k n (l.setIfInBounds i true) (a.put oi.dst v) w) : wpU P md ops Q S k (n + 1) l a w :=
  wpU_first (fun _ => True) hi (Region.noSelect_spec hs) hQ (fun _ _ _ _ _ h => h) hk n l a w (Region.free_spec hi hf) (by simpa using hr) (hy.imp (fun ⟨h1, h2⟩ => ⟨h1, fun u ⟨b, _, hu⟩ => h2 u ⟨b, hu⟩⟩) id) trivial (by rw [hb]; exact hS) h
theorem wpU_ahead {i : Nat} {oi ok : Oper} {v : Value} {n : Nat} {l : Array Bool} {a : Act} {w : World} (hi : ops[i]? = some oi)
    (hs : Region.noSelect ops = true) (hf : Region.free md ops l i = true) (hr : (Region.ready md ops l).contains i = true) (hk : k ≠ i)
    (hok : ops[k]? = some ok) (hw : (ok.after.any fun e => Region.binds md e && e.on == i) = true)
    (hQ : ∀ c a w, Q (.panic c) (a.put oi.dst v) w → Q (.panic c) a w) (hy : YieldsIf P ops (S false) oi v a) (hb : l.getD k true = false) (hS : S false w)
    (h : wpU P md ops Q S k n (l.setIfInBounds i true) (a.put oi.dst v) w) : wpU P md ops Q S k (n + 1) l a w := by
  refine wpU_first (fun b => b = false) hi (Region.noSelect_spec hs) hQ (fun l j hri hj hji e => ?_) hk n l a w (Region.free_spec hi hf) (by simpa using hr) (hy.imp (fun ⟨h1, h2⟩ => ⟨h1, fun u ⟨b, hb, hu⟩ => h2 u (by subst hb; exact hu)⟩) id) hb (by rw [hb]; exact hS) h
  by_cases hjk : j = k
  · subst hjk
    exfalso
    obtain ⟨_, oj, hoj, hall⟩ := mem_ready.1 hj
    rw [hok] at hoj
    cases hoj
    obtain ⟨e, he, h2⟩ := Array.any_eq_true'.1 hw
    obtain ⟨h3, h4⟩ := Bool.and_eq_true_iff.1 h2
    have h5 := hall e he h3
    have h0 := ready_un hri
    rw [eq_of_beq h4] at h5
    rcases Nat.lt_or_ge i l.size with h' | h'
    · simp [h'] at h0 h5; rw [h0] at h5; cases h5
    · simp [Array.getElem?_eq_none h'] at h5
  · rw [getD_set_ne true hjk]
    exact e
def AllU (P : Program) (md : Region.Mode) (ops : Array Oper) (Q : Exit → Act → World → Prop) (S : Bool → World → Prop) (k n : Nat) (l : Array Bool) (a : Act) (w : World) (rs : List Nat) : Prop :=
  ∀ i ∈ rs, wpOp P ops Q i (fun a' w' => S ((l.setIfInBounds i true).getD k true) w' ∧ wpU P md ops Q S k n (l.setIfInBounds i true) a' w') a w
theorem AllU.nil {n : Nat} {l : Array Bool} {a : Act} {w : World} : AllU P md ops Q S k n l a w [] := fun _ h => by cases h
theorem AllU.cons {n : Nat} {l : Array Bool} {a : Act} {w : World} {i : Nat} {o : Oper} {rs : List Nat} {b : Bool} (ho : ops[i]? = some o) (hb : (l.setIfInBounds i true).getD k true = b)
    (h : ∀ K' : Act → World → Prop, Go.Shut (∀ a w, S b w → (S b w → wpU P md ops Q S k n (l.setIfInBounds i true) a w) → K' a w) → if Region.wanted o (yielded ops a.tmps) = true then Oper.wp P o a w K' Q else K' (a.put o.dst undef) w)
    (hs : AllU P md ops Q S k n l a w rs) : AllU P md ops Q S k n l a w (i :: rs) := fun j hj => by
  rcases List.mem_cons.1 hj with rfl | hj
  · exact wpOp_step ho (fun K' hK => h K' (fun a w hS hU => hK a w ⟨by rw [hb]; exact hS, hU hS⟩))
  · exact hs j hj
theorem wpU_ready {rs : List Nat} {n : Nat} {l : Array Bool} {a : Act} {w : World} (hr : Region.ready md ops l = rs) (hne : rs ≠ []) (h : AllU P md ops Q S k n l a w rs) : wpU P md ops Q S k (n + 1) l a w :=
  ⟨fun h0 => absurd (hr ▸ h0) hne, hr ▸ h⟩
theorem wpU_done {l : Array Bool} {a : Act} {w : World} (hr : Region.ready md ops l = []) (h : Q .normal a w) : ∀ n, wpU P md ops Q S k n l a w
  | 0 => ⟨hr, h⟩
  | _ + 1 => ⟨fun _ => h, by rw [hr]; simp⟩
theorem wp_region_until {id : Nat} {a : Act} {w : World} (k : Nat) (S : Bool → World → Prop) (hm : P.follows .mixedOrders = true) (hS : S false w.drew) (h : S false w.drew → wpU P .any ops Q S k ops.size (Array.replicate ops.size false) a w.drew) : (Code.region id ops true).wp P Q a w :=
  wp_region_any hm (wpU_any _ _ _ _ (h hS))
end
end Go.Proofs.YtojidhnkpeiimaaGreatDoor

/- Rows of numbers as texts: numbersText of the document's answer. -/
namespace Go.Proofs.YtojidhnkpeiimaaGreatDoor
open Go.RowKit Go.Shelf
theorem sp_small {l : List Fr} (h : fw l ≤ 10000) (i : Nat) : (spL ((l.take i).map ftF)).length ≤ 100001 * l.length := by
  have := spL_le (xs := (l.take i).map ftF) (m := 100000) fun s hs => by
    obtain ⟨f, hf, rfl⟩ := List.mem_map.1 hs
    have := fw_mem (List.mem_of_mem_take hf)
    exact ftF_size (by omega)
  rw [List.length_map, List.length_take] at this
  have h2 : 100001 * min i l.length ≤ 100001 * l.length := Nat.mul_le_mul_left _ (Nat.min_le_right _ _)
  omega
end Go.Proofs.YtojidhnkpeiimaaGreatDoor

/- Rows of numbers as texts: rowText of package net; strings.Join of texts in memory. -/
namespace Go.Proofs.YtojidhnkpeiimaaGreatDoor
open Go.RowKit Go.Shelf
theorem join_st (b : Option Addr) (c : Nat) (xs : List ByteArray) (sep : ByteArray) (w : World) (h : StS w b xs) (hc : xs.length ≤ c) (hn : xs.length ≤ 5000) (hlen : (Lib.join (xs.map (·.data.toList)) sep.data.toList).length ≤ 140737488355328) :
    Calls Tryz.prog 33 #[.slice b xs.length c, .string sep] w fun e w' => e = .returned (.string (tx (Lib.join (xs.map (·.data.toList)) (bl sep)))) ∧ Below w.heap.size w w' := by
  by_cases h0 : xs.length = 0
  · obtain rfl : xs = [] := List.length_eq_zero_iff.1 h0
    exact (Tryz.strings_Join_none b c sep w).mono fun e w' ⟨he, hw⟩ => ⟨he, hw ▸ Below.refl _ _⟩
  · obtain ⟨g, o, rfl, hg, -⟩ := h 0 (by omega)
    refine Tryz.strings_Join g o c xs sep w (fun j x hj => ?_) hg (by omega) hc hlen
    obtain ⟨hj1, hj2⟩ := List.getElem?_eq_some_iff.1 hj
    obtain ⟨g', o', e1, -, e2⟩ := h j hj1
    cases e1
    rw [e2, hj2]
theorem join_le {l : List Fr} (hw : fw l ≤ 10000) (hn : l.length ≤ 5000) : (Lib.join ((l.map ftF).map (·.data.toList)) [32]).length ≤ 600000000 := by
  by_cases h : l.map ftF = []
  · rw [h]; exact Nat.zero_le _
  · have h1 := congrArg List.length (spL_join _ h)
    have h2 := sp_small hw l.length
    rw [List.take_length] at h2
    simp only [List.length_append, List.length_cons, List.length_nil] at h1
    omega
set_option maxRecDepth 100000 in
set_option maxHeartbeats 1000000 in
theorem rowText_any (a : Option Addr) (ca : Nat) (l : List Fr) (w : World) (h : FrS w a l) (hw : fw l ≤ 10000) (hn : l.length ≤ 5000) (htab : Lib.TabIs Tryz.prog w "internal/strconv.uint64pow10" .u64 Lib.pow10Tab) :
    Calls Tryz.prog 34 #[.slice a l.length ca] w fun e w' => e = .returned (.string (tx (rowP l))) ∧ Below w.heap.size w w' := by
  obtain ⟨i0, hi0, hz0, hz1, hz2⟩ := info_parts Tryz.infoStr
  have HF := hid h
  have HW := hid hw
  have HTB := hid htab
  have HT : Hid (∀ (f : Fr), f.2.1.size + f.2.2.size ≤ 10000 → ∀ U : World, Lib.TabIs Tryz.prog U "internal/strconv.uint64pow10" .u64 Lib.pow10Tab → Calls Tryz.prog 57 #[.agg #[.bool f.1, .string f.2.1, .string f.2.2]] U fun e w' => e = .returned (.string (ftF f)) ∧ Below U.heap.size U w') := fun f hf U hU => fText_any f.1 f.2.1 f.2.2 U (by omega) hU
  have HG : Hid (∀ i (h : i < l.length), (l.map ftF)[i]? = some (ftF l[i])) := fun i h => by simp [h]
  have hsl : (l.map ftF).length = l.length := by simp
  have HJ : Hid (∀ (U : World) (G : Nat), RowS U G (l.map ftF) → Calls Tryz.prog 33 #[.slice (some ⟨G, 0, none⟩) l.length l.length, .string ⟨#[32]⟩] U fun e w' => e = .returned (.string (tx (Lib.join ((l.map ftF).map (·.data.toList)) [32]))) ∧ Below U.heap.size U w') := fun U G hR => by
    have := join_st (some ⟨G, 0, none⟩) l.length (l.map ftF) ⟨#[32]⟩ U hR.st (by omega) (by omega) (by have := join_le hw hn; exact Nat.le_trans this (by decide))
    rwa [hsl] at this
  have HJL := hid (join_le hw hn)
  have HP : Hid (tx (Lib.join ((l.map ftF).map (·.data.toList)) [32]) ++ ⟨#[32, 59, 10]⟩ = tx (rowP l)) := by
    show _ = _
    rw [tx_app]
    rfl
  have z1 : (⟨#[32, 59, 10]⟩ : ByteArray).size = 3 := rfl
  generalize tx (rowP l) = res at *
  generalize hds : l.map ftF = ds at *
  clear h hw htab hds
  go_enter Tryz.func34, Tryz.ntmps34
  go_wp2_with (first
    | (at_make; refine wpList_make_full _ rfl _ _ 44 rfl w.heap.size 9 i0 (.string ⟨#[]⟩) 1 Tryz.underlying44 hi0 hz0 hz1 .i64 .i64 _ _ l.length rfl rfl (by go_num) (by go_num) (by rw [hz2]; omega) (by unfold maxLen; omega) (Nat.le_refl _) ?_; intro w2 hown2 hgrow2))
  have hb2 := block_of_own hown2
  rw [made_strs] at hb2
  have HB2 : Hid (Below w.heap.size w w2) := (Below.refl _ w).grown hgrow2 (Nat.le_refl _) (fun k e => by cases e)
  have HI : Hid (RowS w2 w.heap.size (List.replicate l.length ⟨#[]⟩)) := hb2
  clear hown2 hgrow2 hb2
  go_wp2_with fail
  go_loopw [11] (fun iv wr => ∃ i : Nat, i ≤ l.length ∧ iv = .int .i64 i ∧ Hid (RowS wr w.heap.size (partS ds i)) ∧ Hid (Below w.heap.size w wr)) (fun iv _ => l.length - (intOf iv).toNat)
  case atStart => exact ⟨0, Nat.zero_le _, rfl, by rw [partS_zero, hsl]; exact HI, HB2⟩
  case round =>
    obtain ⟨i, hi, rfl, HR, HB⟩ := hrel
    clear HI HB2
    by_cases hlt : i < l.length
    · obtain ⟨g, o, rfl, hg, c0, c1, c2⟩ := (HF.out.below HB.out) i hlt
      have hfe := fw_each hlt HW.out
      have HTi := hid (HT.out l[i] hfe)
      obtain ⟨hd1, hd2⟩ := List.getElem?_eq_some_iff.1 (HG.out i hlt)
      have HPS := hid (partS_set ds hd1)
      rw [hd2] at HPS
      generalize ftF l[i] = T at *
      generalize l[i] = f at *
      obtain ⟨fn, fx, fy⟩ := f
      simp only at c0 c1 c2 hfe HTi
      have hbA := (Below.refl _ wr).alloc (Nat.le_refl _) (FC fn fx fy)
      obtain ⟨k0, k1, k2, -⟩ := (Box.new wr fn fx fy).facts
      have HRA := hid (HR.out.below hbA HR.out.lt)
      have HBA := hid (HB.out.trans (hbA.mono HB.out.size))
      have HTA := hid (tab_below HTB.out HBA.out)
      clear hbA hd1 hd2
      go_wp2_with fail
      generalize (wr.alloc (FC fn fx fy)) = w3 at *
      refine (HTi.out _ HTA.out).mono ?_
      rintro e w4 ⟨rfl, hb4⟩
      have hR4 := HRA.out.below hb4 HRA.out.lt
      have k4 := hR4.cell i (by rw [partS_length _ (by omega)]; omega)
      have f4 := hR4.fz i
      have hS := hR4.set i T
      rw [HPS.out] at hS
      have HS := hid hS
      have HBS := hid ((HBA.out.trans (hb4.mono HBA.out.size)).setCell (p := ⟨w.heap.size, i, none⟩) (Nat.le_refl _) (.string T))
      generalize (partS ds i)[i]'(by rw [partS_length _ (by omega)]; omega) = z at *
      clear hb4 hR4 hS k0 k1 k2 c0 c1 c2
      go_wp2
      go_roundw
      case rel => exact ⟨i + 1, by omega, by go_num, HS, HBS⟩
      case measure => simp [intOf]; omega
    · obtain rfl : i = l.length := by omega
      have hfin := HR.out
      rw [← hsl, partS_all] at hfin
      have HFI := hid hfin
      clear hfin
      go_wp2_with fail
      refine (HJ.out _ _ HFI.out).mono ?_
      rintro e w5 ⟨rfl, hb5⟩
      have HB5 := hid (HB.out.trans (hb5.mono HB.out.size))
      have hjs : (tx (Lib.join (ds.map (·.data.toList)) [32])).size ≤ 600000000 := by rw [tx_size]; exact HJL.out
      generalize tx (Lib.join (ds.map (·.data.toList)) [32]) = J at *
      clear hb5
      go_wp2
      go_ret
      exact ⟨by rw [← HP.out]; rfl, HB5.out⟩
end Go.Proofs.YtojidhnkpeiimaaGreatDoor

/- The text of a net, as it grows. (Plain.) -/
namespace Go.Proofs.YtojidhnkpeiimaaGreatDoor
open Go.RowKit Go.Shelf
def vsV (V : List Vr) (v : Nat) : List ByteArray := (V.getD v (⟨#[]⟩, [])).2
theorem nmV_at {V : List Vr} {v : Nat} (h : v < V.length) : nmV V v = V[v].1 := by rw [nmV, getV h]
theorem vsV_at {V : List Vr} {v : Nat} (h : v < V.length) : vsV V v = V[v].2 := by rw [vsV, getV h]
theorem getDI {L : List (List Int)} {v : Nat} (h : v < L.length) : L.getD v [] = L[v] := by rw [List.getD_eq_getElem?_getD, List.getElem?_eq_getElem h]; rfl
theorem getDF {R : List (List Fr)} {v : Nat} (h : v < R.length) : R.getD v [] = R[v] := by rw [List.getD_eq_getElem?_getD, List.getElem?_eq_getElem h]; rfl
def lnS (V : List Vr) (v : Nat) : List UInt8 := (V.take v).flatMap lineL
def lnI (V : List Vr) (v i : Nat) : List UInt8 := lnS V v ++ [118, 97, 114, 32] ++ bl (nmV V v) ++ [32, 123] ++ spL ((vsV V v).take i)
theorem lnS_all (V : List Vr) : lnS V V.length = V.flatMap lineL := by rw [lnS, List.take_length]
def S2 (V : List Vr) (L : List (List Int)) (R : List (List Fr)) (v : Nat) : List UInt8 := V.flatMap lineL ++ (List.range v).flatMap (varL V L R)
def nmI (V : List Vr) (L : List (List Int)) (R : List (List Fr)) (v j : Nat) : List UInt8 := S2 V L R v ++ bl (nmV V v) ++ [32, 124] ++ spL (((toN (L.getD v [])).take j).map (nmV V))
def rwI (V : List Vr) (L : List (List Int)) (R : List (List Fr)) (v i : Nat) : List UInt8 := S2 V L R v ++ headL V L v ++ (List.range i).flatMap (blockL V L R v)
def vlI (V : List Vr) (L : List (List Int)) (R : List (List Fr)) (v i j : Nat) : List UInt8 := rwI V L R v i ++ spL (valsL V (toN (L.getD v [])) (digs (sizesN V) (toN (L.getD v [])) i) j)
structure PrS (V : List Vr) (L : List (List Int)) (R : List (List Fr)) : Prop where
  ln : ∀ v, v ≤ V.length → (lnS V v).length ≤ 208000
  lnI : ∀ v i, v < V.length → (lnI V v i).length ≤ 300000
  two : ∀ v, v ≤ V.length → (S2 V L R v).length ≤ 400000000000
  nm : ∀ v j, v < V.length → (nmI V L R v j).length ≤ 400000200000
  rw : ∀ v i, v < V.length → i ≤ cnt (sizesN V) (toN (L.getD v [])) → (rwI V L R v i).length ≤ 450000000000
  vl : ∀ v i j, v < V.length → i ≤ cnt (sizesN V) (toN (L.getD v [])) → j ≤ (L.getD v []).length → (vlI V L R v i j).length ≤ 460000000000
theorem prS_of {V : List Vr} {L : List (List Int)} {R : List (List Fr)} (hs : NSm V L R) (hok : NOK V L R) : PrS V L R := by
  have hs4 : ∀ u, sz (sizesN V) u ≤ 4 := fun u => by have := hok.fine.sz_le u; rwa [toN_iL] at this
  have h4 : ∀ x ∈ V, x.2.length ≤ 4 := fun x hx => by
    obtain ⟨i, hi, rfl⟩ := List.getElem_of_mem hx
    have := hs4 i
    rw [sz, sizesN_get hi] at this
    exact this
  have h8 := hok.n8
  have hp8 : ∀ v, (L.getD v []).length ≤ 8 := fun v => by
    by_cases h : v < L.length
    · rw [getDI h]; have := (hok.up v h).length; omega
    · rw [List.getD_eq_getElem?_getD, List.getElem?_eq_none (by omega)]; exact Nat.zero_le _
  have hc : ∀ v, cnt (sizesN V) (toN (L.getD v [])) ≤ 65536 := fun v => cnt_small hs4 (by rw [toN_length]; exact hp8 v)
  have ln : ∀ v, v ≤ V.length → (lnS V v).length ≤ 208000 := fun v hv => by
    have := flat_le (l := V.take v) (f := lineL) (m := 26000) fun x hx => line_le hs.vars (List.mem_of_mem_take hx) (h4 x (List.mem_of_mem_take hx))
    rw [List.length_take] at this
    rw [lnS]
    omega
  have blk : ∀ v i, v < V.length → i ≤ cnt (sizesN V) (toN (L.getD v [])) → ((List.range i).flatMap (blockL V L R v)).length ≤ 500000 * 65536 := fun v i hv hi => by
    have := flat_le (l := List.range i) (f := blockL V L R v) (m := 500000) fun x _ => block_le hs (by rw [hok.lenR]; exact hv) (hp8 v) (hs4 v)
    rw [List.length_range] at this
    have := hc v
    omega
  have hd : ∀ v, (headL V L v).length ≤ 60000 := fun v => head_le hs (hp8 v)
  have vr : ∀ v, v < V.length → (varL V L R v).length ≤ 40000000000 := fun v hv => by
    have hvR : v < R.length := by rw [hok.lenR]; exact hv
    rw [varL]
    split
    · have h1 := nm_size hs.vars v
      have h3 := hs.rows.2 _ (List.getElem_mem hvR)
      have h2 := row_le (l := R[v]) (by omega)
      rw [getDF hvR]
      simp only [List.length_append, List.length_cons, List.length_nil, bl_length]
      omega
    · have h1 := hd v
      have h2 := blk v _ hv (Nat.le_refl _)
      simp only [List.length_append, List.length_cons, List.length_nil]
      omega
  have two : ∀ v, v ≤ V.length → (S2 V L R v).length ≤ 400000000000 := fun v hv => by
    have h1 := flat_le (l := List.range v) (f := varL V L R) (m := 40000000000) fun x hx => vr x (by have := List.mem_range.1 hx; omega)
    have h2 := ln V.length (Nat.le_refl _)
    rw [lnS_all] at h2
    rw [List.length_range] at h1
    rw [S2, List.length_append]
    omega
  have rwb : ∀ v i, v < V.length → i ≤ cnt (sizesN V) (toN (L.getD v [])) → (rwI V L R v i).length ≤ 450000000000 := fun v i hv hi => by
    have h1 := two v (by omega)
    have h2 := hd v
    have h3 := blk v i hv hi
    rw [rwI, List.length_append, List.length_append]
    omega
  refine ⟨ln, fun v i hv => ?_, two, fun v j hv => ?_, rwb, fun v i j hv hi hj => ?_⟩
  · have h1 := ln v (by omega)
    have h2 := nm_size hs.vars v
    have h3 := spL_le (xs := (vsV V v).take i) (m := 5000) fun s h => by
      have := List.mem_of_mem_take h
      rw [vsV_at hv] at this
      exact (hs.vars.2 _ (List.getElem_mem hv)).2.2 _ this
    have h5 : ((vsV V v).take i).length ≤ 4 := by
      rw [List.length_take, vsV_at hv]
      have := h4 _ (List.getElem_mem hv)
      omega
    simp only [Go.Proofs.YtojidhnkpeiimaaGreatDoor.lnI, List.length_append, List.length_cons, List.length_nil, bl_length]
    omega
  · have h1 := two v (by omega)
    have h2 := nm_size hs.vars v
    have h3 := nms_le hs.vars ((toN (L.getD v [])).take j)
    rw [List.length_take, toN_length] at h3
    have h5 := hp8 v
    simp only [nmI, List.length_append, List.length_cons, List.length_nil, bl_length]
    omega
  · have h1 := rwb v i hv hi
    have h2 := vals_le hs.vars (toN (L.getD v [])) (digs (sizesN V) (toN (L.getD v [])) i) j
    have h3 := hp8 v
    rw [vlI, List.length_append]
    omega
theorem prE_of {V : List Vr} {L : List (List Int)} {R : List (List Fr)} (h0 : netE V L R = 0) : ((netL V L R).length ≤ 20000 → prE V L R = 0 ∧ prT V L R = tx (netL V L R)) ∧ (20000 < (netL V L R).length → prE V L R = 2 ∧ prT V L R = ⟨#[]⟩) := by
  refine ⟨fun h => ⟨by rw [prE, if_pos h0, if_pos h], by rw [prT, if_pos ⟨h0, h⟩]⟩, fun h => ⟨by rw [prE, if_pos h0, if_neg (by omega)], by rw [prT, if_neg (by omega)]⟩⟩
theorem prE_bad {V : List Vr} {L : List (List Int)} {R : List (List Fr)} (h0 : netE V L R ≠ 0) : prE V L R = netE V L R ∧ prT V L R = ⟨#[]⟩ := ⟨by rw [prE, if_neg h0], by rw [prT, if_neg (fun h => h0 h.1)]⟩
end Go.Proofs.YtojidhnkpeiimaaGreatDoor
