/- The document's answer: what a table has for an assignment of all variables. -/
import Derived.Test.YtknlhejhnopnaaaGreatDoorBytesAToTabT
import Derived.Lib.AppendZerosOnto
import Derived.Laws.AppendOwnNone
namespace Go.Proofs.YtknlhejhnopnaaaGreatDoor
open Go.RowKit Go.Shelf

/-- What cell holds. -/
def CH (w V : World) (u v : Value) : Prop := TBox V w.heap.size u v ∧ Box V (w.heap.size + 1) false ⟨#[]⟩ ⟨#[]⟩ ∧ Below w.heap.size w V
theorem CH.dn {w V : World} {u v : Value} (h : CH w V u v) (k : Nat) : CH w (V.drewN k) u v := ⟨h.1, h.2.1, below_dn h.2.2 k⟩
theorem RowI_get {l : List Nat} {i : Nat} (h : i < (iL l).length) : (iL l)[i] = ((l[i]'(by rw [iL_length] at h; exact h) : Nat) : Int) := by simp [iL]

set_option maxRecDepth 100000 in
set_option maxHeartbeats 1000000 in
theorem rCell_any (a b c d : Option Addr) (ca cb cc cd : Nat) (sizes vars : List Int) (l : List Fr) (f : Nat → Nat) (w : World) (hs : IntS w a sizes) (hv : IntS w b vars) (hl : FrS w c l) (hd : IntS w d (iL (spr sizes.length f))) (hfi : Fine sizes) (hup : Up vars sizes.length) (hf : ∀ u, f u < sz (toN sizes) u) (hP : pos (toN sizes) f (toN vars) < l.length) :
    Calls Tryz.prog 58 #[.slice a sizes.length ca, .agg #[.slice b vars.length cb, .slice c l.length cc], .slice d sizes.length cd] w fun e w' => e = .returned (frV (celF l (pos (toN sizes) f (toN vars)))) ∧ Below w.heap.size w w' := by
  have HS := hid hs
  have HV := hid hv
  have HL := hid hl
  have HD := hid hd
  have HFI := hid hfi
  have HUP := hid hup
  have HF := hid hf
  have hl8 := hfi.eight
  have hvl := hup.length
  obtain ⟨fr, hfr⟩ : ∃ fr, fr = celF l (pos (toN sizes) f (toN vars)) := ⟨_, rfl⟩
  rw [← hfr]
  have HFR := hid hfr
  clear hfr
  have HFIN : Hid ((toN vars).take vars.length = toN vars) := by show _ = _; rw [← toN_length vars, List.take_length]
  clear hs hv hl hd hfi hup hf
  have hH : CH w ((w.alloc (TC (.slice b vars.length cb) (.slice c l.length cc))).alloc (FC false ⟨#[]⟩ ⟨#[]⟩)) (.slice b vars.length cb) (.slice c l.length cc) := ⟨(TBox.at (w := w) rfl _ _).alloc _, Box.at (w := w.alloc (TC (.slice b vars.length cb) (.slice c l.length cc))) (by simp) _ _ _, ((Below.refl _ w).alloc (Nat.le_refl _) _).alloc (by simp) _⟩
  go_enter Tryz.func58, Tryz.ntmps58
  go_wp2_with fail
  generalize ((w.alloc (TC (.slice b vars.length cb) (.slice c l.length cc))).alloc (FC false ⟨#[]⟩ ⟨#[]⟩)) = W at *
  have HH := hid hH
  clear hH
  go_loopw [7, 8] (fun kv iv wr => ∃ i : Nat, i ≤ vars.length ∧ iv = .int .i64 i ∧ kv = .int .i64 (pos (toN sizes) f ((toN vars).take i) : Nat) ∧ Hid (CH w wr (.slice b vars.length cb) (.slice c l.length cc))) (fun _ iv _ => vars.length - (intOf iv).toNat)
  case atStart => exact ⟨0, Nat.zero_le _, rfl, rfl, HH⟩
  case round =>
    obtain ⟨i, hi, rfl, rfl, HC⟩ := hrel
    clear HH
    have t0 := HC.out.1.c0
    by_cases hlt : i < vars.length
    · have hB := HC.out.2.2
      obtain ⟨g, o, rfl, hg, c0⟩ := (HV.out.below hB) i hlt
      obtain ⟨hvi, hvn⟩ := HUP.out.nat hlt
      have hst : pos (toN sizes) f ((toN vars).take (i + 1)) = pos (toN sizes) f ((toN vars).take i) * sz (toN sizes) vars[i].toNat + f vars[i].toNat := by
        rw [pos_take _ _ (show i < (toN vars).length by rw [toN_length]; exact hlt), toN_get hlt]
      have hbd : pos (toN sizes) f ((toN vars).take (i + 1)) < 65537 := by
        have h1 := pos_lt f HF.out ((toN vars).take (i + 1))
        have h2 : cnt (toN sizes) ((toN vars).take (i + 1)) ≤ 65536 := cnt_small HFI.out.sz_le (by rw [List.length_take, toN_length]; omega)
        omega
      generalize hV : vars[i].toNat = v at *
      rw [← hvi] at c0
      obtain ⟨g', o', rfl, hg', c1⟩ := (HS.out.below hB) v hvn
      rw [← HFI.out.sz_eq hvn] at c1
      obtain ⟨g2, o2, rfl, hg2, c2⟩ := (HD.out.below hB) v (by rw [iL_length, spr_length]; exact hvn)
      rw [RowI_get, spr_get hvn] at c2
      have HST := hid hst
      rw [hst] at hbd
      clear hst hvi hV
      generalize pos (toN sizes) f ((toN vars).take i) = X at *
      generalize sz (toN sizes) v = Y at *
      generalize f v = x at *
      have hpi : ((X : Nat) : Int) * ((Y : Nat) : Int) = ((X * Y : Nat) : Int) := (Int.natCast_mul _ _).symm
      have hp0 : 0 ≤ (X : Int) * (Y : Int) := by rw [hpi]; omega
      have hp1 : (X : Int) * (Y : Int) + (x : Int) ≤ 65536 := by rw [hpi]; omega
      have HFN : Hid ((X : Int) * (Y : Int) + (x : Int) = ((X * Y + x : Nat) : Int)) := by show _ = _; rw [hpi]; omega
      clear hpi hbd
      go_wp2_with fail
      go_quiet (fail)
      go_wp2
      go_roundw
      case rel => exact ⟨i + 1, by omega, by go_num, by rw [HST.out, ← HFN.out], HC.out.dn _⟩
      case measure => simp [intOf]; omega
    · obtain rfl : i = vars.length := by omega
      rw [HFIN.out]
      have t1 := HC.out.1.c1
      obtain ⟨g, o, rfl, hg, a0, a1, a2⟩ := (HL.out.below HC.out.2.2) _ hP
      rw [← celF_eq hP, ← HFR.out] at a0 a1 a2
      clear HFR
      obtain ⟨k0, k1, k2, f0, f1, f2⟩ := HC.out.2.1.facts
      obtain ⟨fn, fx, fy⟩ := fr
      simp only at a0 a1 a2
      generalize pos (toN sizes) f (toN vars) = P at *
      go_wp2
      refine bodyPost_ret ((HC.out.2.1.put _ _ _).result rfl _ rfl) rfl ?_
      exact ⟨rfl, below_put HC.out.2.2 (by omega) _ _ _⟩
end Go.Proofs.YtknlhejhnopnaaaGreatDoor

/- Lists of ints: slices.Grow of nothing, slices.Concat of two. -/
namespace Go.Proofs.YtknlhejhnopnaaaGreatDoor
open Go.RowKit Go.Shelf

set_option maxRecDepth 100000 in
set_option maxHeartbeats 400000 in
theorem slGrow_nil (n : Nat) (hn : n ≤ 100000) (w : World) :
    Calls Tryz.prog 134 #[.slice none 0 0, .int .i64 (n : Nat)] w fun e w' => ∃ v, e = .returned v ∧ RwI w' w.heap.size v [] ∧ Below w.heap.size w w' := by
  obtain ⟨i0, hi0, hz0, hz1, hz2⟩ := info_parts Tryz.infoInt
  by_cases h : n = 0
  · subst h
    go_enter Tryz.func134, Tryz.ntmps134
    go_wp2
    go_ret
    exact ⟨_, rfl, ⟨rfl, .inl ⟨rfl, rfl⟩⟩, Below.refl _ _⟩
  · have hold : (Builtin.firstCells i0.size 0 (.slice none 0 0)).run Tryz.prog w.drew = .ok ([] : List Value).toArray w.drew := run_firstCells_none w.drew i0.size 0 0 0
    have hrz : ∀ ty, (Builtin.append_ #[22, 3] ty #[.slice none 0 0, .int .i64 (n : Int)]).run Tryz.prog w = .ok (.slice (some ⟨w.heap.size, 0, none⟩) (0 + n) (grownCap w (0 + n) 0 3)) (w.drew.alloc (.cells (([] : List Value).toArray ++ Builtin.zeroCells (Value.int .i64 0).cells n ++ Builtin.zeroCells (Value.int .i64 0).cells (grownCap w (0 + n) 0 3 - (0 + n))) 3)) := fun ty =>
      Lib.run_append_grow_zeros w 22 3 ty 3 i0 (.int .i64 0) .i64 .i64 Tryz.underlying22 Tryz.underlying3 hi0 hz0 none 0 0 [] hold n (by omega) (by omega) (by omega) (by omega) (by rw [hz2]; omega) (growslice_fits (by omega) (by rw [hz2]; omega))
    have hGn : 0 + n ≤ grownCap w (0 + n) 0 3 := grownCap_ge w _ _ _
    have hGm := grownCap_le_maxLen w (0 + n) 0 3 (by unfold maxLen; omega)
    rw [Nat.zero_add] at hrz hGn hGm
    obtain ⟨G, hG⟩ : ∃ G, G = grownCap w n 0 3 := ⟨_, rfl⟩
    rw [← hG] at hrz hGn hGm
    have HGM := hid hGm
    have hG63 : G ≤ 9223372036854775807 := by unfold maxLen at hGm; omega
    have hn0 : (0 : Int) < (n : Int) := by omega
    clear hold hG hGm
    go_enter Tryz.func134, Tryz.ntmps134
    go_wp2_with (at_builtin; refine Lib.wpList_append_run _ rfl _ _ _ _ rfl _ _ rfl rfl _ _ (hrz _) ?_)
    go_ret
    refine ⟨_, rfl, ⟨rfl, .inr ⟨w.heap.size, G, _, rfl, Nat.le_refl _, heap_alloc_new w.drew _, Nat.zero_le _, HGM.out, ?_, by simp⟩⟩, ((Below.refl _ w).drew).alloc (Nat.le_refl _) _⟩
    simp [size_zeroCells]
    omega
theorem wpList_append_ints {w : World} {ops : Array Oper} {rest : List Oper} {o : Oper} {a : Act} {Q : Exit → Act → World → Prop} (hgd : o.guard = none) (s x : Operand)
    (ho : o.op = .call { callee := .builtin .append, args := #[s, x], argTypes := #[22, 22] }) (base : Nat) (v : Value) (xs la : List Int) (hs : a.eval s = v) (hown : RwI w base v xs) (p : Option Addr) (ca : Nat) (hx : a.eval x = .slice p la.length ca) (hi : IntS w p la) (hp : p = none → ca = 0) (hlen : xs.length + la.length ≤ 100000) (hbase : base ≤ w.heap.size)
    (h : ∀ v' w', RwI w' base v' (xs ++ la) → w.grownBy w' v.ownBlock → wpList Tryz.prog ops Q rest (a.put o.dst v') w') : wpList Tryz.prog ops Q (o :: rest) a w := by
  obtain ⟨i0, hi0, hz0, hz1, hz2⟩ := info_parts Tryz.infoInt
  cases p with
  | none =>
    have hl : la = [] := by
      cases la with
      | nil => rfl
      | cons x l => obtain ⟨g, o, e, _⟩ := hi 0 (by simp); cases e
    subst hl
    have h0 := hp rfl
    subst h0
    have h1 := h v w (by rw [List.append_nil]; exact hown) ⟨rfl, rfl, rfl, Nat.le_refl _, fun _ _ _ => rfl⟩
    exact wpList_append_own_none hgd s x 22 ho base 3 i0 1 Tryz.underlying22 hi0 v xs.length _ hs hown hx h1
  | some ad =>
    refine wpList_append_own _ hgd s x 22 ho base 3 i0 (.int .i64 0) 1 8 Tryz.underlying22 hi0 hz0 hz1 hz2 rfl (by decide) v xs.length _ hs hown ad la.length ca (la.map (Value.int .i64)) hx (by simp) ?_ ?_ (by unfold maxLen; omega) (by omega) hbase ?_
    · intro j u hj
      rw [List.getElem?_map] at hj
      cases hq : la[j]? with
      | none => rw [hq] at hj; cases hj
      | some z =>
        rw [hq] at hj
        cases hj
        obtain ⟨hj1, hj2⟩ := List.getElem?_eq_some_iff.1 hq
        obtain ⟨g, o', e, _, hc⟩ := hi j hj1
        cases e
        rw [← hj2]
        rw [Addr.add]
        by_cases h0 : j = 0
        · subst h0; simpa using hc
        · simpa [h0] using hc
    · intro u hu
      obtain ⟨z, _, rfl⟩ := List.mem_map.1 hu
      rfl
    · intro v' w' h1 h2 _
      refine h v' w' ?_ h2
      rw [RwI, List.length_append, List.map_append]
      exact h1

/-- The first so many of two lists. -/
def firstOf (la lb : List Int) (i : Nat) : List Int := if i = 0 then [] else if i = 1 then la else la ++ lb
theorem RwI.own {w : World} {B : Nat} {v : Value} {l : List Int} (h : RwI w B v l) : ∀ k, v.ownBlock = some k → B ≤ k := by
  intro k hk
  rcases h.2 with ⟨rfl, _⟩ | ⟨g, cap, cur, rfl, h2, _⟩
  · cases hk
  · cases hk
    exact h2

theorem firstOf_len {la lb : List Int} (hla : la.length ≤ 1000) (hlb : lb.length ≤ 1000) (i : Nat) : (firstOf la lb i).length ≤ 2000 := by
  rw [firstOf]
  by_cases h : i = 0
  · rw [if_pos h]; simp
  · rw [if_neg h]
    by_cases h1 : i = 1
    · rw [if_pos h1]; omega
    · rw [if_neg h1, List.length_append]; omega

set_option maxRecDepth 100000 in
set_option maxHeartbeats 800000 in
theorem slConcat_any (R : Nat) (a b : Option Addr) (ca cb : Nat) (la lb : List Int) (w : World) (hR : R < w.heap.size) (r0 : w.cell? ⟨R, 0, none⟩ = some (.slice a la.length ca)) (r1 : w.cell? ⟨R, 1, none⟩ = some (.slice b lb.length cb)) (ha : IntS w a la) (hb : IntS w b lb) (ha0 : a = none → ca = 0) (hb0 : b = none → cb = 0) (hla : la.length ≤ 1000) (hlb : lb.length ≤ 1000) :
    Calls Tryz.prog 99 #[.slice (some ⟨R, 0, none⟩) 2 2] w fun e w' => ∃ v, e = .returned v ∧ RwI w' w.heap.size v (la ++ lb) ∧ Below w.heap.size w w' := by
  have one : ∀ i, i < 2 → ∃ (p : Option Addr) (c : Nat) (l : List Int), w.cell? ⟨R, i, none⟩ = some (.slice p l.length c) ∧ IntS w p l ∧ (p = none → c = 0) ∧ l.length ≤ 1000 ∧ firstOf la lb (i + 1) = firstOf la lb i ++ l := by
    intro i hi
    by_cases h : i = 0
    · subst h
      exact ⟨a, ca, la, r0, ha, ha0, hla, by simp [firstOf]⟩
    · obtain rfl : i = 1 := by omega
      exact ⟨b, cb, lb, r1, hb, hb0, hlb, by simp [firstOf]⟩
  have HONE := hid one
  have HFL := hid (fun i => firstOf_len hla hlb i)
  have h2 : firstOf la lb 2 = la ++ lb := by simp [firstOf]
  rw [← h2]
  have hz : firstOf la lb 0 = [] := rfl
  clear one r0 r1 ha hb ha0 hb0 h2 hla hlb
  generalize firstOf la lb = F at *
  go_enter Tryz.func99, Tryz.ntmps99
  go_wp2_with fail
  go_loopw [3, 11] (fun sv iv wr => ∃ i : Nat, i ≤ 2 ∧ iv = .int .i64 i ∧ sv = .int .i64 ((F i).length : Nat) ∧ Hid (Below w.heap.size w wr)) (fun _ iv _ => 2 - (intOf iv).toNat)
  case atStart => exact ⟨0, by omega, rfl, by rw [hz]; rfl, Below.refl _ _⟩
  case round =>
    obtain ⟨i, hi, rfl, rfl, HW⟩ := hrel
    by_cases hlt : i < 2
    · obtain ⟨p, c, l, hc, hI, hp, hl, hf⟩ := HONE.out i hlt
      have hcw := (HW.out.cell (p := ⟨R, i, none⟩) hR).trans hc
      have hfl := HFL.out i
      have hw1 : IntKind.i64.wrap (((F i).length : Int) + (l.length : Int)) = ((F i).length : Int) + (l.length : Int) := by rw [IntKind.wrap_i64]; omega
      have HE : Hid (((F (i + 1)).length : Int) = ((F i).length : Int) + (l.length : Int)) := by show _ = _; rw [hf, List.length_append]; exact Int.natCast_add _ _
      have hnn : (0 : Int) ≤ ((F i).length : Int) + (l.length : Int) := by omega
      clear hf hc hp hI
      go_wp2
      go_roundw
      case rel => exact ⟨i + 1, by omega, by go_num, by rw [HE.out], HW⟩
      case measure => simp [intOf]; omega
    · obtain rfl : i = 2 := by omega
      have hfl := HFL.out 2
      go_wp2_with fail
      refine (slGrow_nil (F 2).length (by omega) _).mono ?_
      rintro e w1 ⟨v1, rfl, hr1, hb1⟩
      have HB1 := hid (HW.out.trans (hb1.mono HW.out.size))
      have HR1 : Hid (∀ b, b ≤ wr.heap.size → RwI w1 b v1 []) := fun b hb => ⟨hr1.1, hr1.2.imp id (fun ⟨g, cap, cur, h1, h2, h3⟩ => ⟨g, cap, cur, h1, Nat.le_trans hb h2, h3⟩)⟩
      have HR := hid (HR1.out w.heap.size HW.out.size)
      clear hr1 hb1 HR1
      go_wp2_with fail
      go_loopw [6, 27] (fun sv iv wr => ∃ i : Nat, i ≤ 2 ∧ iv = .int .i64 i ∧ Hid (RwI wr w.heap.size sv (F i)) ∧ Hid (Below w.heap.size w wr)) (fun _ iv _ => 2 - (intOf iv).toNat)
      case atStart => exact ⟨0, by omega, rfl, by rw [hz]; exact HR, HB1⟩
      case round =>
        obtain ⟨i, hi, rfl, HRR, HWW⟩ := hrel
        by_cases hlt : i < 2
        · obtain ⟨p, c, l, hc, hI, hp, hl, hf⟩ := HONE.out i hlt
          have hcw := (HWW.out.cell (p := ⟨R, i, none⟩) hR).trans hc
          have hfl := HFL.out i
          have HI := hid (hI.below HWW.out)
          have HP := hid hp
          have HE := hid hf
          have HOWN := hid HRR.out.own
          clear hf hc hp hI
          go_wp2_with (at_builtin; refine wpList_append_ints rfl _ _ rfl w.heap.size _ (F i) l rfl HRR.out p c rfl HI.out HP.out (by omega) HWW.out.size ?_; intro v' w2 hr2 hg2)
          have HR2 := hid hr2
          have HB2 := hid (HWW.out.grown hg2 HWW.out.size HOWN.out)
          clear hr2 hg2
          go_roundw
          case rel => exact ⟨i + 1, by omega, by go_num, by rw [HE.out]; exact HR2, HB2⟩
          case measure => simp [intOf]; omega
        · obtain rfl : i = 2 := by omega
          go_wp2
          go_ret
          exact ⟨_, rfl, HRR.out, HWW.out⟩
end Go.Proofs.YtknlhejhnopnaaaGreatDoor
