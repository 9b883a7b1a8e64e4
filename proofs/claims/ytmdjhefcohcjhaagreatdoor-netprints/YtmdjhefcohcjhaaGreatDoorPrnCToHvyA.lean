/- Rows of numbers as texts: rowText of package net; strings.Join of texts in memory. -/
import Derived.Test.YtmdjhefcohcjhaaGreatDoorTextDToPrnB
import Derived.Test.YtmdjhefcohcjhaaGreatDoorNetEOwn
import Derived.Test.YtmdjhefcohcjhaaGreatDoorStandCToSliB
namespace Go.Proofs.YtmdjhefcohcjhaaGreatDoor
open Go.RowKit Go.Shelf

theorem join_st (b : Option Addr) (c : Nat) (xs : List ByteArray) (sep : ByteArray) (w : World) (h : StS w b xs) (hc : xs.length ≤ c) (hn : xs.length ≤ 5000) (hlen : (Lib.join (xs.map (·.data.toList)) sep.data.toList).length ≤ 140737488355328) :
    Calls Tryz.prog 18 #[.slice b xs.length c, .string sep] w fun e w' => e = .returned (.string (tx (Lib.join (xs.map (·.data.toList)) (bl sep)))) ∧ Below w.heap.size w w' := by
  by_cases h0 : xs.length = 0
  · obtain rfl : xs = [] := List.length_eq_zero_iff.1 h0
    exact (Tryz.strings_Join_none b c sep w).mono fun e w' ⟨he, hw⟩ => ⟨he, hw ▸ Below.refl _ _⟩
  · obtain ⟨g, o, rfl, hg, -⟩ := h 0 (by omega)
    refine Tryz.strings_Join g o c xs sep w (fun j x hj => ?_) hg (by omega) hc hlen
    obtain ⟨hj1, hj2⟩ := List.getElem?_eq_some_iff.1 hj
    obtain ⟨g', o', e1, -, e2⟩ := h j hj1
    cases e1
    rw [e2, hj2]
theorem join_le {l : List Fr} (hw : fw l ≤ 10000) (hn : l.length ≤ 5000) : (Lib.join ((l.map ftF).map (·.data.toList)) [32]).length ≤ 600000000 := by
  by_cases h : l.map ftF = []
  · rw [h]; exact Nat.zero_le _
  · have h1 := congrArg List.length (spL_join _ h)
    have h2 := sp_small hw l.length
    rw [List.take_length] at h2
    simp only [List.length_append, List.length_cons, List.length_nil] at h1
    omega

set_option maxRecDepth 100000 in
set_option maxHeartbeats 1000000 in
theorem rowText_any (a : Option Addr) (ca : Nat) (l : List Fr) (w : World) (h : FrS w a l) (hw : fw l ≤ 10000) (hn : l.length ≤ 5000) (htab : Lib.TabIs Tryz.prog w "internal/strconv.uint64pow10" .u64 Lib.pow10Tab) :
    Calls Tryz.prog 19 #[.slice a l.length ca] w fun e w' => e = .returned (.string (tx (rowP l))) ∧ Below w.heap.size w w' := by
  obtain ⟨i0, hi0, hz0, hz1, hz2⟩ := info_parts Tryz.infoStr
  have HF := hid h
  have HW := hid hw
  have HTB := hid htab
  have HT : Hid (∀ (f : Fr), f.2.1.size + f.2.2.size ≤ 10000 → ∀ U : World, Lib.TabIs Tryz.prog U "internal/strconv.uint64pow10" .u64 Lib.pow10Tab → Calls Tryz.prog 37 #[.agg #[.bool f.1, .string f.2.1, .string f.2.2]] U fun e w' => e = .returned (.string (ftF f)) ∧ Below U.heap.size U w') := fun f hf U hU => fText_any f.1 f.2.1 f.2.2 U (by omega) hU
  have HG : Hid (∀ i (h : i < l.length), (l.map ftF)[i]? = some (ftF l[i])) := fun i h => by simp [h]
  have hsl : (l.map ftF).length = l.length := by simp
  have HJ : Hid (∀ (U : World) (G : Nat), RowS U G (l.map ftF) → Calls Tryz.prog 18 #[.slice (some ⟨G, 0, none⟩) l.length l.length, .string ⟨#[32]⟩] U fun e w' => e = .returned (.string (tx (Lib.join ((l.map ftF).map (·.data.toList)) [32]))) ∧ Below U.heap.size U w') := fun U G hR => by
    have := join_st (some ⟨G, 0, none⟩) l.length (l.map ftF) ⟨#[32]⟩ U hR.st (by omega) (by omega) (by have := join_le hw hn; exact Nat.le_trans this (by decide))
    rwa [hsl] at this
  have HJL := hid (join_le hw hn)
  have HP : Hid (tx (Lib.join ((l.map ftF).map (·.data.toList)) [32]) ++ ⟨#[32, 59, 10]⟩ = tx (rowP l)) := by
    show _ = _
    rw [tx_app]
    rfl
  have z1 : (⟨#[32, 59, 10]⟩ : ByteArray).size = 3 := rfl
  generalize tx (rowP l) = res at *
  generalize hds : l.map ftF = ds at *
  clear h hw htab hds
  go_enter Tryz.func19, Tryz.ntmps19
  go_wp2_with (first
    | (at_make; refine wpList_make_full _ rfl _ _ 31 rfl w.heap.size 9 i0 (.string ⟨#[]⟩) 1 Tryz.underlying31 hi0 hz0 hz1 .i64 .i64 _ _ l.length rfl rfl (by go_num) (by go_num) (by rw [hz2]; omega) (by unfold maxLen; omega) (Nat.le_refl _) ?_; intro w2 hown2 hgrow2))
  have hb2 := block_of_own hown2
  rw [made_strs] at hb2
  have HB2 : Hid (Below w.heap.size w w2) := (Below.refl _ w).grown hgrow2 (Nat.le_refl _) (fun k e => by cases e)
  have HI : Hid (RowS w2 w.heap.size (List.replicate l.length ⟨#[]⟩)) := hb2
  clear hown2 hgrow2 hb2
  go_wp2_with fail
  go_loopw [11] (fun iv wr => ∃ i : Nat, i ≤ l.length ∧ iv = .int .i64 i ∧ Hid (RowS wr w.heap.size (partS ds i)) ∧ Hid (Below w.heap.size w wr)) (fun iv _ => l.length - (intOf iv).toNat)
  case atStart => exact ⟨0, Nat.zero_le _, rfl, by rw [partS_zero, hsl]; exact HI, HB2⟩
  case round =>
    obtain ⟨i, hi, rfl, HR, HB⟩ := hrel
    clear HI HB2
    by_cases hlt : i < l.length
    · obtain ⟨g, o, rfl, hg, c0, c1, c2⟩ := (HF.out.below HB.out) i hlt
      have hfe := fw_each hlt HW.out
      have HTi := hid (HT.out l[i] hfe)
      obtain ⟨hd1, hd2⟩ := List.getElem?_eq_some_iff.1 (HG.out i hlt)
      have HPS := hid (partS_set ds hd1)
      rw [hd2] at HPS
      generalize ftF l[i] = T at *
      generalize l[i] = f at *
      obtain ⟨fn, fx, fy⟩ := f
      simp only at c0 c1 c2 hfe HTi
      have hbA := (Below.refl _ wr).alloc (Nat.le_refl _) (FC fn fx fy)
      obtain ⟨k0, k1, k2, -⟩ := (Box.new wr fn fx fy).facts
      have HRA := hid (HR.out.below hbA HR.out.lt)
      have HBA := hid (HB.out.trans (hbA.mono HB.out.size))
      have HTA := hid (tab_below HTB.out HBA.out)
      clear hbA hd1 hd2
      go_wp2_with fail
      generalize (wr.alloc (FC fn fx fy)) = w3 at *
      refine (HTi.out _ HTA.out).mono ?_
      rintro e w4 ⟨rfl, hb4⟩
      have hR4 := HRA.out.below hb4 HRA.out.lt
      have k4 := hR4.cell i (by rw [partS_length _ (by omega)]; omega)
      have f4 := hR4.fz i
      have hS := hR4.set i T
      rw [HPS.out] at hS
      have HS := hid hS
      have HBS := hid ((HBA.out.trans (hb4.mono HBA.out.size)).setCell (p := ⟨w.heap.size, i, none⟩) (Nat.le_refl _) (.string T))
      generalize (partS ds i)[i]'(by rw [partS_length _ (by omega)]; omega) = z at *
      clear hb4 hR4 hS k0 k1 k2 c0 c1 c2
      go_wp2
      go_roundw
      case rel => exact ⟨i + 1, by omega, by go_num, HS, HBS⟩
      case measure => simp [intOf]; omega
    · obtain rfl : i = l.length := by omega
      have hfin := HR.out
      rw [← hsl, partS_all] at hfin
      have HFI := hid hfin
      clear hfin
      go_wp2_with fail
      refine (HJ.out _ _ HFI.out).mono ?_
      rintro e w5 ⟨rfl, hb5⟩
      have HB5 := hid (HB.out.trans (hb5.mono HB.out.size))
      have hjs : (tx (Lib.join (ds.map (·.data.toList)) [32])).size ≤ 600000000 := by rw [tx_size]; exact HJL.out
      generalize tx (Lib.join (ds.map (·.data.toList)) [32]) = J at *
      clear hb5
      go_wp2
      go_ret
      exact ⟨by rw [← HP.out]; rfl, HB5.out⟩
end Go.Proofs.YtmdjhefcohcjhaaGreatDoor


/- The text of a net, as it grows. (Plain.) -/
namespace Go.Proofs.YtmdjhefcohcjhaaGreatDoor
open Go.RowKit Go.Shelf

def vsV (V : List Vr) (v : Nat) : List ByteArray := (V.getD v (⟨#[]⟩, [])).2
theorem nmV_at {V : List Vr} {v : Nat} (h : v < V.length) : nmV V v = V[v].1 := by rw [nmV, getV h]
theorem vsV_at {V : List Vr} {v : Nat} (h : v < V.length) : vsV V v = V[v].2 := by rw [vsV, getV h]
theorem getDI {L : List (List Int)} {v : Nat} (h : v < L.length) : L.getD v [] = L[v] := by rw [List.getD_eq_getElem?_getD, List.getElem?_eq_getElem h]; rfl
theorem getDF {R : List (List Fr)} {v : Nat} (h : v < R.length) : R.getD v [] = R[v] := by rw [List.getD_eq_getElem?_getD, List.getElem?_eq_getElem h]; rfl
/-- The lines of the variables, as they grow. -/
def lnS (V : List Vr) (v : Nat) : List UInt8 := (V.take v).flatMap lineL
def lnI (V : List Vr) (v i : Nat) : List UInt8 := lnS V v ++ [118, 97, 114, 32] ++ bl (nmV V v) ++ [32, 123] ++ spL ((vsV V v).take i)
theorem lnI_zero (V : List Vr) (v : Nat) : tx (lnS V v) ++ ⟨#[118, 97, 114, 32]⟩ ++ nmV V v ++ ⟨#[32, 123]⟩ = tx (lnI V v 0) := by
  rw [tx_app, tx_app, tx_app, lnI, List.take_zero]
  simp [spL, bl]
theorem lnI_succ {V : List Vr} {v i : Nat} (h : i < (vsV V v).length) : tx (lnI V v i) ++ ⟨#[32]⟩ ++ (vsV V v)[i] = tx (lnI V v (i + 1)) := by
  rw [tx_app, tx_app, lnI, lnI, List.take_succ_eq_append_getElem h, spL_snoc]
  simp [bl]
theorem lnI_last {V : List Vr} {v : Nat} (h : v < V.length) : tx (lnI V v (vsV V v).length) ++ ⟨#[32, 125, 10]⟩ = tx (lnS V (v + 1)) := by
  rw [tx_app, lnS, flat_take V lineL h, lnI, List.take_length, lineL, nmV_at h, vsV_at h, lnS]
  simp [bl]
theorem lnS_all (V : List Vr) : lnS V V.length = V.flatMap lineL := by rw [lnS, List.take_length]
/-- All lines, as they grow. -/
def S2 (V : List Vr) (L : List (List Int)) (R : List (List Fr)) (v : Nat) : List UInt8 := V.flatMap lineL ++ (List.range v).flatMap (varL V L R)
theorem S2_zero (V : List Vr) (L : List (List Int)) (R : List (List Fr)) : S2 V L R 0 = lnS V V.length := by rw [S2, lnS_all]; simp
theorem S2_all (V : List Vr) (L : List (List Int)) (R : List (List Fr)) : S2 V L R V.length = netL V L R := rfl
theorem S2_succ (V : List Vr) (L : List (List Int)) (R : List (List Fr)) (v : Nat) : S2 V L R (v + 1) = S2 V L R v ++ varL V L R v := by rw [S2, flat_range, S2, List.append_assoc]
theorem S2_more (V : List Vr) (L : List (List Int)) (R : List (List Fr)) {v n : Nat} (h : v ≤ n) : (S2 V L R v).length ≤ (S2 V L R n).length := by
  rw [S2, S2, List.length_append, List.length_append]
  have := flat_more (varL V L R) h
  omega
def nmI (V : List Vr) (L : List (List Int)) (R : List (List Fr)) (v j : Nat) : List UInt8 := S2 V L R v ++ bl (nmV V v) ++ [32, 124] ++ spL (((toN (L.getD v [])).take j).map (nmV V))
theorem nmI_zero (V : List Vr) (L : List (List Int)) (R : List (List Fr)) (v : Nat) : tx (S2 V L R v) ++ nmV V v ++ ⟨#[32, 124]⟩ = tx (nmI V L R v 0) := by
  rw [tx_app, tx_app, nmI, List.take_zero]
  simp [spL, bl]
theorem nmI_succ (V : List Vr) (L : List (List Int)) (R : List (List Fr)) {v j : Nat} (h : j < (toN (L.getD v [])).length) : tx (nmI V L R v j) ++ ⟨#[32]⟩ ++ nmV V (toN (L.getD v []))[j] = tx (nmI V L R v (j + 1)) := by
  rw [tx_app, tx_app, nmI, nmI, List.take_succ_eq_append_getElem h, List.map_append, List.map_cons, List.map_nil, spL_snoc]
  simp [bl]
def rwI (V : List Vr) (L : List (List Int)) (R : List (List Fr)) (v i : Nat) : List UInt8 := S2 V L R v ++ headL V L v ++ (List.range i).flatMap (blockL V L R v)
theorem rwI_zero (V : List Vr) (L : List (List Int)) (R : List (List Fr)) (v : Nat) : tx (nmI V L R v (L.getD v []).length) ++ ⟨#[32, 123, 10]⟩ = tx (rwI V L R v 0) := by
  rw [tx_app, nmI, rwI, headL, List.take_of_length_le (by rw [toN_length]; exact Nat.le_refl _)]
  simp [bl]
def vlI (V : List Vr) (L : List (List Int)) (R : List (List Fr)) (v i j : Nat) : List UInt8 := rwI V L R v i ++ spL (valsL V (toN (L.getD v [])) (digs (sizesN V) (toN (L.getD v [])) i) j)
theorem vlI_zero (V : List Vr) (L : List (List Int)) (R : List (List Fr)) (v i : Nat) : vlI V L R v i 0 = rwI V L R v i := by simp [vlI, valsL, spL]
theorem vlI_succ (V : List Vr) (L : List (List Int)) (R : List (List Fr)) (v i j : Nat) : tx (vlI V L R v i j) ++ ⟨#[32]⟩ ++ vlV V ((toN (L.getD v [])).getD j 0) ((digs (sizesN V) (toN (L.getD v [])) i).getD j 0) = tx (vlI V L R v i (j + 1)) := by
  rw [tx_app, tx_app, vlI, vlI, valsL_succ, spL_snoc]
  simp [bl]
theorem rwI_succ (V : List Vr) (L : List (List Int)) (R : List (List Fr)) (v i : Nat) : tx (vlI V L R v i (L.getD v []).length) ++ tx (rowL (chunkF (R.getD v []) (sz (sizesN V) v) i)) ++ ⟨#[10]⟩ = tx (rwI V L R v (i + 1)) := by
  rw [tx_app, tx_app, vlI, rwI, rwI, flat_range, blockL, bl_tx]
  simp [bl]
theorem S2_fam (V : List Vr) (L : List (List Int)) (R : List (List Fr)) {v : Nat} (h : (L.getD v []).length ≠ 0) : tx (rwI V L R v (cnt (sizesN V) (toN (L.getD v [])))) ++ ⟨#[125, 10]⟩ = tx (S2 V L R (v + 1)) := by
  rw [tx_app, rwI, S2_succ, varL, if_neg h]
  simp [bl]
theorem S2_one (V : List Vr) (L : List (List Int)) (R : List (List Fr)) {v : Nat} (h : (L.getD v []).length = 0) : tx (S2 V L R v) ++ nmV V v ++ tx (rowL (R.getD v [])) ++ ⟨#[10]⟩ = tx (S2 V L R (v + 1)) := by
  rw [tx_app, tx_app, tx_app, S2_succ, varL, if_pos h, bl_tx]
  simp [bl]
theorem rwI_more (V : List Vr) (L : List (List Int)) (R : List (List Fr)) {v i : Nat} (hv : v < V.length) (h : (L.getD v []).length ≠ 0) (hi : i ≤ cnt (sizesN V) (toN (L.getD v []))) : (rwI V L R v i).length ≤ (netL V L R).length := by
  have h1 := S2_more V L R (show v + 1 ≤ V.length by omega)
  rw [S2_all, S2_succ, varL, if_neg h] at h1
  have h2 := flat_more (blockL V L R v) hi
  simp only [rwI, List.length_append, List.length_cons, List.length_nil] at h1 ⊢
  omega
/-- How long all that is, at most. -/
structure PrS (V : List Vr) (L : List (List Int)) (R : List (List Fr)) : Prop where
  ln : ∀ v, v ≤ V.length → (lnS V v).length ≤ 208000
  lnI : ∀ v i, v < V.length → (lnI V v i).length ≤ 300000
  two : ∀ v, v ≤ V.length → (S2 V L R v).length ≤ 400000000000
  nm : ∀ v j, v < V.length → (nmI V L R v j).length ≤ 400000200000
  rw : ∀ v i, v < V.length → i ≤ cnt (sizesN V) (toN (L.getD v [])) → (rwI V L R v i).length ≤ 450000000000
  vl : ∀ v i j, v < V.length → i ≤ cnt (sizesN V) (toN (L.getD v [])) → j ≤ (L.getD v []).length → (vlI V L R v i j).length ≤ 460000000000
theorem prS_of {V : List Vr} {L : List (List Int)} {R : List (List Fr)} (hs : NSm V L R) (hok : NOK V L R) : PrS V L R := by
  have hs4 : ∀ u, sz (sizesN V) u ≤ 4 := fun u => by have := hok.fine.sz_le u; rwa [toN_iL] at this
  have h4 : ∀ x ∈ V, x.2.length ≤ 4 := fun x hx => by
    obtain ⟨i, hi, rfl⟩ := List.getElem_of_mem hx
    have := hs4 i
    rw [sz, sizesN_get hi] at this
    exact this
  have h8 := hok.n8
  have hp8 : ∀ v, (L.getD v []).length ≤ 8 := fun v => by
    by_cases h : v < L.length
    · rw [getDI h]; have := (hok.up v h).length; omega
    · rw [List.getD_eq_getElem?_getD, List.getElem?_eq_none (by omega)]; exact Nat.zero_le _
  have hc : ∀ v, cnt (sizesN V) (toN (L.getD v [])) ≤ 65536 := fun v => cnt_small hs4 (by rw [toN_length]; exact hp8 v)
  have ln : ∀ v, v ≤ V.length → (lnS V v).length ≤ 208000 := fun v hv => by
    have := flat_le (l := V.take v) (f := lineL) (m := 26000) fun x hx => line_le hs.vars (List.mem_of_mem_take hx) (h4 x (List.mem_of_mem_take hx))
    rw [List.length_take] at this
    rw [lnS]
    omega
  have blk : ∀ v i, v < V.length → i ≤ cnt (sizesN V) (toN (L.getD v [])) → ((List.range i).flatMap (blockL V L R v)).length ≤ 500000 * 65536 := fun v i hv hi => by
    have := flat_le (l := List.range i) (f := blockL V L R v) (m := 500000) fun x _ => block_le hs (by rw [hok.lenR]; exact hv) (hp8 v) (hs4 v)
    rw [List.length_range] at this
    have := hc v
    omega
  have hd : ∀ v, (headL V L v).length ≤ 60000 := fun v => head_le hs (hp8 v)
  have vr : ∀ v, v < V.length → (varL V L R v).length ≤ 40000000000 := fun v hv => by
    have hvR : v < R.length := by rw [hok.lenR]; exact hv
    rw [varL]
    split
    · have h1 := nm_size hs.vars v
      have h3 := hs.rows.2 _ (List.getElem_mem hvR)
      have h2 := row_le (l := R[v]) (by omega)
      rw [getDF hvR]
      simp only [List.length_append, List.length_cons, List.length_nil, bl_length]
      omega
    · have h1 := hd v
      have h2 := blk v _ hv (Nat.le_refl _)
      simp only [List.length_append, List.length_cons, List.length_nil]
      omega
  have two : ∀ v, v ≤ V.length → (S2 V L R v).length ≤ 400000000000 := fun v hv => by
    have h1 := flat_le (l := List.range v) (f := varL V L R) (m := 40000000000) fun x hx => vr x (by have := List.mem_range.1 hx; omega)
    have h2 := ln V.length (Nat.le_refl _)
    rw [lnS_all] at h2
    rw [List.length_range] at h1
    rw [S2, List.length_append]
    omega
  have rwb : ∀ v i, v < V.length → i ≤ cnt (sizesN V) (toN (L.getD v [])) → (rwI V L R v i).length ≤ 450000000000 := fun v i hv hi => by
    have h1 := two v (by omega)
    have h2 := hd v
    have h3 := blk v i hv hi
    rw [rwI, List.length_append, List.length_append]
    omega
  refine ⟨ln, fun v i hv => ?_, two, fun v j hv => ?_, rwb, fun v i j hv hi hj => ?_⟩
  · have h1 := ln v (by omega)
    have h2 := nm_size hs.vars v
    have h3 := spL_le (xs := (vsV V v).take i) (m := 5000) fun s h => by
      have := List.mem_of_mem_take h
      rw [vsV_at hv] at this
      exact (hs.vars.2 _ (List.getElem_mem hv)).2.2 _ this
    have h5 : ((vsV V v).take i).length ≤ 4 := by
      rw [List.length_take, vsV_at hv]
      have := h4 _ (List.getElem_mem hv)
      omega
    simp only [Go.Proofs.YtmdjhefcohcjhaaGreatDoor.lnI, List.length_append, List.length_cons, List.length_nil, bl_length]
    omega
  · have h1 := two v (by omega)
    have h2 := nm_size hs.vars v
    have h3 := nms_le hs.vars ((toN (L.getD v [])).take j)
    rw [List.length_take, toN_length] at h3
    have h5 := hp8 v
    simp only [nmI, List.length_append, List.length_cons, List.length_nil, bl_length]
    omega
  · have h1 := rwb v i hv hi
    have h2 := vals_le hs.vars (toN (L.getD v [])) (digs (sizesN V) (toN (L.getD v [])) i) j
    have h3 := hp8 v
    rw [vlI, List.length_append]
    omega
/-- What is told behind the last line. -/
theorem pr_end {V : List Vr} {L : List (List Int)} {R : List (List Fr)} {l : List UInt8} {v : Nat} (hv : v ≤ V.length) (h : l = S2 V L R v ∨ (20000 < l.length ∧ 20000 < (netL V L R).length)) (he : v = V.length ∨ 20000 < l.length) : (l.length ≤ 20000 → l = netL V L R) ∧ (20000 < l.length → 20000 < (netL V L R).length) := by
  rcases h with rfl | ⟨h1, h2⟩
  · refine ⟨fun h3 => ?_, fun h3 => ?_⟩
    · rcases he with rfl | h4
      · rfl
      · omega
    · have := S2_more V L R hv
      rw [S2_all] at this
      omega
  · exact ⟨fun h3 => by omega, fun _ => h2⟩
theorem prE_of {V : List Vr} {L : List (List Int)} {R : List (List Fr)} (h0 : netE V L R = 0) : ((netL V L R).length ≤ 20000 → prE V L R = 0 ∧ prT V L R = tx (netL V L R)) ∧ (20000 < (netL V L R).length → prE V L R = 2 ∧ prT V L R = ⟨#[]⟩) := by
  refine ⟨fun h => ⟨by rw [prE, if_pos h0, if_pos h], by rw [prT, if_pos ⟨h0, h⟩]⟩, fun h => ⟨by rw [prE, if_pos h0, if_neg (by omega)], by rw [prT, if_neg (by omega)]⟩⟩
theorem prE_bad {V : List Vr} {L : List (List Int)} {R : List (List Fr)} (h0 : netE V L R ≠ 0) : prE V L R = netE V L R ∧ prT V L R = ⟨#[]⟩ := ⟨by rw [prE, if_neg h0], by rw [prT, if_neg (fun h => h0 h.1)]⟩
end Go.Proofs.YtmdjhefcohcjhaaGreatDoor


/- The law: heavyNet: what it lets through is not too great. -/
namespace Go.Proofs.YtmdjhefcohcjhaaGreatDoor
open Go.RowKit Go.Shelf

/-- Lengths that memory allows. -/
structure NHu (V : List Vr) (L : List (List Int)) (R : List (List Fr)) : Prop where
  vars : V.length ≤ 140737488355328 ∧ ∀ x ∈ V, x.1.size ≤ 140737488355328 ∧ x.2.length ≤ 140737488355328 ∧ ∀ s ∈ x.2, s.size ≤ 140737488355328
  pars : L.length ≤ 140737488355328 ∧ ∀ l ∈ L, l.length ≤ 140737488355328
  rows : R.length ≤ 140737488355328 ∧ ∀ l ∈ R, l.length ≤ 140737488355328 ∧ ∀ f ∈ l, f.2.1.size ≤ 140737488355328 ∧ f.2.2.size ≤ 140737488355328
theorem NK.drewN {w wr : World} {x y z : Value} (h : NK w wr x y z) (k : Nat) : NK w (wr.drewN k) x y z := ⟨h.1, below_drewN h.2 k⟩
/-- Looked at so far, and light. -/
def Lit1 (V : List Vr) (v k : Nat) : Prop := k ≤ 2048 → ∀ j (h : j < V.length), j < v → V[j].1.size ≤ 2048 ∧ V[j].2.length ≤ 2048 ∧ ∀ s ∈ V[j].2, s.size ≤ 2048
def Lit2 (L : List (List Int)) (v k : Nat) : Prop := k ≤ 2048 → ∀ j (h : j < L.length), j < v → L[j].length ≤ 2048
def Lit3 (R : List (List Fr)) (v k : Nat) : Prop := k ≤ 2048 → ∀ j (h : j < R.length), j < v → R[j].length + sw R[j] ≤ 2048
/-- What heavyNet lets through. -/
structure NLi (V : List Vr) (L : List (List Int)) (R : List (List Fr)) : Prop where
  all : V.length + L.length + R.length ≤ 2048
  vars : Lit1 V V.length 0
  pars : Lit2 L L.length 0
  rows : Lit3 R R.length 0

/-- What heavyNet returns. -/
def HvR (V : List Vr) (L : List (List Int)) (R : List (List Fr)) (e : Ending) : Prop := ∃ r : Bool, e = .returned (.bool r) ∧ (r = false → NLi V L R)

set_option maxRecDepth 100000 in
set_option maxHeartbeats 4000000 in
theorem heavyNet_any (a b c : Option Addr) (ca cb cc : Nat) (V : List Vr) (L : List (List Int)) (R : List (List Fr)) (w : World) (h : NetI w a b c V L R) (hs : NHu V L R) :
    Calls Tryz.prog 4 #[.agg #[.slice a V.length ca, .slice b L.length cb, .slice c R.length cc]] w fun e w' => HvR V L R e ∧ Below w.heap.size w w' := by
  have HI := hid h
  have hV := hs.vars.1
  have hL := hs.pars.1
  have hR := hs.rows.1
  have HHU := hid hs
  clear h hs
  have HK0 := hid (NK.new w (.slice a V.length ca) (.slice b L.length cb) (.slice c R.length cc))
  obtain ⟨c0, c1, c2⟩ := HK0.out.1.cells
  have e1 : IntKind.i64.wrap ((V.length : Int) + (L.length : Int)) = (V.length : Int) + (L.length : Int) := by rw [IntKind.wrap_i64]; omega
  have e2 : IntKind.i64.wrap ((V.length : Int) + (L.length : Int) + (R.length : Int)) = (V.length : Int) + (L.length : Int) + (R.length : Int) := by rw [IntKind.wrap_i64]; omega
  go_enter Tryz.func4, Tryz.ntmps4
  go_wp2_with fail
  generalize (w.alloc (NC (.slice a V.length ca) (.slice b L.length cb) (.slice c R.length cc))) = w1 at *
  clear c0 c1 c2 e1 e2
  go_loopw [3, 4, 5] (fun kv cv iv wr => ∃ v k q : Nat, v ≤ V.length ∧ iv = .int .i64 v ∧ kv = .int .i64 k ∧ cv = .int .i64 q ∧ k ≤ 2000000000000000 ∧ q ≤ 200000000000000000 ∧ V.length + L.length + R.length ≤ k ∧ Hid (Lit1 V v k) ∧ Hid (NK w wr (.slice a V.length ca) (.slice b L.length cb) (.slice c R.length cc))) (fun _ _ iv _ => V.length - (intOf iv).toNat)
  case atStart => exact ⟨0, V.length + L.length + R.length, 1, Nat.zero_le _, rfl, by rw [Int.natCast_add, Int.natCast_add], rfl, by omega, by omega, Nat.le_refl _, fun _ j _ h => absurd h (by omega), HK0⟩
  case round =>
    obtain ⟨v, k, q, hv, rfl, rfl, rfl, hk, hq, hkk, HP, HK⟩ := hrel
    clear HK0
    obtain ⟨c0, c1, c2⟩ := HK.out.1.cells
    by_cases hgo : v < V.length ∧ k ≤ 2048 ∧ q ≤ 800
    · obtain ⟨hlt, hk2, hq8⟩ := hgo
      obtain ⟨g, o, b', c', rfl, hg, d0, d1, hSt, -⟩ := (HI.out.below HK.out.2).vars v hlt
      have hsm := HHU.out.vars.2 V[v] (List.getElem_mem hlt)
      have HNX : Hid (∀ k', k ≤ k' → (k' ≤ 2048 → V[v].1.size ≤ 2048 ∧ V[v].2.length ≤ 2048 ∧ ∀ s ∈ V[v].2, s.size ≤ 2048) → Lit1 V (v + 1) k') := fun k' h1 h2 h3 j hj hji => by
        rcases Nat.lt_or_ge j v with h4 | h4
        · exact HP.out (by omega) j hj h4
        · obtain rfl : j = v := by omega
          exact h2 h3
      have HST := hid hSt
      clear hSt
      generalize V[v] = x at *
      obtain ⟨nm, vs⟩ := x
      simp only at d0 d1 hsm HNX HST
      have hn47 := hsm.1
      have hv47 := hsm.2.1
      have HVS := hid hsm.2.2
      clear hsm
      have hw1 : IntKind.i64.wrap ((k : Int) + (nm.size : Int)) = (k : Int) + (nm.size : Int) := by rw [IntKind.wrap_i64]; omega
      have hw2 : IntKind.i64.wrap ((k : Int) + (nm.size : Int) + (vs.length : Int)) = (k : Int) + (nm.size : Int) + (vs.length : Int) := by rw [IntKind.wrap_i64]; omega
      go_upto_region 6 with fail
      go_quiet (fail)
      have HKn := hid (HK.out.drewN nq)
      have HSn : Hid (StS (wr.drewN nq) b' vs) := HST.out
      have d1' : (wr.drewN nq).cell? ⟨g, o + v * 2 + 1, none⟩ = some (.slice b' vs.length c') := d1
      clear c0 c1 c2 d0 d1 hw1 hw2 HK HST
      generalize wr.drewN nq = w2 at *
      obtain ⟨c0, c1, c2⟩ := HKn.out.1.cells
      go_wp2_with fail
      clear c0 c1 c2
      go_loopw [3, 6] (fun kv iv wq => ∃ i k' : Nat, i ≤ vs.length ∧ iv = .int .i64 i ∧ kv = .int .i64 k' ∧ k + nm.size + vs.length ≤ k' ∧ k' ≤ 1000000000000000 ∧ Hid (k' ≤ 2048 → ∀ s ∈ vs.take i, s.size ≤ 2048) ∧ wq = w2) (fun _ iv _ => vs.length - (intOf iv).toNat)
      case atStart => exact ⟨0, k + nm.size + vs.length, Nat.zero_le _, rfl, by rw [Int.natCast_add, Int.natCast_add], Nat.le_refl _, by omega, fun _ s hs' => by simp at hs', rfl⟩
      case round =>
        obtain ⟨i, k', hi, rfl, rfl, hkm, hkb, HQ, rfl⟩ := hrel
        obtain ⟨c0, c1, c2⟩ := HKn.out.1.cells
        by_cases hgo2 : i < vs.length ∧ k' ≤ 2048
        · obtain ⟨hil, hk3⟩ := hgo2
          obtain ⟨g2, o2, rfl, hg2, t1⟩ := HSn.out i hil
          have hss := HVS.out vs[i] (List.getElem_mem hil)
          have HQX : Hid (∀ k'', k' ≤ k'' → (k'' ≤ 2048 → vs[i].size ≤ 2048) → k'' ≤ 2048 → ∀ s ∈ vs.take (i + 1), s.size ≤ 2048) := fun k'' h1 h2 h3 s hs' => by
            rw [List.take_succ_eq_append_getElem hil] at hs'
            rcases List.mem_append.1 hs' with h4 | h4
            · exact HQ.out (by omega) s h4
            · rw [List.mem_singleton.1 h4]; exact h2 h3
          generalize vs[i] = s at *
          have hw3 : IntKind.i64.wrap ((k' : Int) + (s.size : Int)) = (k' : Int) + (s.size : Int) := by rw [IntKind.wrap_i64]; omega
          have HX := hid (HQX.out (k' + s.size) (by omega) (fun h => by omega))
          go_wp2
          go_roundw
          case rel => exact ⟨i + 1, k' + s.size, by omega, by go_num, by rw [Int.natCast_add], by omega, by omega, HX, trivial⟩
          case measure => simp [intOf]; omega
        · have HL1 : Hid (Lit1 V (v + 1) k') := HNX.out k' (by omega) fun h3 => ⟨by omega, by omega, fun s hs' => by
            have hil : i = vs.length := by omega
            have := HQ.out h3
            rw [hil, List.take_length] at this
            exact this s hs'⟩
          have hb1 : q * vs.length ≤ 800 * 140737488355328 := Nat.mul_le_mul hq8 hv47
          have hw4 : IntKind.i64.wrap ((q : Int) * (vs.length : Int)) = ((q * vs.length : Nat) : Int) := by
            rw [IntKind.wrap_i64, ← Int.natCast_mul]
            omega
          rcases (show vs.length ≤ i ∨ (i < vs.length ∧ 2048 < k') by omega) with h5 | ⟨h5, h6⟩
          all_goals
            clear hgo2
            by_cases hl1 : 1 < vs.length
            · generalize q * vs.length = q' at *
              go_wp2
              go_roundw
              case rel => exact ⟨v + 1, k', q', by omega, by go_num, rfl, rfl, by omega, by omega, by omega, HL1, HKn⟩
              case measure => simp [intOf]; omega
            · clear hb1 hw4
              go_wp2
              go_roundw
              case rel => exact ⟨v + 1, k', q, by omega, by go_num, rfl, rfl, by omega, by omega, by omega, HL1, HKn⟩
              case measure => simp [intOf]; omega
    · have HLX : Hid (k ≤ 2048 → q ≤ 800 → Lit1 V V.length 0) := fun h1 h2 _ j hj _ => HP.out h1 j hj (by omega)
      rcases (show V.length ≤ v ∨ (v < V.length ∧ 2048 < k) ∨ (v < V.length ∧ k ≤ 2048 ∧ 800 < q) by omega) with h5 | ⟨h5, h6⟩ | ⟨h5, h6, h7⟩
      all_goals
        clear hgo
        go_wp2_with fail
        clear c0 c1 c2
        go_loopw [3, 7] (fun kv iv wq => ∃ j k2 : Nat, j ≤ L.length ∧ iv = .int .i64 j ∧ kv = .int .i64 k2 ∧ k ≤ k2 ∧ k2 ≤ 3000000000000000 ∧ Hid (Lit2 L j k2) ∧ wq = wr) (fun _ iv _ => L.length - (intOf iv).toNat)
        case atStart => exact ⟨0, k, Nat.zero_le _, rfl, rfl, Nat.le_refl _, by omega, fun _ j _ h => absurd h (by omega), rfl⟩
        case round =>
          obtain ⟨j, k2, hj, rfl, rfl, hkm, hkb, HP2, rfl⟩ := hrel
          obtain ⟨c0, c1, c2⟩ := HK.out.1.cells
          by_cases hgo2 : j < L.length ∧ k2 ≤ 2048
          · try (exfalso; omega)
            all_goals
              obtain ⟨hjl, hk3⟩ := hgo2
              obtain ⟨g, o, b', c', rfl, hg, d1, -⟩ := (HI.out.below HK.out.2).pars j hjl
              have hll := HHU.out.pars.2 L[j] (List.getElem_mem hjl)
              have HNX : Hid (∀ k', k2 ≤ k' → (k' ≤ 2048 → L[j].length ≤ 2048) → Lit2 L (j + 1) k') := fun k' h1 h2 h3 i hi hji => by
                rcases Nat.lt_or_ge i j with h4 | h4
                · exact HP2.out (by omega) i hi h4
                · obtain rfl : i = j := by omega
                  exact h2 h3
              generalize L[j] = l at *
              have hw3 : IntKind.i64.wrap ((k2 : Int) + (l.length : Int)) = (k2 : Int) + (l.length : Int) := by rw [IntKind.wrap_i64]; omega
              have HX := hid (HNX.out (k2 + l.length) (by omega) (fun h => by omega))
              go_wp2
              go_roundw
              case rel => exact ⟨j + 1, k2 + l.length, by omega, by go_num, by rw [Int.natCast_add], by omega, by omega, HX, trivial⟩
              case measure => simp [intOf]; omega
          · have HLX2 : Hid (k2 ≤ 2048 → Lit2 L L.length 0) := fun h1 _ i hi _ => HP2.out h1 i hi (by omega)
            rcases (show L.length ≤ j ∨ (j < L.length ∧ 2048 < k2) by omega) with g5 | ⟨g5, g6⟩
            all_goals
              clear hgo2
              go_wp2_with fail
              clear c0 c1 c2
              go_loopw [3, 8] (fun kv iv wq => ∃ j3 k3 : Nat, j3 ≤ R.length ∧ iv = .int .i64 j3 ∧ kv = .int .i64 k3 ∧ k2 ≤ k3 ∧ k3 ≤ 5000000000000000 ∧ Hid (Lit3 R j3 k3) ∧ Hid (NK w wq (.slice a V.length ca) (.slice b L.length cb) (.slice c R.length cc))) (fun _ iv _ => R.length - (intOf iv).toNat)
              case atStart => exact ⟨0, k2, Nat.zero_le _, rfl, rfl, Nat.le_refl _, by omega, fun _ j _ h => absurd h (by omega), HK⟩
              case round =>
                obtain ⟨j3, k3, hj3, rfl, rfl, hkm3, hkb3, HP3, HK3⟩ := hrel
                obtain ⟨c0, c1, c2⟩ := HK3.out.1.cells
                by_cases hgo3 : j3 < R.length ∧ k3 ≤ 2048
                · try (exfalso; omega)
                  all_goals
                    obtain ⟨hjl, hk3⟩ := hgo3
                    obtain ⟨g, o, b', c', rfl, hg, d1, hrf, -⟩ := (HI.out.below HK3.out.2).rows j3 hjl
                    have hll := HHU.out.rows.2 R[j3] (List.getElem_mem hjl)
                    have HNX : Hid (∀ k', k3 ≤ k' → (k' ≤ 2048 → R[j3].length + sw R[j3] ≤ 2048) → Lit3 R (j3 + 1) k') := fun k' h1 h2 h3 i hi hji => by
                      rcases Nat.lt_or_ge i j3 with h4 | h4
                      · exact HP3.out (by omega) i hi h4
                      · obtain rfl : i = j3 := by omega
                        exact h2 h3
                    have HRF := hid hrf
                    have HLL := hid hll
                    clear hrf hll
                    generalize R[j3] = l at *
                    go_wp2_with fail
                    refine (fracBytes_any b' c' l _ HRF.out HLL.out.1 HLL.out.2).mono ?_
                    rintro e w5 ⟨⟨r, rfl, hr1, hr2⟩, hb5⟩
                    have HK5 := hid (HK3.out.step hb5)
                    have hw3 : IntKind.i64.wrap ((k3 : Int) + (r : Int)) = (k3 : Int) + (r : Int) := by rw [IntKind.wrap_i64]; omega
                    have HX := hid (HNX.out (k3 + r) (by omega) (fun h => by have := hr2 (by omega); omega))
                    clear hb5 c0 c1 c2 d1 hr2
                    go_wp2
                    go_roundw
                    case rel => exact ⟨j3 + 1, k3 + r, by omega, by go_num, by rw [Int.natCast_add], by omega, by omega, HX, HK5⟩
                    case measure => simp [intOf]; omega
                · have HLX3 : Hid (k3 ≤ 2048 → Lit3 R R.length 0) := fun h1 _ i hi _ => HP3.out h1 i hi (by omega)
                  have HFIN : Hid (k3 ≤ 2048 → q ≤ 800 → NLi V L R) := fun h1 h2 => ⟨by omega, HLX.out (by omega) h2, HLX2.out (by omega), HLX3.out h1⟩
                  rcases (show R.length ≤ j3 ∨ (j3 < R.length ∧ 2048 < k3) by omega) with f5 | ⟨f5, f6⟩
                  all_goals
                    clear hgo3
                    by_cases hk9 : 2048 < k3
                    · try (exfalso; omega)
                      all_goals
                        go_wp2
                        go_ret
                        exact ⟨⟨true, rfl, fun h => by cases h⟩, HK3.out.2⟩
                    · by_cases hq9 : 800 < q
                      · try (exfalso; omega)
                        all_goals
                          have hq10 : (800 : Int) < (q : Int) := by omega
                          have hk10 : (k3 : Int) ≤ 2048 := by omega
                          clear hk9
                          go_wp2
                          go_ret
                          exact ⟨⟨_, rfl, fun h => absurd h (by simp)⟩, HK3.out.2⟩
                      · try (exfalso; omega)
                        all_goals
                          have HN := hid (HFIN.out (by omega) (by omega))
                          have hk10 : (k3 : Int) ≤ 2048 := by omega
                          clear hk9
                          go_wp2
                          go_ret
                          exact ⟨⟨_, rfl, fun _ => HN.out⟩, HK3.out.2⟩
end Go.Proofs.YtmdjhefcohcjhaaGreatDoor

