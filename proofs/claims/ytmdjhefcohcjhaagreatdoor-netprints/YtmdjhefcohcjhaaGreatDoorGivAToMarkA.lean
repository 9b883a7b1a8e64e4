/- Nets: Given of the document's answer. -/
import Derived.Test.YtmdjhefcohcjhaaGreatDoorRtEToTextC
import Derived.Test.YtmdjhefcohcjhaaGreatDoorLikAToSwapT
import Derived.Test.YtmdjhefcohcjhaaGreatDoorStandCToSliB
import Derived.Test.YtmdjhefcohcjhaaGreatDoorAsgBOwn
import Derived.ArgAppend
import Derived.Laws.EntriesVeiled
import Derived.Test.YtmdjhefcohcjhaaGreatDoorNetEOwn
import Derived.Test.YtmdjhefcohcjhaaGreatDoorNameCToRoundA
import Derived.Test.YtmdjhefcohcjhaaGreatDoorRtBToNetD
import Derived.Test.YtmdjhefcohcjhaaGreatDoorAsgAToStandB
namespace Go.Proofs.YtmdjhefcohcjhaaGreatDoor
open Go.RowKit Go.Shelf

/-- A variable and what it hangs on. -/
def gU (L : List (List Int)) (v : Nat) : List Int := togL (L.getD v []) [(v : Int)]
/-- Given's cells. -/
def gL (V : List Vr) (L : List (List Int)) (R : List (List Fr)) (v : Nat) : List Fr := (List.range (cnt (sizesN V) (toN (gU L v)))).map fun K => qF (frQ (likF V L R (asg (sizesN V) (toN (gU L v)) K) v))
theorem up_one {v n : Nat} (h : v < n) : Up [(v : Int)] n := up_iff.2 ⟨fun x hx => by have := List.mem_singleton.1 hx; omega, List.pairwise_singleton _ _⟩
theorem inB_one (i v : Nat) : inB (i : Int) [(v : Int)] = ((i : Int) == (v : Int)) := by
  rw [Bool.eq_iff_iff, inB_mem, beq_iff_eq]
  simp
end Go.Proofs.YtmdjhefcohcjhaaGreatDoor


/- Nets: what Given of package net stands on. -/
namespace Go.Proofs.YtmdjhefcohcjhaaGreatDoor
open Go.RowKit Go.Shelf

theorem cnt_perm {S : List Nat} {a b : List Nat} (h : a.Perm b) : cnt S a = cnt S b := by
  induction h with
  | nil => rfl
  | cons x _ ih => simp only [cnt, ih]
  | swap x y l => simp only [cnt]; rw [Nat.mul_left_comm]
  | trans _ _ h1 h2 => exact h1.trans h2
theorem noSelf_of {L : List (List Int)} {V : List Vr} {R : List (List Fr)} (h : netE V L R = 0) {v : Nat} (hv : v < L.length) : ¬ v ∈ toN L[v] := by
  rw [netE] at h
  by_cases h1 : L.length = V.length ∧ R.length = V.length
  · rw [if_pos h1] at h
    by_cases h2 : gcE L = 0
    · rw [gcE] at h2
      by_cases h3 : gB L = true
      · rw [gB, Bool.and_eq_true, Bool.and_eq_true, noSelf, List.all_eq_true] at h3
        have := h3.2 v (List.mem_range.2 hv)
        rw [List.getD_eq_getElem?_getD, List.getElem?_eq_getElem hv] at this
        simpa using this
      · rw [if_neg h3] at h2; cases h2
    · rw [if_neg h2] at h; exact absurd h h2
  · rw [if_neg h1] at h; cases h
/-- The variable and what it hangs on, put in order. -/
theorem sort_gU {L : List (List Int)} {v n : Nat} (hvL : v < L.length) (hup : Up L[v] n) (hno : ¬ v ∈ toN L[v]) : (([(v : Int)] ++ L[v]).mergeSort fun x y => decide (x ≤ y)) = gU L v := by
  have eLv : L.getD v [] = L[v] := by rw [List.getD_eq_getElem?_getD, List.getElem?_eq_getElem hvL]; rfl
  obtain ⟨h1, h2⟩ := togL_rise L[v] [(v : Int)]
  rw [gU, eLv]
  have hnv : ¬ (v : Int) ∈ L[v] := fun h => hno (by rw [toN]; exact List.mem_map.2 ⟨_, h, Int.toNat_natCast v⟩)
  have hp : (([(v : Int)] ++ L[v]).mergeSort fun x y => decide (x ≤ y)).Pairwise (fun x y => decide (x ≤ y) = true) := List.pairwise_mergeSort (fun a b c h1 h2 => by simp at h1 h2 ⊢; omega) (fun a b => by simp; omega) _
  have hn0 : ([(v : Int)] ++ L[v]).Nodup := by
    rw [List.singleton_append, List.nodup_cons]
    exact ⟨hnv, (up_iff.1 hup).2.imp fun h => by omega⟩
  have hn : (([(v : Int)] ++ L[v]).mergeSort fun x y => decide (x ≤ y)).Nodup := (List.mergeSort_perm _ _).nodup_iff.2 hn0
  refine rise_extI ?_ h1 fun x => ?_
  · rw [List.pairwise_iff_getElem]
    intro i j hi hj hij
    have q1 := List.pairwise_iff_getElem.1 hp i j hi hj hij
    have q2 := List.pairwise_iff_getElem.1 hn i j hi hj hij
    have q1' := of_decide_eq_true q1
    omega
  · rw [List.mem_mergeSort, h2, List.mem_append]
    exact Or.comm
theorem cnt_gU {L : List (List Int)} {v n : Nat} (S : List Nat) (hvL : v < L.length) (hup : Up L[v] n) (hno : ¬ v ∈ toN L[v]) : cnt S (toN (gU L v)) = cnt S (toN L[v]) * sz S v := by
  rw [← sort_gU hvL hup hno]
  have h : (([(v : Int)] ++ L[v]).mergeSort fun x y => decide (x ≤ y)).Perm ([(v : Int)] ++ L[v]) := List.mergeSort_perm _ _
  have h2 := cnt_perm (S := S) (h.map Int.toNat)
  rw [toN, h2, List.map_append, List.map_cons, List.map_nil, List.singleton_append, cnt, Int.toNat_natCast, Nat.mul_comm]
  rfl
/-- Values are written over others, one by one. -/
def mixF (A f : Nat → Nat) (vs : List Nat) (i : Nat) : Nat → Nat := fun u => if u ∈ vs.take i then f u else A u
theorem mixF_zero (A f : Nat → Nat) (vs : List Nat) : mixF A f vs 0 = A := by funext u; simp [mixF]
theorem mixF_succ (A f : Nat → Nat) {vs : List Nat} (n : Nat) {i : Nat} (h : i < vs.length) : (spr n (mixF A f vs i)).set vs[i] (f vs[i]) = spr n (mixF A f vs (i + 1)) := by
  rw [spr_set]
  refine spr_congr fun u _ => ?_
  rw [withV, mixF, mixF, List.take_succ_eq_append_getElem h]
  by_cases e : u = vs[i]
  · rw [if_pos e, if_pos (List.mem_append.2 (.inr (List.mem_singleton.2 e))), e]
  · rw [if_neg e]
    by_cases e2 : u ∈ vs.take i
    · rw [if_pos e2, if_pos (List.mem_append.2 (.inl e2))]
    · rw [if_neg e2, if_neg (fun hh => by rcases List.mem_append.1 hh with hh | hh; exact e2 hh; exact e (List.mem_singleton.1 hh))]
theorem mixF_all {A f : Nat → Nat} {vs : List Nat} (hA : ∀ u, ¬ u ∈ vs → A u = 0) (hf : ∀ u, ¬ u ∈ vs → f u = 0) : mixF A f vs vs.length = f := by
  funext u
  rw [mixF, List.take_length]
  by_cases e : u ∈ vs
  · rw [if_pos e]
  · rw [if_neg e, hA u e, hf u e]
end Go.Proofs.YtmdjhefcohcjhaaGreatDoor


/- Nets: what Given of package net does to memory. -/
namespace Go.Proofs.YtmdjhefcohcjhaaGreatDoor
open Go.RowKit Go.Shelf Go.Sort Go.Lib

theorem src_ints {w : World} {ad : Addr} {la : List Int} (hi : IntS w (some ad) la) : ∀ j u, (la.map (Value.int .i64))[j]? = some u → w.cell? (ad.add j) = some u := by
  intro j u hj
  rw [List.getElem?_map] at hj
  cases hq : la[j]? with
  | none => rw [hq] at hj; cases hj
  | some z =>
    rw [hq] at hj
    cases hj
    obtain ⟨hj1, hj2⟩ := List.getElem?_eq_some_iff.1 hq
    obtain ⟨g, o', e, _, hc⟩ := hi j hj1
    cases e
    rw [← hj2]
    rw [Addr.add]
    by_cases h0 : j = 0
    · subst h0; simpa using hc
    · simpa [h0] using hc
theorem holds_row {w : World} {g : Nat} {cs : Array Value} {l : List Int} (h : w.heap[g]? = some (.cells cs 3 (0, 0))) (hl : ∀ j (hj : j < l.length), cs[j]? = some (.int .i64 l[j])) : Holds (Value.int .i64) w g 0 l.toArray := fun j hj => by
  have hj' : j < l.length := by simpa using hj
  refine ⟨?_, frozen_of_row w g (0 + j) _ _ h⟩
  rw [Nat.zero_add, cell_of_row w g j _ _ (0, 0) h, hl j hj', getElem!_pos l.toArray j hj]
  simp
/-- One that lies in memory of its own, and a list behind it. -/
theorem wp_append_one {w : World} {o : Oper} {a : Act} {K : Act → World → Prop} {Q : Exit → Act → World → Prop} (s x : Operand)
    (ho : o.op = .call { callee := .builtin .append, args := #[s, x], argTypes := #[34, 34] }) (gb : Nat) (z : Int) (la : List Int) (hs : a.eval s = .slice (some ⟨gb, 0, none⟩) 1 1) (hown : w.heap[gb]? = some (.cells #[.int .i64 z] 3 (0, 0))) (p : Option Addr) (ca : Nat) (hx : a.eval x = .slice p la.length ca) (hi : IntS w p la) (hp : p = none → ca = 0) (hlen : la.length ≤ 100000)
    (h : ∀ D cap w', (D = gb ∨ w.heap.size ≤ D) → D < w'.heap.size → Holds (Value.int .i64) w' D 0 ([z] ++ la).toArray → w.grownBy w' (some gb) → K (a.put o.dst (.slice (some ⟨D, 0, none⟩) ([z] ++ la).length cap)) w') : o.wp Tryz.prog a w K Q := by
  obtain ⟨i0, hi0, hz0, hz1, hz2⟩ := info_parts Tryz.infoInt
  have hgb : gb < w.heap.size := (Array.getElem?_eq_some_iff.1 hown).1
  have hone : Holds (Value.int .i64) w gb 0 ([z] ++ []).toArray := holds_row hown fun j hj => by
    have : j = 0 := by simp at hj; omega
    subst this
    rfl
  have hnil : ∀ (hla : la = []), K (a.put o.dst (.slice (some ⟨gb, 0, none⟩) 1 1)) w := fun hla => by
    subst hla
    exact h gb 1 w (.inl rfl) hgb hone ⟨rfl, rfl, rfl, Nat.le_refl _, fun _ _ _ => rfl⟩
  cases p with
  | none =>
    have hl : la = [] := by
      cases la with
      | nil => rfl
      | cons x l => obtain ⟨g, o, e, _⟩ := hi 0 (by simp); cases e
    have h0 := hp rfl
    have hk := hnil hl
    subst hl h0
    have hrow : w.ownsRow gb 3 1 (.slice (some ⟨gb, 0, none⟩) 1 1) 1 [.int .i64 z] := ⟨rfl, .inr ⟨gb, 1, _, rfl, Nat.le_refl _, hown, Nat.le_refl _, by unfold maxLen; omega, rfl, rfl⟩⟩
    have hrun := run_append_owned_none (P := Tryz.prog) (w := w) gb 34 o.type 3 i0 1 Tryz.underlying34 hi0 (.slice (some ⟨gb, 0, none⟩) 1 1) 1 _ hrow
    unfold Oper.wp
    simp [execOp, ho, resolve, invoke, builtin, hs, hx, hrun, Result.andThen]
    exact hk
  | some ad =>
    have hnews := src_ints hi
    have hl : (la.map (Value.int .i64)).length = la.length * i0.size := by rw [hz1]; simp
    by_cases hla : la = []
    · have hk := hnil hla
      subst hla
      have hrun := run_append_room_cells (P := Tryz.prog) (w := w) 34 o.type 3 i0 Tryz.underlying34 hi0 gb 0 1 1 ad 0 ca [] (by simp) (by simp) (by simp) (Nat.le_refl _) (by simp) (by simp)
      unfold Oper.wp execOp
      simp only [ho, resolve, invoke, builtin, Sem.run_bind, Sem.run_pure, Result.andThen_ok, List.map_toArray, List.map_cons, List.map_nil, hs, hx, List.length_nil, hrun]
      exact hk
    · have hpos : 0 < la.length := List.length_pos_iff.2 hla
      have hrun := run_append_grow (P := Tryz.prog) w 34 o.type 3 i0 (.int .i64 0) Tryz.underlying34 hi0 hz0 ⟨gb, 0, none⟩ 1 1 [.int .i64 z] (by rw [hz1]; rfl) (fun j u hj => by
        match j, hj with
        | 0, hj => cases hj; rw [show (⟨gb, 0, none⟩ : Addr).add 0 = ⟨gb, 0, none⟩ from rfl, cell_of_row w gb 0 _ _ (0, 0) hown]; rfl
        | j + 1, hj => simp at hj) ad la.length ca (la.map (Value.int .i64)) hl hnews (by omega) (by omega) (growslice_fits (by omega) (by rw [hz2]; omega))
      unfold Oper.wp execOp
      simp only [ho, resolve, invoke, builtin, Sem.run_bind, Sem.run_pure, Result.andThen_ok, List.map_toArray, List.map_cons, List.map_nil, hs, hx, hrun]
      have hh := h w.heap.size (grownCap w (1 + la.length) 1 3) (w.drew.alloc (.cells ([Value.int .i64 z].toArray ++ (la.map (Value.int .i64)).toArray ++ Builtin.zeroCells (Value.int .i64 0).cells (grownCap w (1 + la.length) 1 3 - (1 + la.length))) 3)) (.inr (Nat.le_refl _)) (by simp) ?_ ⟨rfl, rfl, rfl, by simp, fun _ hk _ => Below.heap_alloc w.drew _ _ hk⟩
      · have e : ([z] ++ la).length = 1 + la.length := by simp; omega
        rw [e] at hh
        exact hh
      · refine holds_row (heap_alloc_new w.drew _) fun j hj => ?_
        rw [Array.getElem?_append_left (by simp at hj ⊢; omega)]
        simp only [List.append_toArray, List.getElem?_toArray]
        rw [show [Value.int .i64 z] ++ la.map (Value.int .i64) = ([z] ++ la).map (Value.int .i64) by simp, List.getElem?_map, List.getElem?_eq_getElem hj]
        rfl
theorem IntS.far {w : World} {g o : Nat} {l : List Int} (h : IntS w (some ⟨g, o, none⟩) l) (b j : Nat) (y : Value) (hne : g ≠ b) : IntS (w.setCell ⟨b, j, none⟩ y) (some ⟨g, o, none⟩) l := fun k hk => by
  obtain ⟨g', o', e, h2, h3⟩ := h k hk
  cases e
  exact ⟨g, o, rfl, by simpa using h2, (World.cell?_setCell_other _ _ _ _ (fun e => hne (by cases e; rfl))).trans h3⟩
end Go.Proofs.YtmdjhefcohcjhaaGreatDoor


/- Nets: all, Joint of package net (of a contract of Check). -/
namespace Go.Proofs.YtmdjhefcohcjhaaGreatDoor
open Go.RowKit Go.Shelf

theorem range_part (n i : Nat) (h : i < n) : (List.range n)[i]? = some i := by rw [List.getElem?_range h]
end Go.Proofs.YtmdjhefcohcjhaaGreatDoor


/- Nets: Given of package net (of a contract of Check). -/
namespace Go.Proofs.YtmdjhefcohcjhaaGreatDoor
open Go.RowKit Go.Shelf

end Go.Proofs.YtmdjhefcohcjhaaGreatDoor


/- Nets: Given of the document's answer: what is refused. -/
namespace Go.Proofs.YtmdjhefcohcjhaaGreatDoor
open Go.RowKit Go.Shelf

end Go.Proofs.YtmdjhefcohcjhaaGreatDoor


/- Nets: Check of package net (of a contract of checkRows). -/
namespace Go.Proofs.YtmdjhefcohcjhaaGreatDoor
open Go.RowKit Go.Shelf

set_option maxRecDepth 100000 in
set_option maxHeartbeats 1000000 in
theorem nCheck_any (a b c : Option Addr) (ca cb cc : Nat) (V : List Vr) (L : List (List Int)) (R : List (List Fr)) (w : World) (h : NetI w a b c V L R) (hs : NSm V L R)
    (hCR : L.length = V.length → R.length = V.length → gcE L = 0 → varsE V = 0 → ∀ U : World, NetI U a b c V L R → Calls Tryz.prog 17 #[.agg #[.slice a V.length ca, .slice b L.length cb, .slice c R.length cc]] U fun e w' => e = .returned (.int .i64 (firstE (rowE (sizesN V) L R) V.length)) ∧ Below U.heap.size U w') :
    Calls Tryz.prog 8 #[.agg #[.slice a V.length ca, .slice b L.length cb, .slice c R.length cc]] w fun e w' => e = .returned (.int .i64 (netE V L R)) ∧ Below w.heap.size w w' := by
  have HI := hid h
  have hV5 := hs.vars.1
  have hL5 := hs.pars.1
  have hR5 := hs.rows.1
  have HN8 : Hid (¬ (L.length = V.length ∧ R.length = V.length) → netE V L R = 8) := fun h => if_neg h
  have HNG : Hid (L.length = V.length → R.length = V.length → gcE L ≠ 0 → netE V L R = gcE L) := fun h1 h2 h3 => by rw [netE, if_pos ⟨h1, h2⟩, if_neg h3]
  have HNV : Hid (L.length = V.length → R.length = V.length → gcE L = 0 → varsE V ≠ 0 → netE V L R = varsE V) := fun h1 h2 h3 h4 => by rw [netE, if_pos ⟨h1, h2⟩, if_pos h3, if_neg h4]
  have HNR : Hid (L.length = V.length → R.length = V.length → gcE L = 0 → varsE V = 0 → netE V L R = firstE (rowE (sizesN V) L R) V.length) := fun h1 h2 h3 h4 => by rw [netE, if_pos ⟨h1, h2⟩, if_pos h3, if_pos h4]
  have HGC := hid (fun (U : World) (hU : LsS U b L) => gCheck_any b cb L U hU (fun l hl => by have := hs.pars.2 l hl; omega))
  have HVC := hid (fun (U : World) (hU : VsS U a V) => checkVars_any a ca V U hU hs.vars)
  have HCR := hid hCR
  generalize netE V L R = ne at *
  clear h hs hCR
  have HK0 := hid (NK.new w (.slice a V.length ca) (.slice b L.length cb) (.slice c R.length cc))
  obtain ⟨c0, c1, c2⟩ := HK0.out.1.cells
  by_cases hLV : L.length = V.length
  · by_cases hRV : R.length = V.length
    · have hlv : ((L.length : Int) != (V.length : Int)) = false := by rw [hLV]; simp
      have hrv : ((R.length : Int) != (V.length : Int)) = false := by rw [hRV]; simp
      have HNG' := hid (HNG.out hLV hRV)
      have HNV' := hid (HNV.out hLV hRV)
      have HNR' := hid (HNR.out hLV hRV)
      have HCR' := hid (HCR.out hLV hRV)
      clear hLV hRV HN8 HNG HNV HNR HCR
      generalize firstE (rowE (sizesN V) L R) V.length = fe at *
      generalize gcE L = ge at *
      generalize varsE V = ve at *
      go_enter Tryz.func8, Tryz.ntmps8
      go_wp2_with fail
      generalize (w.alloc (NC (.slice a V.length ca) (.slice b L.length cb) (.slice c R.length cc))) = w1 at *
      refine (HGC.out _ (HI.out.below HK0.out.2).pars).mono ?_
      rintro e w2 ⟨rfl, hb⟩
      have hK := HK0.out.step hb
      clear hb HK0 c0 c1 c2 hlv hrv HGC
      obtain ⟨c0, c1, c2⟩ := hK.1.cells
      by_cases hg : ge = 0
      · subst hg
        have HNV2 := hid (HNV'.out rfl)
        have HNR2 := hid (HNR'.out rfl)
        have HCR2 := hid (HCR'.out rfl)
        have HK := hid hK
        clear HNG' HNV' HNR' HCR' hK
        go_wp2_with fail
        refine (HVC.out _ (HI.out.below HK.out.2).vars).mono ?_
        rintro e w3 ⟨rfl, hb⟩
        have hK := HK.out.step hb
        clear hb HK c0 c1 c2 HVC
        obtain ⟨c0, c1, c2⟩ := hK.1.cells
        by_cases hv : ve = 0
        · subst hv
          have HQ := hid (HNR2.out rfl)
          have HCR3 := hid (HCR2.out rfl)
          have HK := hid hK
          clear HNV2 HNR2 HCR2 hK
          go_wp2_with fail
          refine (HCR3.out _ (HI.out.below HK.out.2)).mono ?_
          rintro e w4 ⟨rfl, hb⟩
          have hK := HK.out.step hb
          clear c0 c1 c2 hb
          go_wp2
          go_ret
          exact ⟨by rw [HQ.out]; rfl, hK.2⟩
        · have HQ := hid (HNV2.out hv)
          have hvb : (ve == 0) = false := by simpa using hv
          clear hv HNV2 HNR2 HCR2 c0 c1 c2
          go_wp2
          go_ret
          exact ⟨by rw [HQ.out]; rfl, hK.2⟩
      · have HQ := hid (HNG'.out hg)
        have hgb : (ge == 0) = false := by simpa using hg
        clear hg HNG' HNV' HNR' HCR' c0 c1 c2
        go_wp2
        go_ret
        exact ⟨by rw [HQ.out]; rfl, hK.2⟩
    · have HQ := hid (HN8.out fun h => hRV h.2)
      have hlv : ((L.length : Int) != (V.length : Int)) = false := by rw [hLV]; simp
      have hrv : ((R.length : Int) != (V.length : Int)) = true := by
        have : ¬ (R.length : Int) = (V.length : Int) := by omega
        simpa using this
      clear hLV hRV HN8 HCR
      go_enter Tryz.func8, Tryz.ntmps8
      go_wp2
      go_ret
      exact ⟨by rw [HQ.out]; rfl, HK0.out.2⟩
  · have HQ := hid (HN8.out fun h => hLV h.1)
    have hlv : ((L.length : Int) != (V.length : Int)) = true := by
      have : ¬ (L.length : Int) = (V.length : Int) := by omega
      simpa using this
    clear hLV HN8 HCR
    go_enter Tryz.func8, Tryz.ntmps8
    go_wp2
    go_ret
    exact ⟨by rw [HQ.out]; rfl, HK0.out.2⟩
end Go.Proofs.YtmdjhefcohcjhaaGreatDoor


/- slices.Chunk over a slice of fractions: what a loop over it may lean on. -/
namespace Go.Proofs.YtmdjhefcohcjhaaGreatDoor
open Go.RowKit Go.Shelf

attribute [local go_sem] Oper.semAt_some

/-- What a round must keep: the iterator's two boxes, and all that lay below B. -/
def KeepsC (Bs Bk B : Nat) (V V' : World) : Prop := KeepsBox Bs V V' ∧ KeepsBox Bk V V' ∧ Below B V V'
theorem KeepsC.t {Bs Bk B : Nat} {X Y Z : World} (h : KeepsC Bs Bk B X Y) (k : KeepsC Bs Bk B Y Z) : KeepsC Bs Bk B X Z := ⟨h.1.t k.1, h.2.1.t k.2.1, h.2.2.trans k.2.2⟩
theorem KeepsC.b {Bs Bk B : Nat} {w : World} (hs : Bs < w.heap.size) (hk : Bk < w.heap.size) (hB : B ≤ w.heap.size) (V : World) (l : Nat) (o o' : Obj) (hl : w.heap.size ≤ l) (h1 : V.heap[l]? = some o) (h2 : o.isCells = false) (h3 : o.isWalk = false) : KeepsC Bs Bk B V (V.putObj l o') :=
  ⟨KeepsBox.b hs V l o o' hl h1 h2 h3, KeepsBox.b hk V l o o' hl h1 h2 h3, belowK_b hB V l o o' hl h1 h2 h3⟩
theorem grown_drew (w : World) : w.grownBy w.drew none := ⟨rfl, rfl, rfl, Nat.le_refl _, fun _ _ _ => rfl⟩
abbrev CAt (N : Nat) : Type := { i : Nat // i < N }
abbrev chV (gf of_ k N : Nat) (x : CAt N) : Array Value := #[.slice (some ⟨gf, of_ + x.1 * k * 3, none⟩) k k]

set_option maxRecDepth 100000 in
set_option maxHeartbeats 1000000 in
theorem chunk1_in (n : Nat) (hn : 1 ≤ n) (l Bs Bk B gf of_ cap k N T : Nat) (hT : T = N * k) (hk : 1 ≤ k) (hk4 : k ≤ 4) (hN : N ≤ 65536) (hcap : T ≤ cap) (J Jx : List (CAt N) → World → Prop) (hD : ∀ pre V, J pre V → J pre V.drew)
    (hY : ∀ pre x V, J pre V → pre.length < N → YieldAt Fence.wide (n - 1) Tryz.prog l (chV gf of_ k N x) V fun e V' =>
      (e = .returned (.bool true) ∧ J (pre ++ [x]) V' ∧ KeepsC Bs Bk B V V') ∨ (e = .returned (.bool false) ∧ Jx (pre ++ [x]) V'))
    (V : World) (hBs : V.cell? ⟨Bs, 0, none⟩ = some (.slice (some ⟨gf, of_, none⟩) T cap)) (hBk : V.cell? ⟨Bk, 0, none⟩ = some (.int .i64 (k : Nat))) (h0 : J [] V) :
    CallsIn Fence.wide n Tryz.prog 54 #[.func (.yield l) #[] #[], .pointer (some ⟨Bs, 0, none⟩), .pointer (some ⟨Bk, 0, none⟩)] V fun e V' => (∃ v, e = .returned v) ∧
      ((∃ ys : List (CAt N), ys.map (·.1) = List.range N ∧ J ys V') ∨ (∃ pre : List (CAt N), (∃ j, j ≤ N ∧ pre.map (·.1) = List.range j) ∧ Jx pre V')) := by
  refine callsIn_of_wp Tryz.func54 rfl trivial ?_ rfl
  simp only [Tryz.ntmps54, List.size_toArray, List.length_cons, List.length_nil, Nat.reduceAdd, Nat.reduceSub, Array.replicate_succ, Array.replicate_zero, List.push_toArray, List.append_toArray, List.nil_append, List.cons_append]
  have HTT := hid hT
  have hT4 : T ≤ 262144 := by rw [hT]; exact Nat.le_trans (Nat.mul_le_mul hN hk4) (by decide)
  clear hT
  gi_wp2
  gi_loopw [4] (fun i wr => ∃ (j : Nat) (pre : List (CAt N)), j ≤ N ∧ i = .int .i64 (j * k : Nat) ∧ Hid (pre.map (·.1) = List.range j) ∧ J pre wr ∧ wr.cell? ⟨Bs, 0, none⟩ = some (.slice (some ⟨gf, of_, none⟩) T cap) ∧ wr.cell? ⟨Bk, 0, none⟩ = some (.int .i64 (k : Nat)))
    (fun i _ => T - (intOf i).toNat)
  case atStart => exact ⟨0, [], Nat.zero_le _, by rw [Nat.zero_mul]; rfl, rfl, h0, hBs, hBk⟩
  case round =>
    obtain ⟨j, pre, hj, rfl, HP, hJs, hbs, hbk⟩ := hrel
    by_cases hlt : j < N
    · have hpl : pre.length = j := by have := congrArg List.length HP.out; rwa [List.length_map, List.length_range] at this
      have HS : Hid ((pre ++ [(⟨j, hlt⟩ : CAt N)]).map (·.1) = List.range (j + 1)) := by show _ = _; rw [List.map_append, HP.out, List.range_succ]; rfl
      have hj1 : (j + 1) * k ≤ T := by rw [HTT.out]; exact Nat.mul_le_mul_right k hlt
      have e2 : (j + 1) * k = j * k + k := by rw [Nat.add_mul, Nat.one_mul]
      have HEQ : Hid ((j + 1) * k = j * k + k) := e2
      have hlo : j * k + k ≤ T := by omega
      have HLO : Hid (j * k = j * k) := rfl
      clear e2 hj1
      have hYj := fun W hW => hY pre ⟨j, hlt⟩ W hW (by omega)
      simp only [chV] at hYj
      generalize hEm : j * k = lo at *
      have HYJ := hid hYj
      clear hYj HLO
      have HEM := hid hEm
      clear hEm
      have hc1 : ¬ cap = lo := by omega
      have hl1 : lo ≤ T := by omega
      have hmin : min (k : Int) ((T - lo : Nat) : Int) = (k : Int) := by omega
      gi_wp2
      gi_region
      have hJd := hD pre wr hJs
      have hbs' : wr.drew.cell? ⟨Bs, 0, none⟩ = some (.slice (some ⟨gf, of_, none⟩) T cap) := hbs
      have hbk' : wr.drew.cell? ⟨Bk, 0, none⟩ = some (.int .i64 (k : Nat)) := hbk
      clear hbs hbk hJs hmin
      generalize wr.drew = w2 at *
      obtain ⟨fn, tmps, assign, body, hy, hR⟩ := HYJ.out w2 hJd
      have HR := hid hR
      clear hR
      have hw1 : IntKind.i64.wrap ((lo : Int) + (k : Int)) = ((lo + k : Nat) : Int) := by rw [IntKind.wrap_i64]; omega
      have hd1 : (lo + k : Nat) - lo = k := by omega
      have hx1 : ((lo + k : Nat) : Int) ≤ (cap : Int) := by omega
      generalize hhi : lo + k = hi_ at *
      have hx2 : lo ≤ hi_ := by omega
      have HHI := hid hhi
      clear hhi
      gi_wp2
      refine HR.out.mono ?_
      rintro e W3 (⟨rfl, hJ3, hk3⟩ | ⟨rfl, hJx3⟩)
      · have hbs3 := Eq.trans hk3.1 hbs'
        have hbk3 := Eq.trans hk3.2.1 hbk'
        have HE : Hid ((j + 1) * k = hi_) := HEQ.out
        have hlt3 : lo < hi_ := by have := HHI.out; omega
        have hle3 : hi_ ≤ T := by have := HHI.out; omega
        clear hbs' hbk' hk3
        gi_wp2
        go_roundw
        case rel => exact ⟨j + 1, _, by omega, by rw [HE.out], HS, hJ3, hbs3, hbk3⟩
        case measure => simp [intOf]; omega
      · gi_wp2
        refine bodyPost_ret (results_none rfl _ _ _) rfl ?_
        exact ⟨⟨_, rfl⟩, .inr ⟨_, ⟨j + 1, by omega, HS.out⟩, hJx3⟩⟩
    · obtain rfl : j = N := by omega
      rw [← HTT.out]
      gi_wp2
      go_end0
      exact ⟨⟨_, rfl⟩, .inl ⟨_, HP.out, hJs⟩⟩
set_option maxRecDepth 100000 in
set_option maxHeartbeats 400000 in
theorem chunk_in (n : Nat) (a : Option Addr) (T cap k : Nat) (hk : 1 ≤ k) (w : World) :
    CallsIn Fence.wide n Tryz.prog 32 #[.slice a T cap, .int .i64 (k : Nat)] w fun e w' => e = .returned (.func (.func 54) #[] #[.pointer (some ⟨w.heap.size, 0, none⟩), .pointer (some ⟨w.heap.size + 1, 0, none⟩)]) ∧ w' = (w.alloc (.cells #[.slice a T cap] 36)).alloc (.cells #[.int .i64 (k : Nat)] 3) := by
  refine callsIn_of_wp Tryz.func32 rfl trivial ?_ rfl
  simp only [Tryz.ntmps32, List.size_toArray, List.length_cons, List.length_nil, Nat.reduceAdd, Nat.reduceSub, Array.replicate_succ, Array.replicate_zero, List.push_toArray, List.append_toArray, List.nil_append, List.cons_append]
  have e1 : (1 : Int) ≤ (k : Int) := by omega
  gi_wp2
  go_ret
  exact ⟨rfl, rfl⟩
theorem chunk_stops (n : Nat) (hn : 1 ≤ n) (Bs Bk B gf of_ cap k N T : Nat) (hT : T = N * k) (hk : 1 ≤ k) (hk4 : k ≤ 4) (hN : N ≤ 65536) (hcap : T ≤ cap) (w : World) (hBs : Bs < w.heap.size) (hBk : Bk < w.heap.size) (h1 : w.cell? ⟨Bs, 0, none⟩ = some (.slice (some ⟨gf, of_, none⟩) T cap)) (h2 : w.cell? ⟨Bk, 0, none⟩ = some (.int .i64 (k : Nat))) :
    SeqStopsK Fence.wide n Tryz.prog 54 #[.pointer (some ⟨Bs, 0, none⟩), .pointer (some ⟨Bk, 0, none⟩)] (chV gf of_ k N) (KeepsC Bs Bk B) (fun ys => ys.map (·.1) = List.range N) (fun pre => ∃ j, j ≤ N ∧ pre.map (·.1) = List.range j) N w := fun l J Jx V hV hJ _ hY h0 =>
  chunk1_in n hn l Bs Bk B gf of_ cap k N T hT hk hk4 hN hcap J Jx (fun pre U hU => hJ pre U U.drew none hU (grown_drew U) (fun r e => by cases e)) hY V ((hV.cell (p := ⟨Bs, 0, none⟩) hBs).trans h1) ((hV.cell (p := ⟨Bk, 0, none⟩) hBk).trans h2) h0
end Go.Proofs.YtmdjhefcohcjhaaGreatDoor


/- Marks of finished ranges over functions: a function that held many leaves. -/
namespace Go.Proofs.YtmdjhefcohcjhaaGreatDoor
open Go.RowKit Go.Shelf

/-- Marks of finished ranges over functions, the youngest first: their blocks lie from lo on and below B, fall, and hold no call. -/
def Shut (lo : Nat) : Nat → List Deferred → World → Prop
  | _, [], _ => True
  | B, d :: ds, W => ∃ r, lo ≤ r ∧ r < B ∧ d = { target := .collected r, args := #[] } ∧ W.heap[r]? = some (.deferred (some [])) ∧ Shut lo r ds W
theorem Shut.mono {lo : Nat} {B B' : Nat} {ds : List Deferred} {W : World} (h : Shut lo B ds W) (hb : B ≤ B') : Shut lo B' ds W := by
  cases ds with
  | nil => trivial
  | cons d ds =>
    obtain ⟨r, h1, h2, h3⟩ := h
    exact ⟨r, h1, by omega, h3⟩
theorem Shut.keep {lo : Nat} : ∀ {ds : List Deferred} {B : Nat} {W W' : World}, Shut lo B ds W → (∀ r, r < B → W'.heap[r]? = W.heap[r]?) → Shut lo B ds W'
  | [], _, _, _, _, _ => trivial
  | d :: ds, B, W, W', h, hk => by
    obtain ⟨r, h1, h2, h3, h4, h5⟩ := h
    exact ⟨r, h1, h2, h3, (hk r h2).trans h4, h5.keep fun k hlt => hk k (by omega)⟩
theorem Shut.below {lo B : Nat} {ds : List Deferred} {W W' : World} (h : Shut lo B ds W) (hb : Below B W W') : Shut lo B ds W' := h.keep fun r hr => hb.block r hr
theorem leaves_shut {F : Fence} {n : Nat} {P : Program} {fn : Func} {tmps : Array Value} {R : Ending → World → Prop} {lo : Nat} {K : World → Prop}
    (hK : ∀ W r, K W → lo ≤ r → W.heap[r]? = some (.deferred (some [])) → K (W.putObj r (.deferred none))) (hend : ∀ W, K W → LeavesInM F n P fn tmps R [] .returning W) :
    ∀ (ds : List Deferred) (B : Nat) (W : World), Shut lo B ds W → K W → LeavesInM F n P fn tmps R ds .returning W
  | [], _, W, _, hW => hend W hW
  | d :: ds, B, W, h, hW => by
    obtain ⟨r, h1, h2, rfl, h4, h5⟩ := h
    refine ⟨by simp, .inl ⟨r, _, rfl, run_takeDeferred h4, leaves_shut hK hend ds r _ ?_ (hK W r hW h1 h4)⟩⟩
    exact h5.keep fun k hk => World.putObj_heap_other (by omega)
end Go.Proofs.YtmdjhefcohcjhaaGreatDoor

