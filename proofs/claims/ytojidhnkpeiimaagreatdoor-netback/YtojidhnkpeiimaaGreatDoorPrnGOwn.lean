/- write and Print of package net. -/
import Derived.Test.YtojidhnkpeiimaaGreatDoorPrnFOwn
import Derived.Test.YtojidhnkpeiimaaGreatDoorCrAToBakQ
namespace Go.Proofs.YtojidhnkpeiimaaGreatDoor
open Go.RowKit Go.Shelf
theorem wp_append_str {w : World} {o : Oper} {a : Act} {K : Act → World → Prop} {Q : Exit → Act → World → Prop} (s x : Operand)
    (ho : o.op = .call { callee := .builtin .append, args := #[s, x], argTypes := #[44, 44] }) (base : Nat) (v : Value) (l : List ByteArray) (f : ByteArray) (hs : a.eval s = v) (hown : RwS w base v l) (g : Nat) (hx : a.eval x = .slice (some ⟨g, 0, none⟩) 1 1) (hg : w.cell? ⟨g, 0, none⟩ = some (.string f)) (hlen : l.length + 1 ≤ 100000) (hbase : base ≤ w.heap.size)
    (h : ∀ v' w', RwS w' base v' (l ++ [f]) → w.grownBy w' v.ownBlock → K (a.put o.dst v') w') : o.wp Tryz.prog a w K Q := by
  obtain ⟨i0, hi0, hz0, hz1, hz2⟩ := info_parts Tryz.infoStr
  refine wp_append_own _ s x 44 ho base 9 i0 (.string ⟨#[]⟩) 1 16 Tryz.underlying44 hi0 hz0 hz1 hz2 rfl (by decide) v l.length _ hs hown ⟨g, 0, none⟩ 1 1 [.string f] hx rfl ?_ ?_ (by unfold maxLen; omega) (by omega) hbase ?_
  · intro j u hj
    match j, hj with
    | 0, hj => cases hj; exact hg
    | j + 1, hj => simp at hj
  · intro u hu
    simp only [List.mem_cons, List.not_mem_nil, or_false] at hu
    subst hu; rfl
  · intro v' w' h1 h2 _
    refine h v' w' ?_ h2
    rw [RwS, List.length_append, List.map_append]
    exact h1
theorem RwS.below {w w' : World} {B : Nat} {v : Value} {l : List ByteArray} (h : RwS w B v l) (hb : Below w.heap.size w w') : RwS w' B v l := own_below h hb (Nat.le_refl _)
theorem RwS.cap {w : World} {B : Nat} {v : Value} {l : List ByteArray} (h : RwS w B v l) : ∃ d cd, v = .slice d l.length cd ∧ StS w d l ∧ l.length ≤ cd := by
  obtain ⟨d, cd, h1, h2⟩ := h.st
  refine ⟨d, cd, h1, h2, ?_⟩
  rcases h.2 with ⟨e, h3⟩ | ⟨g, cap, cur, e, -, -, h4, -⟩
  · omega
  · rw [h1] at e
    injection e with _ _ e3
    omega
theorem RwS.ne {w : World} {B b : Nat} {v : Value} {l : List ByteArray} {cs : Array Value} {T : TypeId} (h : RwS w B v l) (hb : w.heap[b]? = some (.cells cs T (0, 0))) (hT : T ≠ 9) : some b ≠ v.ownBlock := by
  rcases h.2 with ⟨rfl, -⟩ | ⟨g, cap, cur, rfl, -, h3, -⟩
  · exact fun e => by cases e
  · intro e
    have e' : b = g := Option.some.inj e
    rw [← e', hb] at h3
    injection h3 with h4
    injection h4 with _ h5 _
    exact hT h5
theorem RwS.slv {w : World} {B : Nat} {v : Value} {l : List ByteArray} (h : RwS w B v l) : ∃ d n c, v = .slice d n c := by
  obtain ⟨d, cd, h1, -⟩ := h.st
  exact ⟨d, _, cd, h1⟩
def lnsA (V : List Vr) (i : Nat) : List ByteArray := (V.take i).map fun x => tx (lineL x)
def lnsB (V : List Vr) (L : List (List Int)) (R : List (List Fr)) (v : Nat) : List ByteArray := (V.map fun x => tx (lineL x)) ++ (List.range v).map fun u => tx (varL V L R u)
theorem lnsA_succ {V : List Vr} {i : Nat} (h : i < V.length) : lnsA V i ++ [tx (lineL V[i])] = lnsA V (i + 1) := by rw [lnsA, lnsA, List.take_succ_eq_append_getElem h, List.map_append]; rfl
theorem lnsA_all (V : List Vr) (L : List (List Int)) (R : List (List Fr)) : lnsA V V.length = lnsB V L R 0 := by rw [lnsA, List.take_length, lnsB]; simp
theorem lnsB_succ (V : List Vr) (L : List (List Int)) (R : List (List Fr)) (v : Nat) : lnsB V L R v ++ [tx (varL V L R v)] = lnsB V L R (v + 1) := by rw [lnsB, lnsB, List.range_succ, List.map_append, List.append_assoc]; rfl
theorem flat_tx {α : Type} (l : List α) (f : α → List UInt8) : ((l.map fun x => tx (f x)).map (·.data.toList)).flatten = l.flatMap f := by
  induction l with
  | nil => rfl
  | cons x r ih =>
    rw [List.map_cons, List.map_cons, List.flatten_cons, ih, List.flatMap_cons]
    rfl
theorem lnsB_join (V : List Vr) (L : List (List Int)) (R : List (List Fr)) : Lib.join ((lnsB V L R V.length).map (·.data.toList)) (bl ⟨#[]⟩) = netL V L R := by
  rw [show bl ⟨#[]⟩ = [] from rfl, join_nil_sep, lnsB, List.map_append, List.flatten_append, flat_tx, flat_tx]
  rfl
theorem lnsA_length {V : List Vr} {i : Nat} (h : i ≤ V.length) : (lnsA V i).length = i := by rw [lnsA, List.length_map, List.length_take]; omega
theorem lnsB_length (V : List Vr) (L : List (List Int)) (R : List (List Fr)) (v : Nat) : (lnsB V L R v).length = V.length + v := by rw [lnsB, List.length_append, List.length_map, List.length_map, List.length_range]
theorem join_sp {xs : List ByteArray} (h : ∀ s ∈ xs, s.size ≤ 5000) : (Lib.join (xs.map (·.data.toList)) [32]).length ≤ 5001 * xs.length := by
  by_cases e : xs = []
  · subst e; exact Nat.zero_le _
  · have h1 := congrArg List.length (spL_join _ e)
    have h2 := spL_le h
    simp only [List.length_append, List.length_cons, List.length_nil] at h1
    omega
def WX (w wr : World) (x y z xv : Value) (l : List ByteArray) : Prop := NK w wr x y z ∧ RwS wr (w.heap.size + 1) xv l
theorem WX.step {w wr wr' : World} {x y z xv : Value} {l : List ByteArray} (h : WX w wr x y z xv l) (hb : Below wr.heap.size wr wr') : WX w wr' x y z xv l := ⟨h.1.step hb, h.2.below hb⟩
theorem WX.push {w wr wr' : World} {x y z xv v' : Value} {l l' : List ByteArray} (h : WX w wr x y z xv l) (hr : RwS wr' (w.heap.size + 1) v' l') (hg : wr.grownBy wr' xv.ownBlock) : WX w wr' x y z v' l' :=
  ⟨h.1.grow ((Below.refl _ wr).grown hg h.1.1.lt (fun k e => h.2.own k e)), hr⟩
theorem grown_block {w w' : World} {row : Option Nat} (hg : w.grownBy w' row) {b : Nat} (hb : b < w.heap.size) (hne : some b ≠ row) : w'.heap[b]? = w.heap[b]? := hg.block b hb hne
theorem vbox_cells {w : World} {b : Nat} {x y : Value} (h : w.heap[b]? = some (.cells #[x, y] 47 (0, 0))) : w.cell? ⟨b, 0, none⟩ = some x ∧ w.cell? ⟨b, 1, none⟩ = some y :=
  ⟨by rw [cell_of_row _ _ _ _ _ (0, 0) h]; rfl, by rw [cell_of_row _ _ _ _ _ (0, 0) h]; rfl⟩
set_option maxRecDepth 100000 in
set_option maxHeartbeats 8000000 in
theorem write_any (a b c : Option Addr) (ca cb cc : Nat) (V : List Vr) (L : List (List Int)) (R : List (List Fr)) (w : World) (h : NetI w a b c V L R) (hs : NSm V L R) (h0 : netE V L R = 0) (htab : Lib.TabIs Tryz.prog w "internal/strconv.uint64pow10" .u64 Lib.pow10Tab) :
    Calls Tryz.prog 17 #[.agg #[.slice a V.length ca, .slice b L.length cb, .slice c R.length cc]] w fun e w' => e = .returned (.string (tx (netL V L R))) ∧ Below w.heap.size w w' := by
  have hok := netE_ok h0
  have HI := hid h
  have HSM := hid hs
  have HOK := hid hok
  have HTB := hid htab
  have hn8 := hok.n8
  have hN2 : (netL V L R).length ≤ 400000000000 := (prS_of hs hok).two V.length (Nat.le_refl _)
  have HFM := hid (fun (v : Nat) (hv : v < V.length) (hp : (L.getD v []).length ≠ 0) (U : World) (hU : NetI U a b c V L R) (hT : Lib.TabIs Tryz.prog U "internal/strconv.uint64pow10" .u64 Lib.pow10Tab) => familyText_any a b c ca cb cc v V L R U hU hs h0 hv hp hT)
  have h4 : ∀ i (h : i < V.length), 1 ≤ V[i].2.length ∧ V[i].2.length ≤ 4 := fun i hi => by
    have h1 := hok.fine.each i (by rw [iL_length, sizesN_length]; exact hi)
    have e : (iL (sizesN V))[i]'(by rw [iL_length, sizesN_length]; exact hi) = (V[i].2.length : Int) := by simp [iL, sizesN]
    rw [e] at h1
    omega
  have H4 := hid h4
  have hA0 : WX w (w.alloc (NC (.slice a V.length ca) (.slice b L.length cb) (.slice c R.length cc))) (.slice a V.length ca) (.slice b L.length cb) (.slice c R.length cc) (.slice none 0 0) (lnsA V 0) := ⟨NK.new w _ _ _, ⟨rfl, .inl ⟨rfl, rfl⟩⟩⟩
  obtain ⟨c0, c1, c2⟩ := hA0.1.1.cells
  have HA0 := hid hA0
  clear h hs h0 htab hok h4 hA0
  have z1 : (⟨#[118, 97, 114, 32]⟩ : ByteArray).size = 4 := rfl
  have z2 : (⟨#[32, 123, 32]⟩ : ByteArray).size = 3 := rfl
  have z3 : (⟨#[32, 125, 10]⟩ : ByteArray).size = 3 := rfl
  have z4 : (⟨#[32, 58, 32]⟩ : ByteArray).size = 3 := rfl
  go_enter Tryz.func17, Tryz.ntmps17
  go_wp2_with fail
  generalize (w.alloc (NC (.slice a V.length ca) (.slice b L.length cb) (.slice c R.length cc))) = w1 at *
  clear c0 c1 c2
  go_loopw [3, 11] (fun xv iv wr => ∃ i : Nat, i ≤ V.length ∧ iv = .int .i64 i ∧ Hid (WX w wr (.slice a V.length ca) (.slice b L.length cb) (.slice c R.length cc) xv (lnsA V i))) (fun _ iv _ => V.length - (intOf iv).toNat)
  case atStart => exact ⟨0, Nat.zero_le _, rfl, HA0⟩
  case round =>
    obtain ⟨i, hi, rfl, HX⟩ := hrel
    clear HA0
    by_cases hlt : i < V.length
    · obtain ⟨g, o, b', c', rfl, hg, d0, d1, hSt, hcap⟩ := HI.out.vars i hlt
      have e0 := (HX.out.1.2.cell (p := ⟨g, o + i * 2, none⟩) hg).trans d0
      have e1 := (HX.out.1.2.cell (p := ⟨g, o + i * 2 + 1, none⟩) hg).trans d1
      have HST := hid hSt
      obtain ⟨hns, -, hvs⟩ := HSM.out.vars.2 _ (List.getElem_mem hlt)
      obtain ⟨hv1, hv4⟩ := H4.out i hlt
      have HLA := hid (lnsA_succ hlt)
      have HLI := hid (line_eq (x := V[i]) (fun e => by rw [e] at hv1; simp at hv1))
      have hjl := join_sp hvs
      generalize V[i] = x at *
      obtain ⟨nm, vs⟩ := x
      simp only at e0 e1 HST hcap hns hvs hv1 hv4 hjl HLI
      obtain ⟨k0, k1⟩ := vbox_new wr (.string nm) (.slice b' vs.length c')
      have hbA := (Below.refl _ wr).alloc (Nat.le_refl _) (VC (.string nm) (.slice b' vs.length c'))
      have hvb : (wr.alloc (VC (.string nm) (.slice b' vs.length c'))).heap[wr.heap.size]? = some (.cells #[.string nm, .slice b' vs.length c'] 47 (0, 0)) := heap_alloc_new wr _
      have hXA := HX.out.step hbA
      have hll := lnsA_length hi
      have hJ : (tx (Lib.join (vs.map (·.data.toList)) [32])).size ≤ 25000 := by rw [tx_size]; omega
      have HJN : Hid (∀ U : World, Below w.heap.size w U → Calls Tryz.prog 33 #[.slice b' vs.length c', .string ⟨#[32]⟩] U fun e w' => e = .returned (.string (tx (Lib.join (vs.map (·.data.toList)) [32]))) ∧ Below U.heap.size U w') := fun U hU => join_st b' c' vs ⟨#[32]⟩ U (HST.out.below hU) hcap (by omega) (by show _ ≤ _; exact Nat.le_trans hjl (by omega))
      have HTX : Hid (⟨#[118, 97, 114, 32]⟩ ++ nm ++ ⟨#[32, 123, 32]⟩ ++ tx (Lib.join (vs.map (·.data.toList)) [32]) ++ ⟨#[32, 125, 10]⟩ = tx (lineL (nm, vs))) := by
        show _ = _
        rw [← HLI.out, app_tx ⟨#[118, 97, 114, 32]⟩ nm, tx_app, tx_app, tx_app, bl_tx]
        rfl
      generalize tx (Lib.join (vs.map (·.data.toList)) [32]) = J at *
      clear d0 d1 hSt hjl hvs hcap hv1 HX
      go_upto_region 5 with fail
      generalize (wr.alloc (VC (.string nm) (.slice b' vs.length c'))) = w2 at *
      generalize wr.heap.size = B5 at *
      refine wp_region_held_drew (S := fun u => u.heap[B5]? = some (.cells #[.string nm, .slice b' vs.length c'] 47 (0, 0))) (by kernel_rfl) hvb (fun hSd => ?_)
      have hX0 : WX w w2.drew (.slice (some ⟨g, o, none⟩) V.length ca) (.slice b L.length cb) (.slice c R.length cc) u3 (lnsA V i) := ⟨⟨hXA.1.1, hXA.1.2.drew⟩, hXA.2⟩
      clear k0 k1 e0 e1 hbA hvb hXA
      generalize w2.drew = u0 at *
      (try simp only [List.getElem_toArray, List.getElem_cons_zero, List.getElem_cons_succ])
      (try simp only [Act.put, List.setIfInBounds_toArray, List.set_cons_zero, List.set_cons_succ])
      refine wpAnyH_take (i := 0) (oi := _) (v := u3) rfl (by kernel_rfl) (by kernel_rfl) (by kernel_rfl) (fun _ _ _ h => h) (Or.inl ⟨by rfl, ?_⟩) (by assumption) ?_
      · intro u' hSu
        (try simp only [List.getElem_toArray, List.getElem_cons_zero])
        go_simp
      (try simp only [List.getElem_toArray, List.getElem_cons_zero])
      (try simp only [Act.put, List.setIfInBounds_toArray, List.set_cons_zero, List.set_cons_succ])
      refine wpAnyH_take (i := 1) (oi := _) (v := .pointer (some ⟨B5, 0, none⟩)) rfl (by kernel_rfl) (by kernel_rfl) (by kernel_rfl) (fun _ _ _ h => h) (Or.inl ⟨by rfl, ?_⟩) (by assumption) ?_
      · intro u' hSu
        (try simp only [List.getElem_toArray, List.getElem_cons_zero, List.getElem_cons_succ])
        go_simp
      (try simp only [List.getElem_toArray, List.getElem_cons_zero, List.getElem_cons_succ])
      (try simp only [Act.put, List.setIfInBounds_toArray, List.set_cons_zero, List.set_cons_succ])
      refine wpAnyH_take (i := 2) (oi := _) (v := .string nm) rfl (by kernel_rfl) (by kernel_rfl) (by kernel_rfl) (fun _ _ _ h => h) (Or.inl ⟨by rfl, ?_⟩) (by assumption) ?_
      · intro u' hSu
        (try simp only [List.getElem_toArray, List.getElem_cons_zero, List.getElem_cons_succ])
        obtain ⟨s0, s1⟩ := vbox_cells hSu
        go_simp
      (try simp only [List.getElem_toArray, List.getElem_cons_zero, List.getElem_cons_succ])
      (try simp only [Act.put, List.setIfInBounds_toArray, List.set_cons_zero, List.set_cons_succ])
      refine wpAnyH_take (i := 3) (oi := _) (v := .string (⟨#[118, 97, 114, 32]⟩ ++ nm)) rfl (by kernel_rfl) (by kernel_rfl) (by kernel_rfl) (fun _ _ _ h => h) (Or.inl ⟨by rfl, ?_⟩) (by assumption) ?_
      · intro u' hSu
        (try simp only [List.getElem_toArray, List.getElem_cons_zero, List.getElem_cons_succ])
        go_simp
        all_goals (first | omega | (simp only [ByteArray.size_append]; omega))
      (try simp only [List.getElem_toArray, List.getElem_cons_zero, List.getElem_cons_succ])
      (try simp only [Act.put, List.setIfInBounds_toArray, List.set_cons_zero, List.set_cons_succ])
      refine wpAnyH_take (i := 4) (oi := _) (v := .string (⟨#[118, 97, 114, 32]⟩ ++ nm ++ ⟨#[32, 123, 32]⟩)) rfl (by kernel_rfl) (by kernel_rfl) (by kernel_rfl) (fun _ _ _ h => h) (Or.inl ⟨by rfl, ?_⟩) (by assumption) ?_
      · intro u' hSu
        (try simp only [List.getElem_toArray, List.getElem_cons_zero, List.getElem_cons_succ])
        go_simp
        all_goals (first | omega | (simp only [ByteArray.size_append]; omega))
      (try simp only [List.getElem_toArray, List.getElem_cons_zero, List.getElem_cons_succ])
      (try simp only [Act.put, List.setIfInBounds_toArray, List.set_cons_zero, List.set_cons_succ])
      refine wpAnyH_take (i := 5) (oi := _) (v := .pointer (some ⟨B5, 1, none⟩)) rfl (by kernel_rfl) (by kernel_rfl) (by kernel_rfl) (fun _ _ _ h => h) (Or.inl ⟨by rfl, ?_⟩) (by assumption) ?_
      · intro u' hSu
        (try simp only [List.getElem_toArray, List.getElem_cons_zero, List.getElem_cons_succ])
        go_simp
      (try simp only [List.getElem_toArray, List.getElem_cons_zero, List.getElem_cons_succ])
      (try simp only [Act.put, List.setIfInBounds_toArray, List.set_cons_zero, List.set_cons_succ])
      refine wpAnyH_take (i := 6) (oi := _) (v := .slice b' vs.length c') rfl (by kernel_rfl) (by kernel_rfl) (by kernel_rfl) (fun _ _ _ h => h) (Or.inl ⟨by rfl, ?_⟩) (by assumption) ?_
      · intro u' hSu
        (try simp only [List.getElem_toArray, List.getElem_cons_zero, List.getElem_cons_succ])
        obtain ⟨s0, s1⟩ := vbox_cells hSu
        go_simp
      (try simp only [List.getElem_toArray, List.getElem_cons_zero, List.getElem_cons_succ])
      (try simp only [Act.put, List.setIfInBounds_toArray, List.set_cons_zero, List.set_cons_succ])
      refine wpAnyH_ready (rs := [7]) (by kernel_rfl) (by simp) (AllReadyH.cons rfl ?_ (AllReadyH.nil))
      · intro K' hK'
        (try simp only [List.getElem_toArray, List.getElem_cons_zero, List.getElem_cons_succ])
        go_simp
        refine (HJN.out u0 hX0.1.2).mono ?_
        rintro e u1 ⟨rfl, hb⟩
        have hX1 := hX0.step hb
        refine hK'.out _ _ ((hb.block B5 (Array.getElem?_eq_some_iff.1 hSd).1).trans hSd) (fun hSe => ?_)
        clear hK' K' hSd hb hX0
        have hSd := hSe
        clear hSe
        (try simp only [List.getElem_toArray, List.getElem_cons_zero, List.getElem_cons_succ])
        (try simp only [Act.put, List.setIfInBounds_toArray, List.set_cons_zero, List.set_cons_succ])
        refine wpAnyH_take (i := 8) (oi := _) (v := .string (⟨#[118, 97, 114, 32]⟩ ++ nm ++ ⟨#[32, 123, 32]⟩ ++ J)) rfl (by kernel_rfl) (by kernel_rfl) (by kernel_rfl) (fun _ _ _ h => h) (Or.inl ⟨by rfl, ?_⟩) (by assumption) ?_
        · intro u' hSu
          (try simp only [List.getElem_toArray, List.getElem_cons_zero, List.getElem_cons_succ])
          go_simp
          all_goals (first | omega | (simp only [ByteArray.size_append]; omega))
        (try simp only [List.getElem_toArray, List.getElem_cons_zero, List.getElem_cons_succ])
        (try simp only [Act.put, List.setIfInBounds_toArray, List.set_cons_zero, List.set_cons_succ])
        refine wpAnyH_take (i := 9) (oi := _) (v := .string (⟨#[118, 97, 114, 32]⟩ ++ nm ++ ⟨#[32, 123, 32]⟩ ++ J ++ ⟨#[32, 125, 10]⟩)) rfl (by kernel_rfl) (by kernel_rfl) (by kernel_rfl) (fun _ _ _ h => h) (Or.inl ⟨by rfl, ?_⟩) (by assumption) ?_
        · intro u' hSu
          (try simp only [List.getElem_toArray, List.getElem_cons_zero, List.getElem_cons_succ])
          go_simp
          all_goals (first | omega | (simp only [ByteArray.size_append]; omega))
        (try simp only [List.getElem_toArray, List.getElem_cons_zero, List.getElem_cons_succ])
        (try simp only [Act.put, List.setIfInBounds_toArray, List.set_cons_zero, List.set_cons_succ])
        refine wpAnyH_ready (rs := [10]) (by kernel_rfl) (by simp) (AllReadyH.cons rfl ?_ (AllReadyH.nil))
        · intro K' hK'
          (try simp only [List.getElem_toArray, List.getElem_cons_zero, List.getElem_cons_succ])
          go_simp
          have hbB := (Below.refl _ u1).alloc (Nat.le_refl _) (.cells #[.string (⟨#[118, 97, 114, 32]⟩ ++ nm ++ ⟨#[32, 123, 32]⟩ ++ J ++ ⟨#[32, 125, 10]⟩)] 9)
          have hX2 := hX1.step hbB
          have HCA := one_str u1 (⟨#[118, 97, 114, 32]⟩ ++ nm ++ ⟨#[32, 123, 32]⟩ ++ J ++ ⟨#[32, 125, 10]⟩)
          refine hK'.out _ _ ((hbB.block B5 (Array.getElem?_eq_some_iff.1 hSd).1).trans hSd) (fun hSe => ?_)
          clear hK' K' hSd hX1 hbB
          have hSd := hSe
          clear hSe
          generalize (u1.alloc (.cells #[.string (⟨#[118, 97, 114, 32]⟩ ++ nm ++ ⟨#[32, 123, 32]⟩ ++ J ++ ⟨#[32, 125, 10]⟩)] 9)) = u2 at *
          generalize u1.heap.size = BN at *
          (try simp only [List.getElem_toArray, List.getElem_cons_zero, List.getElem_cons_succ])
          (try simp only [Act.put, List.setIfInBounds_toArray, List.set_cons_zero, List.set_cons_succ])
          refine wpAnyH_ready (rs := [11]) (by kernel_rfl) (by simp) (AllReadyH.cons rfl ?_ (AllReadyH.nil))
          · intro K' hK'
            rw [if_pos (by rfl)]
            refine wp_append_str _ _ rfl (w.heap.size + 1) _ (lnsA V i) (⟨#[118, 97, 114, 32]⟩ ++ nm ++ ⟨#[32, 123, 32]⟩ ++ J ++ ⟨#[32, 125, 10]⟩) rfl hX2.2 BN rfl HCA (by omega) hX2.1.1.lt ?_
            intro v' w9 hr9 hg9
            obtain ⟨d9, n9, cd9, rfl⟩ := hr9.slv
            have HPU := hid (hX2.push hr9 hg9)
            rw [HTX.out, HLA.out] at HPU
            refine hK'.out _ _ ((grown_block hg9 (Array.getElem?_eq_some_iff.1 hSd).1 (hX2.2.ne hSd (by decide))).trans hSd) (fun hSe => ?_)
            clear hK' K' hSd hX2 hr9 hg9
            have hSd := hSe
            clear hSe
            (try simp only [List.getElem_toArray, List.getElem_cons_zero, List.getElem_cons_succ])
            (try simp only [Act.put, List.setIfInBounds_toArray, List.set_cons_zero, List.set_cons_succ])
            refine wpAnyH_take (i := 12) (oi := _) (v := .slice d9 n9 cd9) rfl (by kernel_rfl) (by kernel_rfl) (by kernel_rfl) (fun _ _ _ h => h) (Or.inl ⟨by rfl, ?_⟩) (by assumption) ?_
            · intro u' hSu
              (try simp only [List.getElem_toArray, List.getElem_cons_zero, List.getElem_cons_succ])
              go_simp
            (try simp only [List.getElem_toArray, List.getElem_cons_zero, List.getElem_cons_succ])
            (try simp only [Act.put, List.setIfInBounds_toArray, List.set_cons_zero, List.set_cons_succ])
            refine wpAnyH_done (by kernel_rfl) ?_ _
            clear hSd
            go_wp2
            go_roundw
            case rel => exact ⟨i + 1, by omega, by go_num, HPU⟩
            case measure => simp [intOf]; omega
    · obtain rfl : i = V.length := by omega
      rw [lnsA_all V L R] at HX
      obtain ⟨c0, c1, c2⟩ := HX.out.1.1.cells
      clear hi hlt
      go_wp2_with fail
      clear c0 c1 c2
      go_loopw [3, 31] (fun xv iv wr => ∃ v : Nat, v ≤ V.length ∧ iv = .int .i64 v ∧ Hid (WX w wr (.slice a V.length ca) (.slice b L.length cb) (.slice c R.length cc) xv (lnsB V L R v))) (fun _ iv _ => V.length - (intOf iv).toNat)
      case atStart => exact ⟨0, Nat.zero_le _, rfl, HX⟩
      case round =>
        obtain ⟨v, hv, rfl, HY⟩ := hrel
        clear HX
        have hll := lnsB_length V L R v
        by_cases hlt : v < V.length
        · have hvL : v < L.length := by rw [HOK.out.len]; exact hlt
          have hvR : v < R.length := by rw [HOK.out.lenR]; exact hlt
          have eL := getDI hvL
          have eR := getDF hvR
          obtain ⟨g, o, b', c', rfl, hg, d0, d1, -, -⟩ := HI.out.vars v hlt
          obtain ⟨gp, op_, bp, cp, rfl, hgp, p0, -⟩ := HI.out.pars v hvL
          obtain ⟨gr, or_, br, cr, rfl, hgr, r0, hrf, hrc⟩ := HI.out.rows v hvR
          have e0 := (HY.out.1.2.cell (p := ⟨g, o + v * 2, none⟩) hg).trans d0
          have e1 := (HY.out.1.2.cell (p := ⟨g, o + v * 2 + 1, none⟩) hg).trans d1
          have hns := (HSM.out.vars.2 _ (List.getElem_mem hlt)).1
          have hrs := HSM.out.rows.2 _ (List.getElem_mem hvR)
          have HLB := hid (lnsB_succ V L R v)
          have hnm := nmV_at hlt
          generalize V[v] = x at *
          obtain ⟨nm, vs⟩ := x
          simp only at e0 e1 hns hnm
          obtain ⟨k0, k1⟩ := vbox_new wr (.string nm) (.slice b' vs.length c')
          have hbA := (Below.refl _ wr).alloc (Nat.le_refl _) (VC (.string nm) (.slice b' vs.length c'))
          have hvb : (wr.alloc (VC (.string nm) (.slice b' vs.length c'))).heap[wr.heap.size]? = some (.cells #[.string nm, .slice b' vs.length c'] 47 (0, 0)) := heap_alloc_new wr _
          have hYA := HY.out.step hbA
          obtain ⟨c0, c1, c2⟩ := hYA.1.1.cells
          have p1 := (hYA.1.2.cell (p := ⟨gp, op_ + v, none⟩) hgp).trans p0
          clear d0 d1 p0 HY
          by_cases hp : L[v].length = 0
          · have hpb : ((L[v].length : Int) == 0) = true := by rw [hp]; rfl
            have hne : R[v] ≠ [] := fun e => by
              have h1 := HOK.out.rows v hvL hvR
              have hps : Pos (sizesN V) := by have := HOK.out.fine.pos; rwa [toN_iL] at this
              have h2 := cnt_pos hps (toN L[v])
              have h3 := sz_pos hps v
              have h5 : 1 * 1 ≤ cnt (sizesN V) (toN L[v]) * sz (sizesN V) v := Nat.mul_le_mul h2 h3
              rw [e] at h1
              simp at h1
              omega
            have HTX : Hid (nm ++ ⟨#[32, 58, 32]⟩ ++ tx (rowP R[v]) = tx (varL V L R v)) := by
              show _ = _
              rw [varL, if_pos (by rw [eL]; exact hp), hnm, eR, app_tx nm ⟨#[32, 58, 32]⟩, tx_app, bl_tx, show bl ⟨#[32, 58, 32]⟩ = [32, 58, 32] from rfl, List.append_assoc, rowP_eq hne, List.append_assoc]
            have hrw : (tx (rowP R[v])).size ≤ 600000003 := by
              rw [tx_size, rowP, List.length_append]
              have := join_le (l := R[v]) (by omega) (by omega)
              simp only [List.length_cons, List.length_nil]
              omega
            have HRT : Hid (∀ U : World, Below w.heap.size w U → Calls Tryz.prog 34 #[.slice br R[v].length cr] U fun e w' => e = .returned (.string (tx (rowP R[v]))) ∧ Below U.heap.size U w') := fun U hU => rowText_any br cr R[v] U (hrf.below hU) (by omega) (by omega) (tab_below HTB.out hU)
            generalize tx (rowP R[v]) = T at *
            have r1 := (hYA.1.2.cell (p := ⟨gr, or_ + v, none⟩) hgr).trans r0
            clear r0 hrf hne hrc
            go_upto_region 10 with fail
            go_upto_region 11 with fail
            generalize (wr.alloc (VC (.string nm) (.slice b' vs.length c'))) = w2 at *
            generalize wr.heap.size = B5 at *
            refine wp_region_held_drew (S := fun u => u.heap[B5]? = some (.cells #[.string nm, .slice b' vs.length c'] 47 (0, 0)) ∧ u.heap[w.heap.size]? = some (.cells #[.slice (some ⟨g, o, none⟩) V.length ca, .slice (some ⟨gp, op_, none⟩) L.length cb, .slice (some ⟨gr, or_, none⟩) R.length cc] 29 (0, 0)) ∧ u.cell? ⟨gr, or_ + v, none⟩ = some (.slice br R[v].length cr)) (by kernel_rfl) ⟨hvb, hYA.1.1, r1⟩ (fun hSd => ?_)
            have hX0 : WX w w2.drew (.slice (some ⟨g, o, none⟩) V.length ca) (.slice (some ⟨gp, op_, none⟩) L.length cb) (.slice (some ⟨gr, or_, none⟩) R.length cc) u3 (lnsB V L R v) := ⟨⟨hYA.1.1, hYA.1.2.drew⟩, hYA.2⟩
            clear k0 k1 e0 e1 hbA hvb hYA c0 c1 c2 p1 r1
            generalize w2.drew = u0 at *
            (try simp only [List.getElem_toArray, List.getElem_cons_zero, List.getElem_cons_succ])
            (try simp only [Act.put, List.setIfInBounds_toArray, List.set_cons_zero, List.set_cons_succ])
            refine wpAnyH_take (i := 0) (oi := _) (v := u3) rfl (by kernel_rfl) (by kernel_rfl) (by kernel_rfl) (fun _ _ _ h => h) (Or.inl ⟨by rfl, ?_⟩) (by assumption) ?_
            · intro u' hSu
              (try simp only [List.getElem_toArray, List.getElem_cons_zero])
              go_simp
            (try simp only [List.getElem_toArray, List.getElem_cons_zero])
            (try simp only [Act.put, List.setIfInBounds_toArray, List.set_cons_zero, List.set_cons_succ])
            refine wpAnyH_take (i := 1) (oi := _) (v := .pointer (some ⟨B5, 0, none⟩)) rfl (by kernel_rfl) (by kernel_rfl) (by kernel_rfl) (fun _ _ _ h => h) (Or.inl ⟨by rfl, ?_⟩) (by assumption) ?_
            · intro u' hSu
              (try simp only [List.getElem_toArray, List.getElem_cons_zero, List.getElem_cons_succ])
              go_simp
            (try simp only [List.getElem_toArray, List.getElem_cons_zero, List.getElem_cons_succ])
            (try simp only [Act.put, List.setIfInBounds_toArray, List.set_cons_zero, List.set_cons_succ])
            refine wpAnyH_take (i := 2) (oi := _) (v := .string nm) rfl (by kernel_rfl) (by kernel_rfl) (by kernel_rfl) (fun _ _ _ h => h) (Or.inl ⟨by rfl, ?_⟩) (by assumption) ?_
            · intro u' hSu
              (try simp only [List.getElem_toArray, List.getElem_cons_zero, List.getElem_cons_succ])
              obtain ⟨s0, s1⟩ := vbox_cells hSu.1
              go_simp
            (try simp only [List.getElem_toArray, List.getElem_cons_zero, List.getElem_cons_succ])
            (try simp only [Act.put, List.setIfInBounds_toArray, List.set_cons_zero, List.set_cons_succ])
            refine wpAnyH_take (i := 3) (oi := _) (v := .string (nm ++ ⟨#[32, 58, 32]⟩)) rfl (by kernel_rfl) (by kernel_rfl) (by kernel_rfl) (fun _ _ _ h => h) (Or.inl ⟨by rfl, ?_⟩) (by assumption) ?_
            · intro u' hSu
              (try simp only [List.getElem_toArray, List.getElem_cons_zero, List.getElem_cons_succ])
              go_simp
              all_goals (first | omega | (simp only [ByteArray.size_append]; omega))
            (try simp only [List.getElem_toArray, List.getElem_cons_zero, List.getElem_cons_succ])
            (try simp only [Act.put, List.setIfInBounds_toArray, List.set_cons_zero, List.set_cons_succ])
            refine wpAnyH_take (i := 4) (oi := _) (v := .pointer (some ⟨w.heap.size, 2, none⟩)) rfl (by kernel_rfl) (by kernel_rfl) (by kernel_rfl) (fun _ _ _ h => h) (Or.inl ⟨by rfl, ?_⟩) (by assumption) ?_
            · intro u' hSu
              (try simp only [List.getElem_toArray, List.getElem_cons_zero, List.getElem_cons_succ])
              go_simp
            (try simp only [List.getElem_toArray, List.getElem_cons_zero, List.getElem_cons_succ])
            (try simp only [Act.put, List.setIfInBounds_toArray, List.set_cons_zero, List.set_cons_succ])
            refine wpAnyH_take (i := 5) (oi := _) (v := .slice (some ⟨gr, or_, none⟩) R.length cc) rfl (by kernel_rfl) (by kernel_rfl) (by kernel_rfl) (fun _ _ _ h => h) (Or.inl ⟨by rfl, ?_⟩) (by assumption) ?_
            · intro u' hSu
              (try simp only [List.getElem_toArray, List.getElem_cons_zero, List.getElem_cons_succ])
              obtain ⟨s0, s1, s2⟩ := NBox.cells hSu.2.1
              go_simp
            (try simp only [List.getElem_toArray, List.getElem_cons_zero, List.getElem_cons_succ])
            (try simp only [Act.put, List.setIfInBounds_toArray, List.set_cons_zero, List.set_cons_succ])
            refine wpAnyH_take (i := 6) (oi := _) (v := .int .i64 (v : Nat)) rfl (by kernel_rfl) (by kernel_rfl) (by kernel_rfl) (fun _ _ _ h => h) (Or.inl ⟨by rfl, ?_⟩) (by assumption) ?_
            · intro u' hSu
              (try simp only [List.getElem_toArray, List.getElem_cons_zero, List.getElem_cons_succ])
              go_simp
            (try simp only [List.getElem_toArray, List.getElem_cons_zero, List.getElem_cons_succ])
            (try simp only [Act.put, List.setIfInBounds_toArray, List.set_cons_zero, List.set_cons_succ])
            refine wpAnyH_take (i := 7) (oi := _) (v := .pointer (some ⟨gr, or_ + v, none⟩)) rfl (by kernel_rfl) (by kernel_rfl) (by kernel_rfl) (fun _ _ _ h => h) (Or.inl ⟨by rfl, ?_⟩) (by assumption) ?_
            · intro u' hSu
              (try simp only [List.getElem_toArray, List.getElem_cons_zero, List.getElem_cons_succ])
              go_simp
            (try simp only [List.getElem_toArray, List.getElem_cons_zero, List.getElem_cons_succ])
            (try simp only [Act.put, List.setIfInBounds_toArray, List.set_cons_zero, List.set_cons_succ])
            refine wpAnyH_take (i := 8) (oi := _) (v := .slice br R[v].length cr) rfl (by kernel_rfl) (by kernel_rfl) (by kernel_rfl) (fun _ _ _ h => h) (Or.inl ⟨by rfl, ?_⟩) (by assumption) ?_
            · intro u' hSu
              (try simp only [List.getElem_toArray, List.getElem_cons_zero, List.getElem_cons_succ])
              have s0 := hSu.2.2
              go_simp
            (try simp only [List.getElem_toArray, List.getElem_cons_zero, List.getElem_cons_succ])
            (try simp only [Act.put, List.setIfInBounds_toArray, List.set_cons_zero, List.set_cons_succ])
            refine wpAnyH_ready (rs := [9]) (by kernel_rfl) (by simp) (AllReadyH.cons rfl ?_ (AllReadyH.nil))
            · intro K' hK'
              (try simp only [List.getElem_toArray, List.getElem_cons_zero, List.getElem_cons_succ])
              go_simp
              refine (HRT.out u0 hX0.1.2).mono ?_
              rintro e u1 ⟨rfl, hb⟩
              have hX1 := hX0.step hb
              refine hK'.out _ _ ⟨(hb.block B5 (Array.getElem?_eq_some_iff.1 hSd.1).1).trans hSd.1, (hb.block _ (Array.getElem?_eq_some_iff.1 hSd.2.1).1).trans hSd.2.1, (hb.cell (p := ⟨gr, or_ + v, none⟩) (Nat.lt_of_lt_of_le hgr hX0.1.2.size)).trans hSd.2.2⟩ (fun hSe => ?_)
              clear hK' K' hSd hb hX0
              have hSd := hSe
              clear hSe
              (try simp only [List.getElem_toArray, List.getElem_cons_zero, List.getElem_cons_succ])
              (try simp only [Act.put, List.setIfInBounds_toArray, List.set_cons_zero, List.set_cons_succ])
              refine wpAnyH_take (i := 10) (oi := _) (v := .string (nm ++ ⟨#[32, 58, 32]⟩ ++ T)) rfl (by kernel_rfl) (by kernel_rfl) (by kernel_rfl) (fun _ _ _ h => h) (Or.inl ⟨by rfl, ?_⟩) (by assumption) ?_
              · intro u' hSu
                (try simp only [List.getElem_toArray, List.getElem_cons_zero, List.getElem_cons_succ])
                go_simp
                all_goals (first | omega | (simp only [ByteArray.size_append]; omega))
              (try simp only [List.getElem_toArray, List.getElem_cons_zero, List.getElem_cons_succ])
              (try simp only [Act.put, List.setIfInBounds_toArray, List.set_cons_zero, List.set_cons_succ])
              refine wpAnyH_ready (rs := [11]) (by kernel_rfl) (by simp) (AllReadyH.cons rfl ?_ (AllReadyH.nil))
              · intro K' hK'
                (try simp only [List.getElem_toArray, List.getElem_cons_zero, List.getElem_cons_succ])
                go_simp
                have hbB := (Below.refl _ u1).alloc (Nat.le_refl _) (.cells #[.string (nm ++ ⟨#[32, 58, 32]⟩ ++ T)] 9)
                have hX2 := hX1.step hbB
                have HCA := one_str u1 (nm ++ ⟨#[32, 58, 32]⟩ ++ T)
                refine hK'.out _ _ ⟨(hbB.block B5 (Array.getElem?_eq_some_iff.1 hSd.1).1).trans hSd.1, (hbB.block _ (Array.getElem?_eq_some_iff.1 hSd.2.1).1).trans hSd.2.1, (hbB.cell (p := ⟨gr, or_ + v, none⟩) (Nat.lt_of_lt_of_le hgr hX1.1.2.size)).trans hSd.2.2⟩ (fun hSe => ?_)
                clear hK' K' hSd hX1 hbB
                have hSd := hSe
                clear hSe
                generalize (u1.alloc (.cells #[.string (nm ++ ⟨#[32, 58, 32]⟩ ++ T)] 9)) = u2 at *
                generalize u1.heap.size = BN at *
                (try simp only [List.getElem_toArray, List.getElem_cons_zero, List.getElem_cons_succ])
                (try simp only [Act.put, List.setIfInBounds_toArray, List.set_cons_zero, List.set_cons_succ])
                refine wpAnyH_ready (rs := [12]) (by kernel_rfl) (by simp) (AllReadyH.cons rfl ?_ (AllReadyH.nil))
                · intro K' hK'
                  rw [if_pos (by rfl)]
                  refine wp_append_str _ _ rfl (w.heap.size + 1) _ (lnsB V L R v) (nm ++ ⟨#[32, 58, 32]⟩ ++ T) rfl hX2.2 BN rfl HCA (by omega) hX2.1.1.lt ?_
                  intro v' w9 hr9 hg9
                  obtain ⟨d9, n9, cd9, rfl⟩ := hr9.slv
                  have HPU := hid (hX2.push hr9 hg9)
                  rw [HTX.out, HLB.out] at HPU
                  refine hK'.out _ _ ⟨(grown_block hg9 (Array.getElem?_eq_some_iff.1 hSd.1).1 (hX2.2.ne hSd.1 (by decide))).trans hSd.1, (grown_block hg9 (Array.getElem?_eq_some_iff.1 hSd.2.1).1 (hX2.2.ne hSd.2.1 (by decide))).trans hSd.2.1, ((hX2.push hr9 hg9).1.2.cell (p := ⟨gr, or_ + v, none⟩) hgr).trans ((hX2.1.2.cell (p := ⟨gr, or_ + v, none⟩) hgr).symm.trans hSd.2.2)⟩ (fun hSe => ?_)
                  clear hK' K' hSd hX2 hr9 hg9
                  have hSd := hSe
                  clear hSe
                  (try simp only [List.getElem_toArray, List.getElem_cons_zero, List.getElem_cons_succ])
                  (try simp only [Act.put, List.setIfInBounds_toArray, List.set_cons_zero, List.set_cons_succ])
                  refine wpAnyH_take (i := 13) (oi := _) (v := .slice d9 n9 cd9) rfl (by kernel_rfl) (by kernel_rfl) (by kernel_rfl) (fun _ _ _ h => h) (Or.inl ⟨by rfl, ?_⟩) (by assumption) ?_
                  · intro u' hSu
                    (try simp only [List.getElem_toArray, List.getElem_cons_zero, List.getElem_cons_succ])
                    go_simp
                  (try simp only [List.getElem_toArray, List.getElem_cons_zero, List.getElem_cons_succ])
                  (try simp only [Act.put, List.setIfInBounds_toArray, List.set_cons_zero, List.set_cons_succ])
                  refine wpAnyH_done (by kernel_rfl) ?_ _
                  clear hSd
                  go_wp2
                  go_roundw
                  case rel => exact ⟨v + 1, by omega, by go_num, HPU⟩
                  case measure => simp [intOf]; omega
          · have hpb : ((L[v].length : Int) == 0) = false := beq_eq_false_iff_ne.2 (by omega)
            have HF := hid (HFM.out v hlt (by rw [eL]; exact hp))
            go_wp2_with fail
            generalize (wr.alloc (VC (.string nm) (.slice b' vs.length c'))) = w2 at *
            refine (HF.out w2 (HI.out.below hYA.1.2) (tab_below HTB.out hYA.1.2)).mono ?_
            rintro e u1 ⟨rfl, hb⟩
            have hY1 := hYA.step hb
            generalize tx (varL V L R v) = T at *
            have hbB := (Below.refl _ u1).alloc (Nat.le_refl _) (.cells #[.string T] 9)
            have hY2 := hY1.step hbB
            have HCA := hid (one_str u1 T)
            have HY2 := hid hY2
            have hbs : w.heap.size + 1 ≤ (u1.alloc (.cells #[.string T] 9)).heap.size := hY2.1.1.lt
            clear hb hbA hYA hY1 hbB hY2 k0 k1 e0 e1 c0 c1 c2 p1 r0 hrf hvb
            go_wp2_with (at_builtin; refine wpList_append_str rfl _ _ rfl (w.heap.size + 1) _ (lnsB V L R v) T rfl HY2.out.2 u1.heap.size rfl HCA.out (by omega) hbs ?_; intro v' w9 hr9 hg9)
            have HPU := hid (HY2.out.push hr9 hg9)
            rw [HLB.out] at HPU
            clear hr9 hg9
            go_roundw
            case rel => exact ⟨v + 1, by omega, by go_num, HPU⟩
            case measure => simp [intOf]; omega
        · obtain rfl : v = V.length := by omega
          obtain ⟨d, cd, rfl, hst, hcd⟩ := HY.out.2.cap
          have hj := lnsB_join V L R
          have HJ := hid (join_st d cd (lnsB V L R V.length) ⟨#[]⟩ wr hst hcd (by omega) (by rw [show (⟨#[]⟩ : ByteArray).data.toList = bl ⟨#[]⟩ from rfl, hj]; omega))
          rw [hj] at HJ
          clear hst hcd hj hll
          go_wp2_with fail
          refine HJ.out.mono ?_
          rintro e u1 ⟨rfl, hb⟩
          have HB1 := hid (HY.out.1.2.trans (hb.mono HY.out.1.2.size))
          clear hb
          go_wp2
          go_ret
          exact ⟨rfl, HB1.out⟩
end Go.Proofs.YtojidhnkpeiimaaGreatDoor
