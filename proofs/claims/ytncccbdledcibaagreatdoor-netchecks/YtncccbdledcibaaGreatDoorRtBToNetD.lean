/- The document's answer: an assignment as one of all variables; a list without one. -/
import Derived.Test.YtncccbdledcibaaGreatDoorOrdCToRtA
import Derived.Test.YtncccbdledcibaaGreatDoorBestAToNetA
import Derived.Laws.EntriesVeiled
import Derived.Test.YtncccbdledcibaaGreatDoorNetBToRowB
namespace Go.Proofs.YtncccbdledcibaaGreatDoor
open Go.RowKit Go.Shelf

set_option maxRecDepth 100000 in
set_option maxHeartbeats 1000000 in
theorem rSpread_any (a b d : Option Addr) (ca cb cd K : Nat) (sizes vars : List Int) (w : World) (hv : IntS w b vars) (hd : IntS w d (iL (digs (toN sizes) (toN vars) K))) (hfi : Fine sizes) (hup : Up vars sizes.length) :
    Calls Tryz.prog 31 #[.slice a sizes.length ca, .slice b vars.length cb, .slice d vars.length cd] w fun e w' => ∃ G, e = .returned (.slice (some ⟨G, 0, none⟩) sizes.length sizes.length) ∧ w.heap.size ≤ G ∧ RowI w' G (spr sizes.length (asg (toN sizes) (toN vars) K)) ∧ Below w.heap.size w w' := by
  obtain ⟨i0, hi0, hz0, hz1, hz2⟩ := info_parts Tryz.infoInt
  have HV := hid hv
  have HD := hid hd
  have hl8 := hfi.eight
  have hvl := hup.length
  have HUP := hid hup
  have HZ := hid (sprF_zero (toN sizes) (toN vars) K sizes.length)
  have HST := hid (fun (i : Nat) (h : i < (toN vars).length) => sprF_succ (toN sizes) (vs := toN vars) K sizes.length h)
  have HAL := hid (sprF_all (toN sizes) (toN vars) K sizes.length)
  have HDG := hid (fun (i : Nat) (h : i < (toN vars).length) => asg_digs (S := toN sizes) (k := K) hup.nodup h)
  have HTL := hid (toN_length vars)
  rw [HTL.out] at HAL
  clear hv hd hfi hup
  go_enter Tryz.func31, Tryz.ntmps31
  go_wp2_with (first
    | (at_make; refine wpList_make_full _ rfl _ _ 27 rfl w.heap.size 3 i0 (.int .i64 0) 1 Tryz.underlying27 hi0 hz0 hz1 .i64 .i64 _ _ sizes.length rfl rfl (by go_num) (by go_num) (by rw [hz2]; omega) (by unfold maxLen; omega) (Nat.le_refl _) ?_; intro w2 hown2 hgrow2))
  have hb2 := block_of_own hown2
  rw [made_ints] at hb2
  have HB2 := hid ((Below.refl w.heap.size w).grown hgrow2 (Nat.le_refl _) (fun k e => by cases e))
  have HI : Hid (RowI w2 w.heap.size (List.replicate sizes.length 0)) := hb2
  clear hown2 hgrow2 hb2
  go_wp2_with fail
  go_loopw [8] (fun iv wr => ∃ i : Nat, i ≤ vars.length ∧ iv = .int .i64 i ∧ Hid (RowI wr w.heap.size (spr sizes.length (sprF (toN sizes) (toN vars) K i))) ∧ Hid (Below w.heap.size w wr)) (fun iv _ => vars.length - (intOf iv).toNat)
  case atStart => exact ⟨0, Nat.zero_le _, rfl, by rw [HZ.out]; exact HI, HB2⟩
  case round =>
    obtain ⟨i, hi, rfl, HR, HB⟩ := hrel
    clear HI HB2
    by_cases hlt : i < vars.length
    · obtain ⟨g, o, rfl, hg, c0⟩ := HV.out i hlt
      obtain ⟨hvi, hvn⟩ := HUP.out.nat hlt
      have hil : i < (toN vars).length := by rw [HTL.out]; exact hlt
      have hdl : i < (iL (digs (toN sizes) (toN vars) K)).length := by rw [iL_length, digs_length]; exact hil
      obtain ⟨g2, o2, rfl, hg2, c2⟩ := HD.out i hdl
      have hdg := HDG.out i hil
      have hds := HST.out i hil
      rw [toN_get hlt] at hdg hds
      have hx : (iL (digs (toN sizes) (toN vars) K))[i] = ((asg (toN sizes) (toN vars) K vars[i].toNat : Nat) : Int) := by
        rw [RowI_get]
        have h := hdg
        rw [List.getElem?_eq_getElem (by rw [digs_length]; exact hil), Option.some.injEq] at h
        rw [h]
      rw [hx] at c2
      generalize hV : vars[i].toNat = v at *
      rw [← hvi] at c0
      generalize asg (toN sizes) (toN vars) K v = x at *
      have HDS := hid hds
      have hsl := spr_length sizes.length (sprF (toN sizes) (toN vars) K i)
      have hv0 : (0 : Int) ≤ (v : Int) := by omega
      have hv1 : (v : Int) < (sizes.length : Int) := by omega
      have hzc := HR.out.cell v (by rw [hsl]; exact hvn)
      have hzf := HR.out.fz v
      have hset := HR.out.set v x
      rw [HDS.out] at hset
      generalize (spr sizes.length (sprF (toN sizes) (toN vars) K i))[v] = z at *
      have hB := HB.out
      clear hdg hds hx hvi hV HDS hsl HR
      go_upto_region 5 with fail
      have held : ∀ u, Below w.heap.size w u → u.cell? ⟨g, o + i, none⟩ = some (.int .i64 (v : Nat)) ∧ u.cell? ⟨g2, o2 + i, none⟩ = some (.int .i64 (x : Nat)) := fun u e => ⟨(e.cell (p := ⟨g, _, none⟩) hg).trans c0, (e.cell (p := ⟨g2, _, none⟩) hg2).trans c2⟩
      have HELD := hid held
      clear held c0 c2
      refine wp_region_held_drew (S := fun u => u.cell? ⟨g, o + i, none⟩ = some (.int .i64 (v : Nat)) ∧ u.cell? ⟨g2, o2 + i, none⟩ = some (.int .i64 (x : Nat))) (by kernel_rfl) (HELD.out _ hB.drew) (fun hSd => ?_)
      refine wpAnyH_take (i := 0) (oi := _) (v := .slice (some ⟨w.heap.size, 0, none⟩) sizes.length sizes.length) rfl (by kernel_rfl) (by kernel_rfl) (by kernel_rfl) (fun _ _ _ h => h) (Or.inl ⟨by rfl, ?_⟩) (by assumption) ?_
      · intro u' hSu
        (try simp only [List.getElem_toArray, List.getElem_cons_zero])
        go_simp
      (try simp only [List.getElem_toArray, List.getElem_cons_zero])
      (try simp only [Act.put, List.setIfInBounds_toArray, List.set_cons_zero, List.set_cons_succ])
      refine wpAnyH_take (i := 1) (oi := _) (v := .slice (some ⟨g, o, none⟩) vars.length cb) rfl (by kernel_rfl) (by kernel_rfl) (by kernel_rfl) (fun _ _ _ h => h) (Or.inl ⟨by rfl, ?_⟩) (by assumption) ?_
      · intro u' hSu
        (try simp only [List.getElem_toArray, List.getElem_cons_zero, List.getElem_cons_succ])
        go_simp
      (try simp only [List.getElem_toArray, List.getElem_cons_zero, List.getElem_cons_succ])
      (try simp only [Act.put, List.setIfInBounds_toArray, List.set_cons_zero, List.set_cons_succ])
      refine wpAnyH_take (i := 2) (oi := _) (v := .int .i64 (i : Nat)) rfl (by kernel_rfl) (by kernel_rfl) (by kernel_rfl) (fun _ _ _ h => h) (Or.inl ⟨by rfl, ?_⟩) (by assumption) ?_
      · intro u' hSu
        (try simp only [List.getElem_toArray, List.getElem_cons_zero, List.getElem_cons_succ])
        go_simp
      (try simp only [List.getElem_toArray, List.getElem_cons_zero, List.getElem_cons_succ])
      (try simp only [Act.put, List.setIfInBounds_toArray, List.set_cons_zero, List.set_cons_succ])
      refine wpAnyH_take (i := 3) (oi := _) (v := .pointer (some ⟨g, o + i, none⟩)) rfl (by kernel_rfl) (by kernel_rfl) (by kernel_rfl) (fun _ _ _ h => h) (Or.inl ⟨by rfl, ?_⟩) (by assumption) ?_
      · intro u' hSu
        (try simp only [List.getElem_toArray, List.getElem_cons_zero, List.getElem_cons_succ])
        go_simp
      (try simp only [List.getElem_toArray, List.getElem_cons_zero, List.getElem_cons_succ])
      (try simp only [Act.put, List.setIfInBounds_toArray, List.set_cons_zero, List.set_cons_succ])
      refine wpAnyH_take (i := 4) (oi := _) (v := .int .i64 (v : Nat)) rfl (by kernel_rfl) (by kernel_rfl) (by kernel_rfl) (fun _ _ _ h => h) (Or.inl ⟨by rfl, ?_⟩) (by assumption) ?_
      · intro u' hSu
        (try simp only [List.getElem_toArray, List.getElem_cons_zero, List.getElem_cons_succ])
        obtain ⟨s1, s2⟩ := hSu
        go_simp
      (try simp only [List.getElem_toArray, List.getElem_cons_zero, List.getElem_cons_succ])
      (try simp only [Act.put, List.setIfInBounds_toArray, List.set_cons_zero, List.set_cons_succ])
      refine wpAnyH_take (i := 5) (oi := _) (v := .slice (some ⟨g2, o2, none⟩) vars.length cd) rfl (by kernel_rfl) (by kernel_rfl) (by kernel_rfl) (fun _ _ _ h => h) (Or.inl ⟨by rfl, ?_⟩) (by assumption) ?_
      · intro u' hSu
        (try simp only [List.getElem_toArray, List.getElem_cons_zero, List.getElem_cons_succ])
        go_simp
      (try simp only [List.getElem_toArray, List.getElem_cons_zero, List.getElem_cons_succ])
      (try simp only [Act.put, List.setIfInBounds_toArray, List.set_cons_zero, List.set_cons_succ])
      refine wpAnyH_take (i := 6) (oi := _) (v := .int .i64 (i : Nat)) rfl (by kernel_rfl) (by kernel_rfl) (by kernel_rfl) (fun _ _ _ h => h) (Or.inl ⟨by rfl, ?_⟩) (by assumption) ?_
      · intro u' hSu
        (try simp only [List.getElem_toArray, List.getElem_cons_zero, List.getElem_cons_succ])
        go_simp
      (try simp only [List.getElem_toArray, List.getElem_cons_zero, List.getElem_cons_succ])
      (try simp only [Act.put, List.setIfInBounds_toArray, List.set_cons_zero, List.set_cons_succ])
      refine wpAnyH_take (i := 7) (oi := _) (v := .pointer (some ⟨g2, o2 + i, none⟩)) rfl (by kernel_rfl) (by kernel_rfl) (by kernel_rfl) (fun _ _ _ h => h) (Or.inl ⟨by rfl, ?_⟩) (by assumption) ?_
      · intro u' hSu
        (try simp only [List.getElem_toArray, List.getElem_cons_zero, List.getElem_cons_succ])
        go_simp
      (try simp only [List.getElem_toArray, List.getElem_cons_zero, List.getElem_cons_succ])
      (try simp only [Act.put, List.setIfInBounds_toArray, List.set_cons_zero, List.set_cons_succ])
      refine wpAnyH_take (i := 8) (oi := _) (v := .int .i64 (x : Nat)) rfl (by kernel_rfl) (by kernel_rfl) (by kernel_rfl) (fun _ _ _ h => h) (Or.inl ⟨by rfl, ?_⟩) (by assumption) ?_
      · intro u' hSu
        (try simp only [List.getElem_toArray, List.getElem_cons_zero, List.getElem_cons_succ])
        obtain ⟨s1, s2⟩ := hSu
        go_simp
      (try simp only [List.getElem_toArray, List.getElem_cons_zero, List.getElem_cons_succ])
      (try simp only [Act.put, List.setIfInBounds_toArray, List.set_cons_zero, List.set_cons_succ])
      refine wpAnyH_take (i := 9) (oi := _) (v := .pointer (some ⟨w.heap.size, v, none⟩)) rfl (by kernel_rfl) (by kernel_rfl) (by kernel_rfl) (fun _ _ _ h => h) (Or.inl ⟨by rfl, ?_⟩) (by assumption) ?_
      · intro u' hSu
        (try simp only [List.getElem_toArray, List.getElem_cons_zero, List.getElem_cons_succ])
        go_simp
      (try simp only [List.getElem_toArray, List.getElem_cons_zero, List.getElem_cons_succ])
      (try simp only [Act.put, List.setIfInBounds_toArray, List.set_cons_zero, List.set_cons_succ])
      have hzc' : wr.drew.cell? ⟨w.heap.size, v, none⟩ = some (.int .i64 (z : Nat)) := hzc
      have hzf' : wr.drew.frozen? ⟨w.heap.size, v, none⟩ = false := hzf
      refine wpAnyH_ready (rs := [10]) (by kernel_rfl) (by simp) (AllReadyH.cons rfl ?_ (AllReadyH.nil))
      · intro K' hK'
        (try simp only [List.getElem_toArray, List.getElem_cons_zero, List.getElem_cons_succ])
        go_simp
        have hBp := (hB.setCell (p := ⟨w.heap.size, v, none⟩) (Nat.le_refl _) (.int .i64 (x : Nat))).drew
        have hset' : RowI (wr.setCell ⟨w.heap.size, v, none⟩ (.int .i64 (x : Nat))).drew w.heap.size (spr sizes.length (sprF (toN sizes) (toN vars) K (i + 1))) := hset
        clear hset hzc hzf hzc' hzf'
        generalize (wr.setCell ⟨w.heap.size, v, none⟩ (.int .i64 (x : Nat))).drew = v9 at *
        refine hK'.out _ _ (HELD.out _ hBp) (fun _ => wpAnyH_done (by kernel_rfl) ?_ _)
        clear hK' K' hSd
        have HRN := hid hset'
        have HBN := hid hBp
        clear hset' hBp
        go_wp2
        go_roundw
        case rel => exact ⟨i + 1, by omega, by go_num, HRN, HBN⟩
        case measure => simp [intOf]; omega
    · obtain rfl : i = vars.length := by omega
      have hfin := HR.out
      rw [HAL.out] at hfin
      go_wp2
      go_ret
      exact ⟨w.heap.size, rfl, Nat.le_refl _, hfin, HB.out⟩

theorem lessN_take {vars : List Int} {v : Int} {i : Nat} (h : i < vars.length) : lessN (vars.take (i + 1)) v = lessN (vars.take i) v ++ if vars[i] = v then [] else [vars[i]] := by
  rw [List.take_succ_eq_append_getElem h, lessN, lessN, List.filter_append]
  congr 1
  by_cases e : vars[i] = v
  · simp [e]
  · simp [e]

set_option maxRecDepth 100000 in
set_option maxHeartbeats 1000000 in
theorem rWithout_any (b : Option Addr) (cb : Nat) (vars : List Int) (v : Int) (w : World) (hv : IntS w b vars) (hn : vars.length ≤ 1000) :
    Calls Tryz.prog 61 #[.slice b vars.length cb, .int .i64 v] w fun e w' => ∃ x, e = .returned x ∧ RwI w' w.heap.size x (lessN vars v) ∧ Below w.heap.size w w' := by
  obtain ⟨i0, hi0, hz0, hz1, hz2⟩ := info_parts Tryz.infoInt
  have HV := hid hv
  have HT := hid (fun (i : Nat) (h : i < vars.length) => lessN_take (v := v) h)
  have HLE := hid (fun i => show (lessN (vars.take i) v).length ≤ vars.length from Nat.le_trans (List.length_filter_le _ _) (by rw [List.length_take]; omega))
  have hall : lessN (vars.take vars.length) v = lessN vars v := by rw [List.take_length]
  have hnil : lessN (vars.take 0) v = [] := by rw [List.take_zero]; rfl
  rw [← hall]
  clear hv hall
  generalize hg : (fun i => lessN (vars.take i) v) = F at *
  have hF : ∀ i, lessN (vars.take i) v = F i := fun i => by rw [← hg]
  simp only [hF] at HT HLE hnil ⊢
  clear hg hF
  go_enter Tryz.func61, Tryz.ntmps61
  go_wp2_with fail
  go_loopw [5, 6] (fun xv iv wr => ∃ i : Nat, i ≤ vars.length ∧ iv = .int .i64 i ∧ Hid (RwI wr w.heap.size xv (F i)) ∧ Hid (Below w.heap.size w wr)) (fun _ iv _ => vars.length - (intOf iv).toNat)
  case atStart => exact ⟨0, Nat.zero_le _, rfl, by rw [hnil]; exact ⟨rfl, .inl ⟨rfl, rfl⟩⟩, Below.refl _ _⟩
  case round =>
    obtain ⟨i, hi, rfl, HR, HB⟩ := hrel
    by_cases hlt : i < vars.length
    · obtain ⟨g, o, rfl, hg, c0⟩ := (HV.out.below HB.out) i hlt
      have hT := HT.out i hlt
      have hle := HLE.out i
      generalize vars[i] = u at *
      by_cases e : u = v
      · subst e
        rw [if_pos rfl, List.append_nil] at hT
        have HTT := hid hT
        clear hT
        go_wp2
        go_roundw
        case rel => exact ⟨i + 1, by omega, by go_num, by rw [HTT.out]; exact HR, HB⟩
        case measure => simp [intOf]; omega
      · rw [if_neg e] at hT
        have HTT := hid hT
        have hne : (u == v) = false := by simp [e]
        have HOWN := hid HR.out.own
        have HRA : Hid (RwI (wr.alloc (.cells #[.int .i64 u] 3)) w.heap.size _ (F i)) := World.ownsRow.alloc HR.out _
        have hBA := HB.out.alloc HB.out.size (.cells #[.int .i64 u] 3)
        have hI : IntS (wr.alloc (.cells #[.int .i64 u] 3)) (some ⟨wr.heap.size, 0, none⟩) [u] := fun k hk => by
          obtain rfl : k = 0 := by simp at hk; omega
          exact ⟨wr.heap.size, 0, rfl, by simp, (Boxed.new wr _ _).cell⟩
        have HIA := hid hI
        have HBA := hid hBA
        clear hT hI hBA
        go_wp2_with (at_builtin; refine wpList_append_ints rfl _ _ rfl w.heap.size _ (F i) [u] rfl HRA.out (some ⟨wr.heap.size, 0, none⟩) 1 rfl HIA.out (fun e => by cases e) (by simp; omega) HBA.out.size ?_; intro v' w2 hr2 hg2)
        have HR2 := hid hr2
        have HB2 := hid (HBA.out.grown hg2 HBA.out.size HOWN.out)
        clear hr2 hg2
        go_roundw
        case rel => exact ⟨i + 1, by omega, by go_num, by rw [HTT.out]; exact HR2, HB2⟩
        case measure => simp [intOf]; omega
    · obtain rfl : i = vars.length := by omega
      go_wp2
      go_ret
      exact ⟨_, rfl, HR.out, HB.out⟩
end Go.Proofs.YtncccbdledcibaaGreatDoor

/- Package table: the closures of Fix and Out. -/
namespace Go.Proofs.YtncccbdledcibaaGreatDoor
open Go.RowKit Go.Shelf

end Go.Proofs.YtncccbdledcibaaGreatDoor

/- Package table: Fix. -/
namespace Go.Proofs.YtncccbdledcibaaGreatDoor
open Go.RowKit Go.Shelf

/-- What a call on one table holds: the table, and its result's block. -/
def NR (w V : World) (T R : Nat) (u v : Value) : Prop := TBox V T u v ∧ TBox V R (.slice none 0 0) (.slice none 0 0) ∧ Below w.heap.size w V
theorem NR.step {w V V' : World} {T R : Nat} {u v : Value} (h : NR w V T R u v) (hb : Below V.heap.size V V') : NR w V' T R u v := ⟨h.1.below hb h.1.lt, h.2.1.below hb h.2.1.lt, h.2.2.trans (hb.mono h.2.2.size)⟩
theorem NR.drew {w V : World} {T R : Nat} {u v : Value} (h : NR w V T R u v) : NR w V.drew T R u v := ⟨h.1, h.2.1, h.2.2.drew⟩
theorem NR.off {w V : World} {T R : Nat} {u v : Value} (h : NR w V T R u v) (B j : Nat) (y : Value) (hT : T ≠ B) (hR : R ≠ B) (hB : w.heap.size ≤ B) : NR w (V.setCell ⟨B, j, none⟩ y) T R u v := ⟨h.1.off B j y hT, h.2.1.off B j y hR, h.2.2.setCell (p := ⟨B, j, none⟩) hB y⟩
theorem NR.fin {w V : World} {T R : Nat} {u v : Value} (h : NR w V T R u v) (hR : w.heap.size ≤ R) {vars : List Int} {b : Option Addr} {cb : Nat} {l : List Fr} {G cc : Nat} (hi : IntS V b vars) (hr : RowF V G l) (hG : G ≠ R) (x y : Value) (hx : x = .slice b vars.length cb) (hy : y = .slice (some ⟨G, 0, none⟩) l.length cc) :
    TBox ((V.setCell ⟨R, 0, none⟩ x).setCell ⟨R, 1, none⟩ y) R x y ∧ TabA vars l 0 (.returned (.tuple #[.agg #[x, y], .int .i64 0])) ((V.setCell ⟨R, 0, none⟩ x).setCell ⟨R, 1, none⟩ y) ∧ Below w.heap.size w ((V.setCell ⟨R, 0, none⟩ x).setCell ⟨R, 1, none⟩ y) := by
  subst hx hy
  exact ⟨h.2.1.put _ _, ⟨b, some ⟨G, 0, none⟩, cb, cc, rfl, hi.putT h.2.1 (slv _ _ _) (slv _ _ _) (slv _ _ _) _, ((hr.off _ 0 _ hG).off _ 1 _ hG).fr⟩, below_put2 h.2.2 hR _ _⟩
theorem up_iff {l : List Int} {n : Nat} : Up l n ↔ (∀ x ∈ l, 0 ≤ x ∧ x < n) ∧ l.Pairwise (· < ·) := by
  constructor
  · intro h
    refine ⟨fun x hx => ?_, List.pairwise_iff_getElem.2 fun i j hi hj hij => h.lt i j hj hij⟩
    obtain ⟨i, hi, rfl⟩ := List.getElem_of_mem hx
    exact h.each i hi
  · rintro ⟨h1, h2⟩
    exact ⟨fun i hi => h1 _ (List.getElem_mem hi), fun i j hj hi => List.pairwise_iff_getElem.1 h2 i j (by omega) hj hi⟩
theorem lessN_up {vars : List Int} {n : Nat} (h : Up vars n) (v : Int) : Up (lessN vars v) n := by
  rw [up_iff] at h ⊢
  exact ⟨fun x hx => h.1 x (List.mem_filter.1 hx).1, h.2.filter _⟩
theorem lessN_out {vars : List Int} {n v : Nat} (h : Up vars n) : ¬ v ∈ toN (lessN vars (v : Int)) := fun hm => by
  obtain ⟨x, hx, e⟩ := List.mem_map.1 hm
  have h1 := (up_iff.1 (lessN_up h v)).1 x hx
  have h2 := (List.mem_filter.1 hx).2
  simp at h2
  omega
theorem fixL_length (S vars rest : List Nat) (v x : Nat) (l : List Fr) : (fixL S vars rest v x l).length = cnt S rest := by simp [fixL]
theorem fixL_get (S vars rest : List Nat) (v x : Nat) (l : List Fr) {k : Nat} (h : k < (fixL S vars rest v x l).length) : (fixL S vars rest v x l)[k] = qF (frQ (celF l (pos S (withV (asg S rest k) v x) vars))) := by simp [fixL]
/-- The place of an assignment with one more value is a place. -/
theorem with_lt {sizes vars rest : List Int} {v x K m : Nat} (hk : checkA sizes vars m = 0) (hK : K < cnt (toN sizes) (toN rest)) (hx : x < sz (toN sizes) v) : pos (toN sizes) (withV (asg (toN sizes) (toN rest) K) v x) (toN vars) < m := by
  obtain ⟨h1, h2, h3⟩ := checkA_parts hk
  rw [h3]
  exact pos_lt _ (withV_lt (fun u => asg_lt h1.pos _ _ u hK) hx) _
end Go.Proofs.YtncccbdledcibaaGreatDoor


/- The document's answer: tables that grow cell by cell. -/
namespace Go.Proofs.YtncccbdledcibaaGreatDoor
open Go.RowKit Go.Shelf

/-- A list of fractions in memory of its own. -/
def RwF (w : World) (B : Nat) (v : Value) (l : List Fr) : Prop := w.ownsRow B 37 3 v l.length (frC l)
theorem RwF.empty (w : World) (B : Nat) : RwF w B (.slice none 0 0) [] := ⟨rfl, .inl ⟨rfl, rfl⟩⟩
theorem RwF.below {w w' : World} {B : Nat} {v : Value} {l : List Fr} (h : RwF w B v l) (hb : Below w.heap.size w w') : RwF w' B v l := by
  refine ⟨h.1, h.2.imp id ?_⟩
  rintro ⟨g, cap, cur, h1, h2, h3, h4⟩
  exact ⟨g, cap, cur, h1, h2, (hb.block g (Array.getElem?_eq_some_iff.1 h3).1).trans h3, h4⟩
theorem RwF.off {w : World} {B : Nat} {v : Value} {l : List Fr} (h : RwF w B v l) (b j : Nat) (y : Value) (hb : b < B) : RwF (w.setCell ⟨b, j, none⟩ y) B v l := by
  refine ⟨h.1, h.2.imp id ?_⟩
  rintro ⟨g, cap, cur, h1, h2, h3, h4⟩
  exact ⟨g, cap, cur, h1, h2, (Below.heap_setCell w ⟨b, j, none⟩ y g (by show g ≠ b; omega)).trans h3, h4⟩
theorem RwF.own {w : World} {B : Nat} {v : Value} {l : List Fr} (h : RwF w B v l) : ∀ k, v.ownBlock = some k → B ≤ k := by
  intro k hk
  rcases h.2 with ⟨rfl, _⟩ | ⟨g, cap, cur, rfl, h2, _⟩
  · cases hk
  · cases hk
    exact h2
theorem RwF.fr {w : World} {B : Nat} {v : Value} {l : List Fr} (h : RwF w B v l) : ∃ d cd, v = .slice d l.length cd ∧ FrS w d l := by
  rcases h.2 with ⟨h1, h2⟩ | ⟨g, cap, cur, h1, h2, h3, h4, h5, h6, h7⟩
  · have : l = [] := List.length_eq_zero_iff.1 h2
    subst this
    exact ⟨none, 0, h1, fun k hk => absurd hk (by simp)⟩
  · refine ⟨_, _, h1, fun k hk => ?_⟩
    obtain ⟨e1, e2, e3⟩ := frC_get l k hk
    have at_ : ∀ j, j < l.length * 3 → cur[j]? = (frC l)[j]? := fun j hj => by
      rw [← h7, List.getElem?_take, if_pos hj, Array.getElem?_toList]
    refine ⟨g, 0, rfl, (Array.getElem?_eq_some_iff.1 h3).1, ?_, ?_, ?_⟩
    · rw [cell_of_row w g _ _ _ (0, 0) h3, Nat.zero_add, at_ _ (by omega)]; exact e1
    · rw [cell_of_row w g _ _ _ (0, 0) h3, Nat.zero_add, at_ _ (by omega)]; exact e2
    · rw [cell_of_row w g _ _ _ (0, 0) h3, Nat.zero_add, at_ _ (by omega)]; exact e3
theorem RwF.slv {w : World} {B : Nat} {v : Value} {l : List Fr} (h : RwF w B v l) : SlV v := by
  obtain ⟨d, cd, e, _⟩ := h.fr
  exact ⟨d, _, cd, e⟩
theorem frC_snoc (l : List Fr) (f : Fr) : frC (l ++ [f]) = frC l ++ [.bool f.1, .string f.2.1, .string f.2.2] := by
  induction l with
  | nil => rfl
  | cons x l ih => simp only [List.cons_append, frC, ih]
theorem wpList_append_fr {w : World} {ops : Array Oper} {rest : List Oper} {o : Oper} {a : Act} {Q : Exit → Act → World → Prop} (hgd : o.guard = none) (s x : Operand)
    (ho : o.op = .call { callee := .builtin .append, args := #[s, x], argTypes := #[29, 29] }) (base : Nat) (v : Value) (l : List Fr) (f : Fr) (hs : a.eval s = v) (hown : RwF w base v l) (g : Nat) (hx : a.eval x = .slice (some ⟨g, 0, none⟩) 1 1) (hg : Box w g f.1 f.2.1 f.2.2) (hlen : l.length + 1 ≤ 100000) (hbase : base ≤ w.heap.size)
    (h : ∀ v' w', RwF w' base v' (l ++ [f]) → w.grownBy w' v.ownBlock → wpList Tryz.prog ops Q rest (a.put o.dst v') w') : wpList Tryz.prog ops Q (o :: rest) a w := by
  obtain ⟨i0, hi0, hz0, hz1, hz2⟩ := info_parts Tryz.infoFrac
  refine wpList_append_own _ hgd s x 29 ho base 37 i0 (.agg #[.bool false, .string ⟨#[]⟩, .string ⟨#[]⟩]) 3 40 Tryz.underlying29 hi0 hz0 hz1 hz2 rfl (by decide) v l.length _ hs hown ⟨g, 0, none⟩ 1 1 [.bool f.1, .string f.2.1, .string f.2.2] hx rfl ?_ ?_ (by unfold maxLen; omega) (by omega) hbase ?_
  · intro j u hj
    match j, hj with
    | 0, hj => cases hj; exact hg.c0
    | 1, hj => cases hj; exact hg.c1
    | 2, hj => cases hj; exact hg.c2
    | j + 3, hj => simp at hj
  · intro u hu
    simp only [List.mem_cons, List.not_mem_nil, or_false] at hu
    rcases hu with rfl | rfl | rfl <;> rfl
  · intro v' w' h1 h2 _
    refine h v' w' ?_ h2
    rw [RwF, List.length_append, frC_snoc]
    exact h1

/-- A table that grows: its block is the one behind w0's memory, its cells lie behind it. -/
def FX (w0 V : World) (x y : Value) (L : List Fr) : Prop := Below w0.heap.size w0 V ∧ TBox V w0.heap.size x y ∧ RwF V (w0.heap.size + 1) y L
theorem FX.step {w0 V V' : World} {x y : Value} {L : List Fr} (h : FX w0 V x y L) (hb : Below V.heap.size V V') : FX w0 V' x y L := ⟨h.1.trans (hb.mono h.1.size), h.2.1.below hb h.2.1.lt, h.2.2.below hb⟩
theorem FX.new (w0 : World) (x : Value) : FX w0 (w0.alloc (TC x (.slice none 0 0))) x (.slice none 0 0) [] := ⟨(Below.refl _ w0).alloc (Nat.le_refl _) _, TBox.at rfl _ _, RwF.empty _ _⟩
/-- One more cell. -/
theorem FX.push {w0 V V' : World} {x y y' : Value} {L L' : List Fr} (h : FX w0 V x y L) (hr : RwF V' (w0.heap.size + 1) y' L') (hg : V.grownBy V' y.ownBlock) : FX w0 (V'.setCell ⟨w0.heap.size, 1, none⟩ y') x y' L' := by
  have hs : w0.heap.size + 1 ≤ V.heap.size := h.2.1.lt
  have hb : Below (w0.heap.size + 1) V V' := (Below.refl _ V).grown hg hs h.2.2.own
  have ht := h.2.1.below hb (by omega)
  refine ⟨(h.1.trans (hb.mono (by omega))).setCell (p := ⟨w0.heap.size, 1, none⟩) (Nat.le_refl _) _, heap_setCell_same _ _ 1 _ _ _ ht, hr.off _ 1 _ (by omega)⟩
/-- What is there behind an append, ahead of its store. -/
theorem FX.mid {w0 V V' : World} {x y : Value} {L : List Fr} (h : FX w0 V x y L) (hg : V.grownBy V' y.ownBlock) : TBox V' w0.heap.size x y := by
  have hs : w0.heap.size + 1 ≤ V.heap.size := h.2.1.lt
  exact h.2.1.below ((Below.refl _ V).grown hg hs h.2.2.own) (by omega)
/-- The end: the table is the result. -/
theorem NR.finW {w w0 V : World} {T R : Nat} {u v : Value} (h : NR w w0 T R u v) (hR : w.heap.size ≤ R) {vars : List Int} {b : Option Addr} {cb : Nat} {l : List Fr} (hi : IntS w0 b vars) {x y : Value} (hx : FX w0 V x y l) (hxe : x = .slice b vars.length cb) :
    TBox V R (.slice none 0 0) (.slice none 0 0) ∧ TBox ((V.setCell ⟨R, 0, none⟩ x).setCell ⟨R, 1, none⟩ y) R x y ∧ TabA vars l 0 (.returned (.tuple #[.agg #[x, y], .int .i64 0])) ((V.setCell ⟨R, 0, none⟩ x).setCell ⟨R, 1, none⟩ y) ∧ Below w.heap.size w ((V.setCell ⟨R, 0, none⟩ x).setCell ⟨R, 1, none⟩ y) := by
  have hl := h.2.1.lt
  have h' := h.step hx.1
  have hi' := hi.below hx.1
  subst hxe
  obtain ⟨d, cd, e, hf⟩ := ((hx.2.2.off R 0 (.slice b vars.length cb) (by omega)).off R 1 y (by omega)).fr
  refine ⟨h'.2.1, h'.2.1.put _ _, ⟨b, d, cb, cd, by rw [← e], hi'.putT h'.2.1 (Go.Proofs.YtncccbdledcibaaGreatDoor.slv _ _ _) (Go.Proofs.YtncccbdledcibaaGreatDoor.slv _ _ _) (Go.Proofs.YtncccbdledcibaaGreatDoor.slv _ _ _) _, hf⟩, below_put2 h'.2.2 hR _ _⟩
end Go.Proofs.YtncccbdledcibaaGreatDoor

/- The document's answer: Fix. -/
namespace Go.Proofs.YtncccbdledcibaaGreatDoor
open Go.RowKit Go.Shelf

theorem countB_of {sizes vars : List Int} (h1 : Fine sizes) (h2 : Up vars sizes.length) : countB sizes vars = true := by
  rw [countB, Bool.and_eq_true]
  constructor
  · rw [fitB, Bool.and_eq_true, decide_eq_true_iff]
    refine ⟨⟨h1.one, h1.eight⟩, List.all_eq_true.2 fun x hx => ?_⟩
    obtain ⟨i, hi, rfl⟩ := List.getElem_of_mem hx
    rw [okSize, decide_eq_true_iff]
    exact h1.each i hi
  · rw [risB, List.all_eq_true]
    intro i hi
    have hi' := List.mem_range.1 hi
    rw [okAt, decide_eq_true_iff, getD_eq hi']
    refine ⟨(h2.each i hi').1, (h2.each i hi').2, fun h0 => ?_⟩
    rw [getD_eq (show i - 1 < vars.length by omega)]
    exact h2.lt (i - 1) i hi' (by omega)
theorem rCount_in (a b : Option Addr) (ca cb : Nat) (sizes vars : List Int) (w : World) (hs : IntS w a sizes) (hv : IntS w b vars) (hfi : Fine sizes) (hup : Up vars sizes.length) :
    Calls Tryz.prog 18 #[.slice a sizes.length ca, .slice b vars.length cb] w fun e w' => e = .returned (.tuple #[.int .i64 (cnt (toN sizes) (toN vars) : Nat), .int .i64 0]) ∧ Below w.heap.size w w' := by
  have h8 := hfi.eight
  have h9 := hup.length
  have h := rCount_any a b ca cb sizes vars w hs hv (by omega) (by omega)
  rw [countA_yes (countB_of hfi hup)] at h
  exact h
theorem rWhere_in (a b : Option Addr) (ca cb K : Nat) (sizes vars : List Int) (w : World) (hs : IntS w a sizes) (hv : IntS w b vars) (hfi : Fine sizes) (hup : Up vars sizes.length) (hK : K < cnt (toN sizes) (toN vars)) :
    Calls Tryz.prog 21 #[.slice a sizes.length ca, .slice b vars.length cb, .int .i64 (K : Nat)] w fun e w' => ∃ (c : Option Addr) (cc : Nat), e = .returned (.tuple #[.slice c vars.length cc, .int .i64 0]) ∧ IntS w' c (iL (digs (toN sizes) (toN vars) K)) ∧ Below w.heap.size w w' := by
  have h8 := hfi.eight
  have h9 := hup.length
  have hcb := countB_of hfi hup
  have h := rWhere_any a b ca cb sizes vars (K : Int) w hs hv (by omega) (by omega)
  have e1 : whereL sizes vars (K : Int) = digs (toN sizes) (toN vars) K := by rw [whereL, if_pos ⟨hcb, by omega, by omega⟩, Int.toNat_natCast]
  have e2 : whereE sizes vars (K : Int) = 0 := by rw [whereE, if_pos hcb, if_pos ⟨by omega, by omega⟩]
  rw [e1, e2, digs_length, toN_length] at h
  exact h
theorem Canon_r {n : Bool} {x y : ByteArray} {w : World} (s1 : x.size + y.size ≤ 100000) :
    Calls Tryz.prog 33 #[.agg #[.bool n, .string x, .string y]] w fun e w' => e = .returned (frV (qF (val n x y))) ∧ Below w.heap.size w w' := rCanon_any n x y w (by omega) (by omega)

end Go.Proofs.YtncccbdledcibaaGreatDoor

/- Nets: what is wrong with rows; the document's answer: NetCheck, as far as the names. -/
namespace Go.Proofs.YtncccbdledcibaaGreatDoor
open Go.RowKit Go.Shelf

/-- Lists of fractions in memory. -/
def FsS (w : World) (a : Option Addr) (R : List (List Fr)) : Prop := ∀ k (h : k < R.length), ∃ g o b c, a = some ⟨g, o, none⟩ ∧ g < w.heap.size ∧ w.cell? ⟨g, o + k, none⟩ = some (.slice b R[k].length c) ∧ FrS w b R[k] ∧ R[k].length ≤ c
theorem FsS.below {w w' : World} {a : Option Addr} {R : List (List Fr)} (h : FsS w a R) (hb : Below w.heap.size w w') : FsS w' a R := fun k hk => by
  obtain ⟨g, o, b, c, h1, h2, h3, h4, h5⟩ := h k hk
  exact ⟨g, o, b, c, h1, Nat.lt_of_lt_of_le h2 hb.size, (hb.cell (p := ⟨g, o + k, none⟩) h2).trans h3, h4.below hb, h5⟩
/-- The i-th so many. -/
def chunkF (l : List Fr) (k i : Nat) : List Fr := (l.drop (i * k)).take k
/-- What is wrong with a variable's rows. -/
def rowE (S : List Nat) (L : List (List Int)) (R : List (List Fr)) (v : Nat) : Int :=
  if (R.getD v []).length = cnt S (toN (L.getD v [])) * sz S v then (if ((List.range (cnt S (toN (L.getD v [])))).all fun i => rowB (chunkF (R.getD v []) (sz S v) i)) = true then 0 else 9) else 8
/-- What is wrong with a net. -/
def netE (V : List Vr) (L : List (List Int)) (R : List (List Fr)) : Int :=
  if L.length = V.length ∧ R.length = V.length then (if gcE L = 0 then (if varsE V = 0 then firstE (rowE (sizesN V) L R) V.length else varsE V) else gcE L) else 8
theorem FrS.chunk {w : World} {g o : Nat} {l : List Fr} {k i m : Nat} (h : FrS w (some ⟨g, o, none⟩) l) (hm : (i + 1) * k ≤ l.length) (hk : m = k) : FrS w (some ⟨g, o + i * k * 3, none⟩) (chunkF l k i) ∧ (chunkF l k i).length = m := by
  have hlen : (chunkF l k i).length = k := by
    rw [chunkF, List.length_take, List.length_drop]
    have : (i + 1) * k = i * k + k := by rw [Nat.add_mul, Nat.one_mul]
    omega
  refine ⟨fun j hj => ?_, by rw [hlen, hk]⟩
  have e : (i + 1) * k = i * k + k := by rw [Nat.add_mul, Nat.one_mul]
  rw [hlen] at hj
  obtain ⟨g', o', h1, h2, h3, h4, h5⟩ := h (i * k + j) (by omega)
  cases h1
  have ej : (chunkF l k i)[j]'(by rw [hlen]; exact hj) = l[i * k + j]'(by omega) := by
    simp only [chunkF, List.getElem_take, List.getElem_drop]
  refine ⟨g, o + i * k * 3, rfl, h2, ?_, ?_, ?_⟩
  · rw [ej, show o + i * k * 3 + j * 3 = o + (i * k + j) * 3 by rw [Nat.add_mul]; omega]; exact h3
  · rw [ej, show o + i * k * 3 + j * 3 = o + (i * k + j) * 3 by rw [Nat.add_mul]; omega]; exact h4
  · rw [ej, show o + i * k * 3 + j * 3 = o + (i * k + j) * 3 by rw [Nat.add_mul]; omega]; exact h5
theorem fw_chunk (l : List Fr) (k i : Nat) : fw (chunkF l k i) ≤ fw l := by
  have h1 := fw_take (l.drop (i * k)) k
  have h2 := fw_append (l.take (i * k)) (l.drop (i * k))
  rw [List.take_append_drop] at h2
  rw [chunkF]
  omega
/-- A list of texts in memory of its own. -/
def RwS (w : World) (B : Nat) (v : Value) (l : List ByteArray) : Prop := w.ownsRow B 9 1 v l.length (l.map Value.string)
theorem RwS.own {w : World} {B : Nat} {v : Value} {l : List ByteArray} (h : RwS w B v l) : ∀ k, v.ownBlock = some k → B ≤ k := by
  intro k hk
  rcases h.2 with ⟨rfl, _⟩ | ⟨g, cap, cur, rfl, h2, _⟩
  · cases hk
  · cases hk
    exact h2
theorem RwS.st {w : World} {B : Nat} {v : Value} {l : List ByteArray} (h : RwS w B v l) : ∃ d cd, v = .slice d l.length cd ∧ StS w d l := by
  rcases h.2 with ⟨h1, h2⟩ | ⟨g, cap, cur, h1, h2, h3, h4, h5, h6, h7⟩
  · have : l = [] := List.length_eq_zero_iff.1 h2
    subst this
    exact ⟨none, 0, h1, fun k hk => absurd hk (by simp)⟩
  · refine ⟨_, _, h1, fun j hj => ⟨g, 0, rfl, (Array.getElem?_eq_some_iff.1 h3).1, ?_⟩⟩
    rw [Nat.zero_add, cell_of_row w g j _ _ (0, 0) h3]
    have e : cur[j]? = (cur.toList.take (l.length * 1))[j]? := by
      rw [List.getElem?_take, if_pos (by omega), Array.getElem?_toList]
    rw [e, h7, List.getElem?_map, List.getElem?_eq_getElem hj]
    rfl
theorem wpList_append_str {w : World} {ops : Array Oper} {rest : List Oper} {o : Oper} {a : Act} {Q : Exit → Act → World → Prop} (hgd : o.guard = none) (s x : Operand)
    (ho : o.op = .call { callee := .builtin .append, args := #[s, x], argTypes := #[59, 59] }) (base : Nat) (v : Value) (l : List ByteArray) (f : ByteArray) (hs : a.eval s = v) (hown : RwS w base v l) (g : Nat) (hx : a.eval x = .slice (some ⟨g, 0, none⟩) 1 1) (hg : w.cell? ⟨g, 0, none⟩ = some (.string f)) (hlen : l.length + 1 ≤ 100000) (hbase : base ≤ w.heap.size)
    (h : ∀ v' w', RwS w' base v' (l ++ [f]) → w.grownBy w' v.ownBlock → wpList Tryz.prog ops Q rest (a.put o.dst v') w') : wpList Tryz.prog ops Q (o :: rest) a w := by
  obtain ⟨i0, hi0, hz0, hz1, hz2⟩ := info_parts Tryz.infoStr
  refine wpList_append_own _ hgd s x 59 ho base 9 i0 (.string ⟨#[]⟩) 1 16 Tryz.underlying59 hi0 hz0 hz1 hz2 rfl (by decide) v l.length _ hs hown ⟨g, 0, none⟩ 1 1 [.string f] hx rfl ?_ ?_ (by unfold maxLen; omega) (by omega) hbase ?_
  · intro j u hj
    match j, hj with
    | 0, hj => cases hj; exact hg
    | j + 1, hj => simp at hj
  · intro u hu
    simp only [List.mem_cons, List.not_mem_nil, or_false] at hu
    subst hu; rfl
  · intro v' w' h1 h2 _
    refine h v' w' ?_ h2
    rw [RwS, List.length_append, List.map_append]
    exact h1
theorem one_str (w : World) (u : ByteArray) : (w.alloc (.cells #[.string u] 9)).cell? ⟨w.heap.size, 0, none⟩ = some (.string u) := (Boxed.new w _ _).cell
end Go.Proofs.YtncccbdledcibaaGreatDoor
