/- Package graph: readBags, outermost. -/
import Derived.Test.YtockhhleapbpiaaOrdCToNeaA
namespace Go.Proofs.Ytockhhleapbpiaa
open Go.RowKit Go.Shelf

set_option maxRecDepth 100000 in
set_option maxHeartbeats 1000000 in
theorem setsIdx_any (G n c x : Nat) (l : List Nat) (w : World) (e1 : l.length = n) (hn : n ≤ 5000) (h1 : RowU w G l) :
    Calls Try.prog 90 #[.slice (some ⟨G, 0, none⟩) n c, .int .u32 (x : Nat)] w fun e w' => (∃ k : Int, e = .returned (.int .i64 k) ∧ (0 ≤ k ↔ x ∈ l)) ∧ w' = w := by
  have H1 := hid h1
  clear h1
  go_enter Try.func90, Try.ntmps90
  go_wp2_with fail
  go_loopw [8] (fun iv wr => ∃ i : Nat, i ≤ n ∧ iv = .int .i64 i ∧ Hid (∀ j (a : j < l.length), j < i → l[j] ≠ x) ∧ wr = w) (fun iv _ => n - (intOf iv).toNat)
  case atStart => exact ⟨0, Nat.zero_le _, rfl, fun j _ h => absurd h (by omega), rfl⟩
  case round =>
    obtain ⟨i, hi, rfl, HI, hwr⟩ := hrel
    replace hwr := hwr.symm
    subst hwr
    by_cases hlt : i < n
    · have a1 := H1.out.cell i (by omega)
      have HS : Hid (l[i]'(by omega) ≠ x → ∀ j (a : j < l.length), j < i + 1 → l[j] ≠ x) := fun h j a hj => by
        rcases Nat.lt_or_ge j i with h3 | h3
        · exact HI.out j a h3
        · obtain rfl : j = i := by omega
          exact h
      have HM : Hid (l[i]'(by omega) = x → x ∈ l) := fun h => h ▸ List.getElem_mem _
      generalize l[i]'(by omega) = y at *
      by_cases hxy : x = y
      · have HX := hid (HM.out hxy.symm)
        have hb : ((x : Int) == (y : Int)) = true := by subst hxy; simp
        clear hxy
        go_wp2
        go_ret
        exact ⟨⟨_, rfl, fun _ => HX.out, fun _ => by omega⟩, rfl⟩
      · have HS2 := hid (HS.out fun h => hxy h.symm)
        have hb : ((x : Int) == (y : Int)) = false := by
          have : ¬ (x : Int) = (y : Int) := by omega
          simpa using this
        clear hxy
        go_wp2
        go_roundw
        case rel => exact ⟨i + 1, by omega, by go_num, HS2, trivial⟩
        case measure => simp [intOf]; omega
    · obtain rfl : i = n := by omega
      go_wp2
      go_ret
      refine ⟨⟨_, rfl, fun h => absurd h (by decide), fun h => ?_⟩, rfl⟩
      obtain ⟨j, hj, e⟩ := List.getElem_of_mem h
      exact absurd e (HI.out j hj (by omega))
set_option maxRecDepth 100000 in
set_option maxHeartbeats 400000 in
theorem setsHas_any (G n c x : Nat) (l : List Nat) (w : World) (e1 : l.length = n) (hn : n ≤ 5000) (h1 : RowU w G l) :
    Calls Try.prog 79 #[.slice (some ⟨G, 0, none⟩) n c, .int .u32 (x : Nat)] w fun e w' => e = .returned (.bool (decide (x ∈ l))) ∧ w' = w := by
  have HI := hid (setsIdx_any G n c x l w e1 hn h1)
  clear h1
  go_enter Try.func79, Try.ntmps79
  go_wp2_with fail
  refine HI.out.mono ?_
  rintro e w1 ⟨⟨k, rfl, hk⟩, rfl⟩
  have HK : Hid (decide (0 ≤ k) = decide (x ∈ l)) := decide_eq_decide.2 hk
  clear hk
  go_wp2
  go_ret
  exact ⟨by rw [← HK.out]; rfl, rfl⟩
/-- Bags that may be. -/
def bagsB (L : List (List Int)) : Bool := decide (1 ≤ L.length ∧ L.length ≤ 8) && (allRis L 8 && !decide (0 ∈ masks L))

set_option maxRecDepth 100000 in
set_option maxHeartbeats 1000000 in
theorem readBags_any (a : Option Addr) (ca : Nat) (L : List (List Int)) (w : World) (h : LsS w a L) (hl : ∀ l ∈ L, l.length ≤ 140737488355328) :
    Calls Try.prog 53 #[.slice a L.length ca] w fun e w' => Below w.heap.size w w' ∧
      ((bagsB L = true ∧ ∃ G, e = .returned (.tuple #[.slice (some ⟨G, 0, none⟩) L.length L.length, .bool true]) ∧ w.heap.size ≤ G ∧ RowU w' G (masks L)) ∨ (bagsB L = false ∧ e = .returned (.tuple #[.slice none 0 0, .bool false]))) := by
  have HNB : Hid (bagsB L = (decide (1 ≤ L.length ∧ L.length ≤ 8) && (allRis L 8 && !decide (0 ∈ masks L)))) := rfl
  have HMC := hid (fun U : World => mayCount_any L.length U)
  have HSO : Hid (L.length ≤ 8 → Calls Try.prog 42 #[.slice a L.length ca, .int .i64 8] w fun e w' => Below w.heap.size w w' ∧ ((allRis L 8 = true ∧ ∃ G, e = .returned (.tuple #[.slice (some ⟨G, 0, none⟩) L.length L.length, .bool true]) ∧ w.heap.size ≤ G ∧ RowU w' G (masks L)) ∨ (allRis L 8 = false ∧ e = .returned (.tuple #[.slice none 0 0, .bool false])))) := fun h8 => setsOf_any a ca 8 L w h h8 (Nat.le_refl _) hl
  have HCO : Hid (∀ (G : Nat) (U : World), L.length ≤ 8 → RowU U G (masks L) → Calls Try.prog 79 #[.slice (some ⟨G, 0, none⟩) L.length L.length, .int .u32 0] U fun e w' => e = .returned (.bool (decide (0 ∈ masks L))) ∧ w' = U) := fun G U h8 hU => setsHas_any G L.length L.length 0 (masks L) U (masks_length L) (by omega) hU
  generalize bagsB L = nb at *
  clear h hl
  go_enter Try.func53, Try.ntmps53
  go_wp2_with fail
  refine (HMC.out _).mono ?_
  rintro e w1 ⟨rfl, hw1⟩
  subst hw1
  by_cases h8 : 1 ≤ L.length ∧ L.length ≤ 8
  · rw [decide_eq_true h8] at HNB ⊢
    have HS := hid (HSO.out h8.2)
    have HC := hid (fun G U => HCO.out G U h8.2)
    clear h8 HSO HCO HMC
    generalize decide (0 ∈ masks L) = dz at *
    go_wp2_with fail
    refine HS.out.mono ?_
    rintro e w2 ⟨hb, ⟨hr, G, rfl, hG, hU⟩ | ⟨hr, rfl⟩⟩
    · rw [hr] at HNB
      have HU := hid hU
      have HB := hid hb
      have HCG := hid (HC.out G _ hU)
      clear hU hb hr HC
      go_wp2_with fail
      refine HCG.out.mono ?_
      rintro e w3 ⟨rfl, hw3⟩
      subst hw3
      cases dz
      · go_wp2
        go_ret2
        exact ⟨HB.out, .inl ⟨HNB.out, G, rfl, hG, HU.out⟩⟩
      · go_wp2
        go_ret2
        exact ⟨HB.out, .inr ⟨HNB.out, rfl⟩⟩
    · rw [hr] at HNB
      have HB := hid hb
      clear hr hb HC
      go_wp2
      go_ret2
      exact ⟨HB.out, .inr ⟨HNB.out, rfl⟩⟩
  · rw [decide_eq_false h8] at HNB ⊢
    clear h8 HSO HCO HMC
    go_wp2
    go_ret2
    exact ⟨Below.refl _ _, .inr ⟨HNB.out, rfl⟩⟩
/-- One bag stands in another; of like ones the first counts. -/
def covB (B : List (List Nat)) (i j : Nat) : Bool := decide (j ≠ i ∧ (∀ x ∈ B.getD i [], x ∈ B.getD j []) ∧ (mskN (B.getD j []) ≠ mskN (B.getD i []) ∨ j < i))
/-- Is a bag kept? -/
def keptB (B : List (List Nat)) (i : Nat) : Bool := (List.range B.length).all fun j => !covB B i j
/-- The bags that are kept, as far as k. -/
def ousL (B : List (List Nat)) (k : Nat) : List (List Nat) := ((List.range k).filter (keptB B)).map fun i => B.getD i []
theorem ousL_yes {B : List (List Nat)} {k : Nat} (h : keptB B k = true) : ousL B (k + 1) = ousL B k ++ [B.getD k []] := by rw [ousL, List.range_succ, List.filter_append, List.map_append, ousL]; simp [h]
theorem ousL_no {B : List (List Nat)} {k : Nat} (h : keptB B k = false) : ousL B (k + 1) = ousL B k := by rw [ousL, List.range_succ, List.filter_append, List.map_append, ousL]; simp [h]
theorem ousL_len (B : List (List Nat)) (k : Nat) : (ousL B k).length ≤ k := by
  have := List.length_filter_le (keptB B) (List.range k)
  simpa [ousL] using this
theorem kept_no {B : List (List Nat)} {i j : Nat} (hj : j < B.length) (h : covB B i j = true) : keptB B i = false := by
  rw [keptB, List.all_eq_false]
  exact ⟨j, List.mem_range.2 hj, by rw [h]; decide⟩
theorem kept_yes {B : List (List Nat)} {i : Nat} (h : ∀ j, j < B.length → covB B i j = false) : keptB B i = true := by
  rw [keptB, List.all_eq_true]
  intro j hj
  rw [h j (List.mem_range.1 hj)]
  rfl
theorem wpList_append_set {w : World} {ops : Array Oper} {rest : List Oper} {o : Oper} {a : Act} {Q : Exit → Act → World → Prop} (hgd : o.guard = none) (s x : Operand)
    (ho : o.op = .call { callee := .builtin .append, args := #[s, x], argTypes := #[52, 52] }) (base : Nat) (v : Value) (l : List Nat) (f : Nat) (hs : a.eval s = v) (hown : RwU w base v l) (g : Nat) (hx : a.eval x = .slice (some ⟨g, 0, none⟩) 1 1) (hg : w.cell? ⟨g, 0, none⟩ = some (uv f)) (hlen : l.length + 1 ≤ 100000) (hbase : base ≤ w.heap.size)
    (h : ∀ v' w', RwU w' base v' (l ++ [f]) → w.grownBy w' v.ownBlock → wpList Try.prog ops Q rest (a.put o.dst v') w') : wpList Try.prog ops Q (o :: rest) a w := by
  obtain ⟨i0, hi0, hz0, hz1, hz2⟩ := info_parts Try.infoSet2
  refine wpList_append_own _ hgd s x 52 ho base 57 i0 (.int .u32 0) 1 4 Try.underlying52 hi0 hz0 hz1 hz2 rfl (by decide) v l.length _ hs hown ⟨g, 0, none⟩ 1 1 [uv f] hx rfl ?_ ?_ (by unfold maxLen; omega) (by omega) hbase ?_
  · intro j u hj
    match j, hj with
    | 0, hj => cases hj; exact hg
    | j + 1, hj => simp at hj
  · intro u hu
    simp only [List.mem_cons, List.not_mem_nil, or_false] at hu
    subst hu; rfl
  · intro v' w' h1 h2 _
    refine h v' w' ?_ h2
    rw [RwU, List.length_append, List.map_append]
    exact h1

set_option maxRecDepth 100000 in
set_option maxHeartbeats 2000000 in
theorem outermost_any (G n c : Nat) (B : List (List Nat)) (w : World) (e1 : B.length = n) (h8 : n ≤ 8) (hU : RowU w G (B.map mskN)) (hB : ∀ p ∈ B, ∀ u ∈ p, u < 8) :
    Calls Try.prog 54 #[.slice (some ⟨G, 0, none⟩) n c] w fun e w' => ∃ v, e = .returned v ∧ RwU w' w.heap.size v ((ousL B n).map mskN) ∧ Below w.heap.size w w' := by
  have hG := hU.lt
  have HKU : Hid (∀ (V : World) (v : Nat), Below w.heap.size w V → v < n → V.cell? ⟨G, v, none⟩ = some (.int .u32 (mskN (B.getD v []) : Nat))) := fun V v hb hv => by
    have := (hU.below hb hG).cell v (by rw [List.length_map]; omega)
    rwa [mapU_get (by omega)] at this
  have HSM := hid (fun v => getD_small hB v)
  have HNO : Hid (∀ i j, j < n → covB B i j = true → ousL B (i + 1) = ousL B i) := fun i j hj h => ousL_no (kept_no (by omega) h)
  have HYE : Hid (∀ i, (∀ j, j < n → covB B i j = false) → ousL B (i + 1) = ousL B i ++ [B.getD i []]) := fun i h => ousL_yes (kept_yes (by rw [e1]; exact h))
  have HLN := hid (fun k => ousL_len B k)
  have HCV : Hid (∀ i j, covB B i j = decide (j ≠ i ∧ (∀ x ∈ B.getD i [], x ∈ B.getD j []) ∧ (mskN (B.getD j []) ≠ mskN (B.getD i []) ∨ j < i))) := fun _ _ => rfl
  have h0 : (ousL B 0).map mskN = [] := rfl
  generalize ousL B = ol at *
  generalize covB B = cv at *
  clear hU hB
  go_enter Try.func54, Try.ntmps54
  go_wp2_with fail
  go_step3
  go_wp2_with fail
  go_step3
  go_wp2_with fail
  go_loopw [3, 10] (fun xv iv wr => ∃ i : Nat, i ≤ n ∧ iv = .int .i64 i ∧ Hid (RwU wr w.heap.size xv ((ol i).map mskN)) ∧ Hid (Below w.heap.size w wr)) (fun _ iv _ => n - (intOf iv).toNat)
  case atStart => exact ⟨0, Nat.zero_le _, rfl, by rw [h0]; exact ⟨rfl, .inl ⟨rfl, rfl⟩⟩, Below.refl _ _⟩
  case round =>
    obtain ⟨i, hi, rfl, HR, HB⟩ := hrel
    by_cases hlt : i < n
    · have ki := HKU.out wr i HB.out hlt
      obtain ⟨d3, n3, e3, rfl⟩ := HR.out.slv
      have HHi := hid (fun j => sHolds_any (B.getD j []) (B.getD i []) wr (HSM.out j) (HSM.out i))
      have HCi := hid (fun j => HCV.out i j)
      have HYi := hid (HYE.out i)
      generalize B.getD i [] = bi at *
      generalize hmi : mskN bi = mi at *
      have HMI := hid hmi
      clear hmi
      go_wp2_with fail
      clear ki
      go_loopw [17] (fun jv wq => ∃ j : Nat, j ≤ n ∧ jv = .int .i64 j ∧ Hid (∀ q, q < j → cv i q = false) ∧ wq = wr) (fun jv _ => n - (intOf jv).toNat)
      case atStart => exact ⟨0, Nat.zero_le _, rfl, fun u h => absurd h (by omega), rfl⟩
      case round =>
        obtain ⟨j, hj, rfl, HN, hwq⟩ := hrel
        replace hwq := hwq.symm
        subst hwq
        by_cases hjl : j < n
        · have kj := HKU.out wr j HB.out hjl
          have HNX : Hid (cv i j = false → ∀ q, q < j + 1 → cv i q = false) := fun h q hq => by
            rcases Nat.lt_or_ge q j with h2 | h2
            · exact HN.out q h2
            · obtain rfl : q = j := by omega
              exact h
          have HON := hid (HNO.out i j hjl)
          have HCij := hid (HCi.out j)
          by_cases hji : j = i
          · have HE := hid (HNX.out (by rw [HCij.out]; exact decide_eq_false fun h => h.1 hji))
            subst hji
            go_wp2
            go_roundw
            case rel => exact ⟨j + 1, by omega, by go_num, HE, trivial⟩
            case measure => simp [intOf]; omega
          · have hne : ((j : Int) != (i : Int)) = true := by
              have : ¬ (j : Int) = (i : Int) := by omega
              simpa using this
            have HH := hid (HHi.out j)
            generalize B.getD j [] = bj at *
            have HJI := hid hji
            clear hji
            by_cases hh : ∀ x ∈ bi, x ∈ bj
            · rw [decide_eq_true hh] at HH
              have HHH := hid hh
              clear hh
              by_cases hm : mskN bj = mi
              · have hmb : ((mskN bj : Int) != (mi : Int)) = false := by rw [hm]; simp
                by_cases hl : j < i
                · have hl' : (j : Int) < (i : Int) := by omega
                  have HE := hid (HON.out (by rw [HCij.out]; exact decide_eq_true ⟨HJI.out, HHH.out, .inr hl⟩))
                  clear hm hl
                  generalize mskN bj = mj at *
                  go_wp2_with fail
                  refine HH.out.mono ?_
                  rintro e w3 ⟨rfl, hw3⟩
                  subst hw3
                  go_wp2
                  go_roundw
                  case rel => exact ⟨i + 1, by omega, by go_num, by rw [HE.out]; exact HR, HB⟩
                  case measure => simp [intOf]; omega
                · have hl' : ¬ (j : Int) < (i : Int) := by omega
                  have HE := hid (HNX.out (by rw [HCij.out]; exact decide_eq_false fun h => h.2.2.elim (fun h2 => h2 hm) hl))
                  clear hm hl
                  generalize mskN bj = mj at *
                  go_wp2_with fail
                  refine HH.out.mono ?_
                  rintro e w3 ⟨rfl, hw3⟩
                  subst hw3
                  go_wp2
                  go_roundw
                  case rel => exact ⟨j + 1, by omega, by go_num, HE, trivial⟩
                  case measure => simp [intOf]; omega
              · have hmb : ((mskN bj : Int) != (mi : Int)) = true := by
                  have : ¬ (mskN bj : Int) = (mi : Int) := by omega
                  simpa using this
                have HE := hid (HON.out (by rw [HCij.out]; exact decide_eq_true ⟨HJI.out, HHH.out, .inl hm⟩))
                clear hm
                generalize mskN bj = mj at *
                go_wp2_with fail
                refine HH.out.mono ?_
                rintro e w3 ⟨rfl, hw3⟩
                subst hw3
                go_wp2
                go_roundw
                case rel => exact ⟨i + 1, by omega, by go_num, by rw [HE.out]; exact HR, HB⟩
                case measure => simp [intOf]; omega
            · rw [decide_eq_false hh] at HH
              have HE := hid (HNX.out (by rw [HCij.out]; exact decide_eq_false fun h => hh h.2.1))
              clear hh
              generalize mskN bj = mj at *
              go_wp2_with fail
              refine HH.out.mono ?_
              rintro e w3 ⟨rfl, hw3⟩
              subst hw3
              go_wp2
              go_roundw
              case rel => exact ⟨j + 1, by omega, by go_num, HE, trivial⟩
              case measure => simp [intOf]; omega
        · obtain rfl : j = n := by omega
          have HE := hid (HYi.out HN.out)
          have hln := HLN.out i
          have hbA := HB.out.alloc HB.out.size (.cells #[.int .u32 (mi : Nat)] 57)
          have HRA : Hid (RwU (wr.alloc (.cells #[.int .u32 (mi : Nat)] 57)) w.heap.size (.slice d3 n3 e3) ((ol i).map mskN)) := World.ownsRow.alloc HR.out _
          have HCA : Hid ((wr.alloc (.cells #[.int .u32 (mi : Nat)] 57)).cell? ⟨wr.heap.size, 0, none⟩ = some (uv mi)) := (Boxed.new wr _ _).cell
          have HBA := hid hbA
          have hbs : w.heap.size ≤ (wr.alloc (.cells #[.int .u32 (mi : Nat)] 57)).heap.size := hbA.size
          have hlm : ((ol i).map mskN).length ≤ 8 := by rw [List.length_map]; omega
          clear hbA
          go_wp2_with (at_builtin; refine wpList_append_set rfl _ _ rfl w.heap.size _ ((ol i).map mskN) mi rfl HRA.out wr.heap.size rfl HCA.out (by omega) hbs ?_; intro v' w5 hr5 hg5)
          have HR5 := hid hr5
          have HB5 := hid (HBA.out.grown hg5 hbs HRA.out.own)
          clear hr5 hg5
          go_roundw
          case rel => exact ⟨i + 1, by omega, by go_num, by rw [HE.out, List.map_append, show [bi].map mskN = [mi] from by rw [← HMI.out]; rfl]; exact HR5, HB5⟩
          case measure => simp [intOf]; omega
    · obtain rfl : i = n := by omega
      obtain ⟨d3, n3, e3, rfl⟩ := HR.out.slv
      go_wp2
      try rw [Exit.noGoto_ret]
      go_ret
      exact ⟨_, rfl, HR.out, HB.out⟩
end Go.Proofs.Ytockhhleapbpiaa

