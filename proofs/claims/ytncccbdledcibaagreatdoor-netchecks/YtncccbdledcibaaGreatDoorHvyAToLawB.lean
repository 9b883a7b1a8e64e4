/- The law: heavyNet: what it lets through is not too great. -/
import Derived.Test.YtncccbdledcibaaGreatDoorNetEOwn
import Derived.Test.YtncccbdledcibaaGreatDoorTabP3ToBytesA
import Derived.Test.YtncccbdledcibaaGreatDoorGivEToGivB
import Derived.Test.YtncccbdledcibaaGreatDoorChkAToCrA
import Derived.Test.YtncccbdledcibaaGreatDoorBestAToNetA
import Derived.Laws.EntriesVeiled
import Derived.Test.YtncccbdledcibaaGreatDoorRtFToJntB
namespace Go.Proofs.YtncccbdledcibaaGreatDoor
open Go.RowKit Go.Shelf

/-- Lengths that memory allows. -/
structure NHu (V : List Vr) (L : List (List Int)) (R : List (List Fr)) : Prop where
  vars : V.length ≤ 140737488355328 ∧ ∀ x ∈ V, x.1.size ≤ 140737488355328 ∧ x.2.length ≤ 140737488355328 ∧ ∀ s ∈ x.2, s.size ≤ 140737488355328
  pars : L.length ≤ 140737488355328 ∧ ∀ l ∈ L, l.length ≤ 140737488355328
  rows : R.length ≤ 140737488355328 ∧ ∀ l ∈ R, l.length ≤ 140737488355328 ∧ ∀ f ∈ l, f.2.1.size ≤ 140737488355328 ∧ f.2.2.size ≤ 140737488355328
theorem NK.drewN {w wr : World} {x y z : Value} (h : NK w wr x y z) (k : Nat) : NK w (wr.drewN k) x y z := ⟨h.1, below_drewN h.2 k⟩
/-- Looked at so far, and light. -/
def Lit1 (V : List Vr) (v k : Nat) : Prop := k ≤ 2048 → ∀ j (h : j < V.length), j < v → V[j].1.size ≤ 2048 ∧ V[j].2.length ≤ 2048 ∧ ∀ s ∈ V[j].2, s.size ≤ 2048
def Lit2 (L : List (List Int)) (v k : Nat) : Prop := k ≤ 2048 → ∀ j (h : j < L.length), j < v → L[j].length ≤ 2048
def Lit3 (R : List (List Fr)) (v k : Nat) : Prop := k ≤ 2048 → ∀ j (h : j < R.length), j < v → R[j].length + sw R[j] ≤ 2048
/-- What heavyNet lets through. -/
structure NLi (V : List Vr) (L : List (List Int)) (R : List (List Fr)) : Prop where
  all : V.length + L.length + R.length ≤ 2048
  vars : Lit1 V V.length 0
  pars : Lit2 L L.length 0
  rows : Lit3 R R.length 0

/-- What heavyNet returns. -/
def HvR (V : List Vr) (L : List (List Int)) (R : List (List Fr)) (e : Ending) : Prop := ∃ r : Bool, e = .returned (.bool r) ∧ (r = false → NLi V L R)

set_option maxRecDepth 100000 in
set_option maxHeartbeats 4000000 in
theorem heavyNet_any (a b c : Option Addr) (ca cb cc : Nat) (V : List Vr) (L : List (List Int)) (R : List (List Fr)) (w : World) (h : NetI w a b c V L R) (hs : NHu V L R) :
    Calls Tryz.prog 5 #[.agg #[.slice a V.length ca, .slice b L.length cb, .slice c R.length cc]] w fun e w' => HvR V L R e ∧ Below w.heap.size w w' := by
  have HI := hid h
  have hV := hs.vars.1
  have hL := hs.pars.1
  have hR := hs.rows.1
  have HHU := hid hs
  clear h hs
  have HK0 := hid (NK.new w (.slice a V.length ca) (.slice b L.length cb) (.slice c R.length cc))
  obtain ⟨c0, c1, c2⟩ := HK0.out.1.cells
  have e1 : IntKind.i64.wrap ((V.length : Int) + (L.length : Int)) = (V.length : Int) + (L.length : Int) := by rw [IntKind.wrap_i64]; omega
  have e2 : IntKind.i64.wrap ((V.length : Int) + (L.length : Int) + (R.length : Int)) = (V.length : Int) + (L.length : Int) + (R.length : Int) := by rw [IntKind.wrap_i64]; omega
  go_enter Tryz.func5, Tryz.ntmps5
  go_wp2_with fail
  generalize (w.alloc (NC (.slice a V.length ca) (.slice b L.length cb) (.slice c R.length cc))) = w1 at *
  clear c0 c1 c2 e1 e2
  go_loopw [3, 4, 5] (fun kv cv iv wr => ∃ v k q : Nat, v ≤ V.length ∧ iv = .int .i64 v ∧ kv = .int .i64 k ∧ cv = .int .i64 q ∧ k ≤ 2000000000000000 ∧ q ≤ 200000000000000000 ∧ V.length + L.length + R.length ≤ k ∧ Hid (Lit1 V v k) ∧ Hid (NK w wr (.slice a V.length ca) (.slice b L.length cb) (.slice c R.length cc))) (fun _ _ iv _ => V.length - (intOf iv).toNat)
  case atStart => exact ⟨0, V.length + L.length + R.length, 1, Nat.zero_le _, rfl, by rw [Int.natCast_add, Int.natCast_add], rfl, by omega, by omega, Nat.le_refl _, fun _ j _ h => absurd h (by omega), HK0⟩
  case round =>
    obtain ⟨v, k, q, hv, rfl, rfl, rfl, hk, hq, hkk, HP, HK⟩ := hrel
    clear HK0
    obtain ⟨c0, c1, c2⟩ := HK.out.1.cells
    by_cases hgo : v < V.length ∧ k ≤ 2048 ∧ q ≤ 800
    · obtain ⟨hlt, hk2, hq8⟩ := hgo
      obtain ⟨g, o, b', c', rfl, hg, d0, d1, hSt, -⟩ := (HI.out.below HK.out.2).vars v hlt
      have hsm := HHU.out.vars.2 V[v] (List.getElem_mem hlt)
      have HNX : Hid (∀ k', k ≤ k' → (k' ≤ 2048 → V[v].1.size ≤ 2048 ∧ V[v].2.length ≤ 2048 ∧ ∀ s ∈ V[v].2, s.size ≤ 2048) → Lit1 V (v + 1) k') := fun k' h1 h2 h3 j hj hji => by
        rcases Nat.lt_or_ge j v with h4 | h4
        · exact HP.out (by omega) j hj h4
        · obtain rfl : j = v := by omega
          exact h2 h3
      have HST := hid hSt
      clear hSt
      generalize V[v] = x at *
      obtain ⟨nm, vs⟩ := x
      simp only at d0 d1 hsm HNX HST
      have hn47 := hsm.1
      have hv47 := hsm.2.1
      have HVS := hid hsm.2.2
      clear hsm
      have hw1 : IntKind.i64.wrap ((k : Int) + (nm.size : Int)) = (k : Int) + (nm.size : Int) := by rw [IntKind.wrap_i64]; omega
      have hw2 : IntKind.i64.wrap ((k : Int) + (nm.size : Int) + (vs.length : Int)) = (k : Int) + (nm.size : Int) + (vs.length : Int) := by rw [IntKind.wrap_i64]; omega
      go_upto_region 6 with fail
      go_quiet (fail)
      have HKn := hid (HK.out.drewN nq)
      have HSn : Hid (StS (wr.drewN nq) b' vs) := HST.out
      have d1' : (wr.drewN nq).cell? ⟨g, o + v * 2 + 1, none⟩ = some (.slice b' vs.length c') := d1
      clear c0 c1 c2 d0 d1 hw1 hw2 HK HST
      generalize wr.drewN nq = w2 at *
      obtain ⟨c0, c1, c2⟩ := HKn.out.1.cells
      go_wp2_with fail
      clear c0 c1 c2
      go_loopw [3, 6] (fun kv iv wq => ∃ i k' : Nat, i ≤ vs.length ∧ iv = .int .i64 i ∧ kv = .int .i64 k' ∧ k + nm.size + vs.length ≤ k' ∧ k' ≤ 1000000000000000 ∧ Hid (k' ≤ 2048 → ∀ s ∈ vs.take i, s.size ≤ 2048) ∧ wq = w2) (fun _ iv _ => vs.length - (intOf iv).toNat)
      case atStart => exact ⟨0, k + nm.size + vs.length, Nat.zero_le _, rfl, by rw [Int.natCast_add, Int.natCast_add], Nat.le_refl _, by omega, fun _ s hs' => by simp at hs', rfl⟩
      case round =>
        obtain ⟨i, k', hi, rfl, rfl, hkm, hkb, HQ, rfl⟩ := hrel
        obtain ⟨c0, c1, c2⟩ := HKn.out.1.cells
        by_cases hgo2 : i < vs.length ∧ k' ≤ 2048
        · obtain ⟨hil, hk3⟩ := hgo2
          obtain ⟨g2, o2, rfl, hg2, t1⟩ := HSn.out i hil
          have hss := HVS.out vs[i] (List.getElem_mem hil)
          have HQX : Hid (∀ k'', k' ≤ k'' → (k'' ≤ 2048 → vs[i].size ≤ 2048) → k'' ≤ 2048 → ∀ s ∈ vs.take (i + 1), s.size ≤ 2048) := fun k'' h1 h2 h3 s hs' => by
            rw [List.take_succ_eq_append_getElem hil] at hs'
            rcases List.mem_append.1 hs' with h4 | h4
            · exact HQ.out (by omega) s h4
            · rw [List.mem_singleton.1 h4]; exact h2 h3
          generalize vs[i] = s at *
          have hw3 : IntKind.i64.wrap ((k' : Int) + (s.size : Int)) = (k' : Int) + (s.size : Int) := by rw [IntKind.wrap_i64]; omega
          have HX := hid (HQX.out (k' + s.size) (by omega) (fun h => by omega))
          go_wp2
          go_roundw
          case rel => exact ⟨i + 1, k' + s.size, by omega, by go_num, by rw [Int.natCast_add], by omega, by omega, HX, trivial⟩
          case measure => simp [intOf]; omega
        · have HL1 : Hid (Lit1 V (v + 1) k') := HNX.out k' (by omega) fun h3 => ⟨by omega, by omega, fun s hs' => by
            have hil : i = vs.length := by omega
            have := HQ.out h3
            rw [hil, List.take_length] at this
            exact this s hs'⟩
          have hb1 : q * vs.length ≤ 800 * 140737488355328 := Nat.mul_le_mul hq8 hv47
          have hw4 : IntKind.i64.wrap ((q : Int) * (vs.length : Int)) = ((q * vs.length : Nat) : Int) := by
            rw [IntKind.wrap_i64, ← Int.natCast_mul]
            omega
          rcases (show vs.length ≤ i ∨ (i < vs.length ∧ 2048 < k') by omega) with h5 | ⟨h5, h6⟩
          all_goals
            clear hgo2
            by_cases hl1 : 1 < vs.length
            · generalize q * vs.length = q' at *
              go_wp2
              go_roundw
              case rel => exact ⟨v + 1, k', q', by omega, by go_num, rfl, rfl, by omega, by omega, by omega, HL1, HKn⟩
              case measure => simp [intOf]; omega
            · clear hb1 hw4
              go_wp2
              go_roundw
              case rel => exact ⟨v + 1, k', q, by omega, by go_num, rfl, rfl, by omega, by omega, by omega, HL1, HKn⟩
              case measure => simp [intOf]; omega
    · have HLX : Hid (k ≤ 2048 → q ≤ 800 → Lit1 V V.length 0) := fun h1 h2 _ j hj _ => HP.out h1 j hj (by omega)
      rcases (show V.length ≤ v ∨ (v < V.length ∧ 2048 < k) ∨ (v < V.length ∧ k ≤ 2048 ∧ 800 < q) by omega) with h5 | ⟨h5, h6⟩ | ⟨h5, h6, h7⟩
      all_goals
        clear hgo
        go_wp2_with fail
        clear c0 c1 c2
        go_loopw [3, 7] (fun kv iv wq => ∃ j k2 : Nat, j ≤ L.length ∧ iv = .int .i64 j ∧ kv = .int .i64 k2 ∧ k ≤ k2 ∧ k2 ≤ 3000000000000000 ∧ Hid (Lit2 L j k2) ∧ wq = wr) (fun _ iv _ => L.length - (intOf iv).toNat)
        case atStart => exact ⟨0, k, Nat.zero_le _, rfl, rfl, Nat.le_refl _, by omega, fun _ j _ h => absurd h (by omega), rfl⟩
        case round =>
          obtain ⟨j, k2, hj, rfl, rfl, hkm, hkb, HP2, rfl⟩ := hrel
          obtain ⟨c0, c1, c2⟩ := HK.out.1.cells
          by_cases hgo2 : j < L.length ∧ k2 ≤ 2048
          · try (exfalso; omega)
            all_goals
              obtain ⟨hjl, hk3⟩ := hgo2
              obtain ⟨g, o, b', c', rfl, hg, d1, -⟩ := (HI.out.below HK.out.2).pars j hjl
              have hll := HHU.out.pars.2 L[j] (List.getElem_mem hjl)
              have HNX : Hid (∀ k', k2 ≤ k' → (k' ≤ 2048 → L[j].length ≤ 2048) → Lit2 L (j + 1) k') := fun k' h1 h2 h3 i hi hji => by
                rcases Nat.lt_or_ge i j with h4 | h4
                · exact HP2.out (by omega) i hi h4
                · obtain rfl : i = j := by omega
                  exact h2 h3
              generalize L[j] = l at *
              have hw3 : IntKind.i64.wrap ((k2 : Int) + (l.length : Int)) = (k2 : Int) + (l.length : Int) := by rw [IntKind.wrap_i64]; omega
              have HX := hid (HNX.out (k2 + l.length) (by omega) (fun h => by omega))
              go_wp2
              go_roundw
              case rel => exact ⟨j + 1, k2 + l.length, by omega, by go_num, by rw [Int.natCast_add], by omega, by omega, HX, trivial⟩
              case measure => simp [intOf]; omega
          · have HLX2 : Hid (k2 ≤ 2048 → Lit2 L L.length 0) := fun h1 _ i hi _ => HP2.out h1 i hi (by omega)
            rcases (show L.length ≤ j ∨ (j < L.length ∧ 2048 < k2) by omega) with g5 | ⟨g5, g6⟩
            all_goals
              clear hgo2
              go_wp2_with fail
              clear c0 c1 c2
              go_loopw [3, 8] (fun kv iv wq => ∃ j3 k3 : Nat, j3 ≤ R.length ∧ iv = .int .i64 j3 ∧ kv = .int .i64 k3 ∧ k2 ≤ k3 ∧ k3 ≤ 5000000000000000 ∧ Hid (Lit3 R j3 k3) ∧ Hid (NK w wq (.slice a V.length ca) (.slice b L.length cb) (.slice c R.length cc))) (fun _ iv _ => R.length - (intOf iv).toNat)
              case atStart => exact ⟨0, k2, Nat.zero_le _, rfl, rfl, Nat.le_refl _, by omega, fun _ j _ h => absurd h (by omega), HK⟩
              case round =>
                obtain ⟨j3, k3, hj3, rfl, rfl, hkm3, hkb3, HP3, HK3⟩ := hrel
                obtain ⟨c0, c1, c2⟩ := HK3.out.1.cells
                by_cases hgo3 : j3 < R.length ∧ k3 ≤ 2048
                · try (exfalso; omega)
                  all_goals
                    obtain ⟨hjl, hk3⟩ := hgo3
                    obtain ⟨g, o, b', c', rfl, hg, d1, hrf, -⟩ := (HI.out.below HK3.out.2).rows j3 hjl
                    have hll := HHU.out.rows.2 R[j3] (List.getElem_mem hjl)
                    have HNX : Hid (∀ k', k3 ≤ k' → (k' ≤ 2048 → R[j3].length + sw R[j3] ≤ 2048) → Lit3 R (j3 + 1) k') := fun k' h1 h2 h3 i hi hji => by
                      rcases Nat.lt_or_ge i j3 with h4 | h4
                      · exact HP3.out (by omega) i hi h4
                      · obtain rfl : i = j3 := by omega
                        exact h2 h3
                    have HRF := hid hrf
                    have HLL := hid hll
                    clear hrf hll
                    generalize R[j3] = l at *
                    go_wp2_with fail
                    refine (fracBytes_any b' c' l _ HRF.out HLL.out.1 HLL.out.2).mono ?_
                    rintro e w5 ⟨⟨r, rfl, hr1, hr2⟩, hb5⟩
                    have HK5 := hid (HK3.out.step hb5)
                    have hw3 : IntKind.i64.wrap ((k3 : Int) + (r : Int)) = (k3 : Int) + (r : Int) := by rw [IntKind.wrap_i64]; omega
                    have HX := hid (HNX.out (k3 + r) (by omega) (fun h => by have := hr2 (by omega); omega))
                    clear hb5 c0 c1 c2 d1 hr2
                    go_wp2
                    go_roundw
                    case rel => exact ⟨j3 + 1, k3 + r, by omega, by go_num, by rw [Int.natCast_add], by omega, by omega, HX, HK5⟩
                    case measure => simp [intOf]; omega
                · have HLX3 : Hid (k3 ≤ 2048 → Lit3 R R.length 0) := fun h1 _ i hi _ => HP3.out h1 i hi (by omega)
                  have HFIN : Hid (k3 ≤ 2048 → q ≤ 800 → NLi V L R) := fun h1 h2 => ⟨by omega, HLX.out (by omega) h2, HLX2.out (by omega), HLX3.out h1⟩
                  rcases (show R.length ≤ j3 ∨ (j3 < R.length ∧ 2048 < k3) by omega) with f5 | ⟨f5, f6⟩
                  all_goals
                    clear hgo3
                    by_cases hk9 : 2048 < k3
                    · try (exfalso; omega)
                      all_goals
                        go_wp2
                        go_ret
                        exact ⟨⟨true, rfl, fun h => by cases h⟩, HK3.out.2⟩
                    · by_cases hq9 : 800 < q
                      · try (exfalso; omega)
                        all_goals
                          have hq10 : (800 : Int) < (q : Int) := by omega
                          have hk10 : (k3 : Int) ≤ 2048 := by omega
                          clear hk9
                          go_wp2
                          go_ret
                          exact ⟨⟨_, rfl, fun h => absurd h (by simp)⟩, HK3.out.2⟩
                      · try (exfalso; omega)
                        all_goals
                          have HN := hid (HFIN.out (by omega) (by omega))
                          have hk10 : (k3 : Int) ≤ 2048 := by omega
                          clear hk9
                          go_wp2
                          go_ret
                          exact ⟨⟨_, rfl, fun _ => HN.out⟩, HK3.out.2⟩
end Go.Proofs.YtncccbdledcibaaGreatDoor

/- Nets: Given on both sides, whatever is asked. -/
namespace Go.Proofs.YtncccbdledcibaaGreatDoor
open Go.RowKit Go.Shelf

theorem check_any (a b c : Option Addr) (ca cb cc : Nat) (V : List Vr) (L : List (List Int)) (R : List (List Fr)) (w : World) (h : NetI w a b c V L R) (hs : NSm V L R) :
    Calls Tryz.prog 10 #[.agg #[.slice a V.length ca, .slice b L.length cb, .slice c R.length cc]] w fun e w' => e = .returned (.int .i64 (netE V L R)) ∧ Below w.heap.size w w' :=
  nCheck_any a b c ca cb cc V L R w h hs fun h1 h2 h3 h4 U hU => checkRows_any a b c ca cb cc V L R U hU hs h1 h2 h3 h4
set_option maxRecDepth 100000 in
set_option maxHeartbeats 1000000 in
theorem nGiven_no (a b c : Option Addr) (ca cb cc : Nat) (v : Int) (V : List Vr) (L : List (List Int)) (R : List (List Fr)) (w : World) (h : NetI w a b c V L R) (hs : NSm V L R) (h0 : netE V L R ≠ 0) :
    Calls Tryz.prog 6 #[.agg #[.slice a V.length ca, .slice b L.length cb, .slice c R.length cc], .int .i64 v] w fun e w' => TabA [] [] (netE V L R) e w' ∧ Below w.heap.size w w' := by
  have HNC := hid (fun (U : World) (hU : NetI U a b c V L R) => check_any a b c ca cb cc V L R U hU hs)
  have HI := hid h
  generalize netE V L R = ne at *
  clear h hs
  have HK0 := hid (GK.new w (.slice a V.length ca) (.slice b L.length cb) (.slice c R.length cc))
  obtain ⟨c0, c1, c2⟩ := HK0.out.1.1.cells
  go_enter Tryz.func6, Tryz.ntmps6
  go_wp2_with fail
  generalize ((w.alloc (NC (.slice a V.length ca) (.slice b L.length cb) (.slice c R.length cc))).alloc (TC (.slice none 0 0) (.slice none 0 0))) = w1 at *
  refine (HNC.out _ (HI.out.below HK0.out.1.2)).mono ?_
  rintro e w2 ⟨rfl, hb⟩
  have hK := HK0.out.step hb
  clear hb HK0 c0 c1 c2 HNC
  have hnb : (ne == 0) = false := by simpa using h0
  obtain ⟨k0, k1, f0, f1⟩ := hK.2.facts
  clear h0
  go_wp2
  refine bodyPost_ret ((hK.2.put _ _).result2 rfl _ rfl) rfl ?_
  exact ⟨TabA.empty _ _, below_put2 hK.1.2 (by omega) _ _⟩
set_option maxRecDepth 100000 in
set_option maxHeartbeats 1000000 in
theorem nGiven_var (a b c : Option Addr) (ca cb cc : Nat) (v : Int) (V : List Vr) (L : List (List Int)) (R : List (List Fr)) (w : World) (h : NetI w a b c V L R) (hs : NSm V L R) (h0 : netE V L R = 0) (hv : ¬ (0 ≤ v ∧ v < (V.length : Int))) :
    Calls Tryz.prog 6 #[.agg #[.slice a V.length ca, .slice b L.length cb, .slice c R.length cc], .int .i64 v] w fun e w' => TabA [] [] 11 e w' ∧ Below w.heap.size w w' := by
  have HNC := hid (fun (U : World) (hU : NetI U a b c V L R) => check_any a b c ca cb cc V L R U hU hs)
  rw [h0] at HNC
  have HI := hid h
  clear h hs h0
  have HK0 := hid (GK.new w (.slice a V.length ca) (.slice b L.length cb) (.slice c R.length cc))
  obtain ⟨c0, c1, c2⟩ := HK0.out.1.1.cells
  go_enter Tryz.func6, Tryz.ntmps6
  go_wp2_with fail
  generalize ((w.alloc (NC (.slice a V.length ca) (.slice b L.length cb) (.slice c R.length cc))).alloc (TC (.slice none 0 0) (.slice none 0 0))) = w1 at *
  refine (HNC.out _ (HI.out.below HK0.out.1.2)).mono ?_
  rintro e w2 ⟨rfl, hb⟩
  have hK := HK0.out.step hb
  clear hb HK0 c0 c1 c2 HNC
  obtain ⟨c0, c1, c2⟩ := hK.1.1.cells
  obtain ⟨k0, k1, f0, f1⟩ := hK.2.facts
  by_cases h1 : v < 0
  · clear hv
    go_wp2
    refine bodyPost_ret ((hK.2.put _ _).result2 rfl _ rfl) rfl ?_
    exact ⟨TabA.empty _ _, below_put2 hK.1.2 (by omega) _ _⟩
  · have h2 : (0 : Int) ≤ v := by omega
    have h3 : (V.length : Int) ≤ v := by omega
    clear hv h1
    go_wp2
    refine bodyPost_ret ((hK.2.put _ _).result2 rfl _ rfl) rfl ?_
    exact ⟨TabA.empty _ _, below_put2 hK.1.2 (by omega) _ _⟩
/-- What both sides answer to Given. -/
theorem both_Given (a b c : Option Addr) (ca cb cc : Nat) (v : Int) (V : List Vr) (L : List (List Int)) (R : List (List Fr)) (w : World) (h : NetI w a b c V L R) (hN : LsN w b L) (hs : NSm V L R) (hw : ∀ l ∈ R, fw l ≤ 4200) :
    ∃ (T : List Int) (F : List Fr) (k : Int), T.length ≤ 100000 ∧ F.length ≤ 100000 ∧ (∀ U, Below w.heap.size w U → Calls Tryz.prog 6 #[.agg #[.slice a V.length ca, .slice b L.length cb, .slice c R.length cc], .int .i64 v] U fun e w' => TabA T F k e w' ∧ Below U.heap.size U w') ∧
      (∀ U, Below w.heap.size w U → Calls Tryz.prog 7 #[.agg #[.slice a V.length ca, .slice b L.length cb, .slice c R.length cc], .int .i64 v] U fun e w' => TabA T F k e w' ∧ Below U.heap.size U w') := by
  by_cases h0 : netE V L R = 0
  · by_cases hv : 0 ≤ v ∧ v < (V.length : Int)
    · obtain ⟨n, rfl⟩ : ∃ n : Nat, v = n := ⟨v.toNat, by omega⟩
      have hn : n < V.length := by omega
      have hok := netE_ok h0
      have hs4 : ∀ u, sz (sizesN V) u ≤ 4 := fun u => by have := hok.fine.sz_le u; rwa [toN_iL] at this
      have hnL : n < L.length := by rw [hok.len]; exact hn
      have hup : Up (gU L n) V.length := by
        rw [gU, List.getD_eq_getElem?_getD, List.getElem?_eq_getElem hnL]
        exact togL_up (hok.up n hnL) (up_one hn)
      have h8 := hok.n8
      have hul := hup.length
      have hcn : cnt (sizesN V) (toN (gU L n)) ≤ 65536 := cnt_small hs4 (by rw [toN_length]; omega)
      refine ⟨gU L n, gL V L R n, 0, by omega, by simp [gL]; omega, fun U hU => ?_, fun U hU => ?_⟩
      · exact nGiven_yes a b c ca cb cc n V L R U (h.below hU) (hN.below h.pars hU) hs hw h0 hn fun U' hU' => check_any a b c ca cb cc V L R U' hU' hs
      · exact rGiven_yes a b c ca cb cc n V L R U (h.below hU) hs hw h0 hn
    · exact ⟨[], [], 11, by simp, by simp, fun U hU => nGiven_var a b c ca cb cc v V L R U (h.below hU) hs h0 hv, fun U hU => rGiven_var a b c ca cb cc v V L R U (h.below hU) hs h0 hv⟩
  · exact ⟨[], [], netE V L R, by simp, by simp, fun U hU => nGiven_no a b c ca cb cc v V L R U (h.below hU) hs h0, fun U hU => rGiven_no a b c ca cb cc v V L R U (h.below hU) hs h0⟩
theorem nsm_of {V : List Vr} {L : List (List Int)} {R : List (List Fr)} (h : NLi V L R) : NSm V L R ∧ ∀ l ∈ R, fw l ≤ 4200 := by
  have ha := h.all
  have h3 : ∀ l ∈ R, l.length + sw l ≤ 2048 := fun l hl => by
    obtain ⟨j, hj, rfl⟩ := List.getElem_of_mem hl
    exact h.rows (by omega) j hj hj
  refine ⟨⟨⟨by omega, fun x hx => ?_⟩, ⟨by omega, fun l hl => ?_⟩, ⟨by omega, fun l hl => ?_⟩⟩, fun l hl => ?_⟩
  · obtain ⟨j, hj, rfl⟩ := List.getElem_of_mem hx
    obtain ⟨h1, h2, h4⟩ := h.vars (by omega) j hj hj
    exact ⟨by omega, by omega, fun s hs => by have := h4 s hs; omega⟩
  · obtain ⟨j, hj, rfl⟩ := List.getElem_of_mem hl
    have := h.pars (by omega) j hj hj
    omega
  · have h5 := h3 l hl
    have h6 := fw_sw l
    omega
  · have h5 := h3 l hl
    have h6 := fw_sw l
    omega
end Go.Proofs.YtncccbdledcibaaGreatDoor


/- Package table: Best. -/
namespace Go.Proofs.YtncccbdledcibaaGreatDoor
open Go.RowKit Go.Shelf

end Go.Proofs.YtncccbdledcibaaGreatDoor

/- The law's comparison of two answers beside errors. -/
namespace Go.Proofs.YtncccbdledcibaaGreatDoor
open Go.RowKit

set_option maxRecDepth 100000 in
set_option maxHeartbeats 1000000 in
theorem lawNought_any (w : World) :
    Calls Tryz.prog 47 #[.agg #[.bool false, .string ⟨#[]⟩, .string ⟨#[]⟩]] w fun e w' => e = .returned (.bool true) ∧ Below w.heap.size w w' := by
  go_enter Tryz.func47, Tryz.ntmps47
  have hB0 : Below w.heap.size w (w.alloc (FC false ⟨#[]⟩ ⟨#[]⟩)) := (Below.refl _ w).alloc (Nat.le_refl _) _
  go_wp2_with fail
  go_quiet (fail)
  go_wp2
  go_ret
  exact ⟨rfl, below_drewN hB0 _⟩

set_option maxRecDepth 100000 in
set_option maxHeartbeats 1000000 in
theorem oneFrac_ok (n : Bool) (x y : ByteArray) (w : World) :
    Calls Tryz.prog 16 #[.agg #[.bool n, .string x, .string y], .int .i64 0, .agg #[.bool n, .string x, .string y], .int .i64 0] w fun e w' => e = .returned (.bool true) ∧ Below w.heap.size w w' := by
  go_enter Tryz.func16, Tryz.ntmps16
  have hB0 : Below w.heap.size w ((w.alloc (FC n x y)).alloc (FC n x y)) := ((Below.refl _ w).alloc (Nat.le_refl _) _).alloc (by simp) _
  go_wp2
  go_ret
  exact ⟨rfl, hB0⟩

set_option maxRecDepth 100000 in
set_option maxHeartbeats 1000000 in
theorem oneFrac_err (k : Int) (hk : ¬ k = 0) (w : World) :
    Calls Tryz.prog 16 #[.agg #[.bool false, .string ⟨#[]⟩, .string ⟨#[]⟩], .int .i64 k, .agg #[.bool false, .string ⟨#[]⟩, .string ⟨#[]⟩], .int .i64 k] w fun e w' => e = .returned (.bool true) ∧ Below w.heap.size w w' := by
  have hkb : (k == 0) = false := beq_eq_false_iff_ne.2 hk
  go_enter Tryz.func16, Tryz.ntmps16
  have hB0 : Below w.heap.size w ((w.alloc (FC false ⟨#[]⟩ ⟨#[]⟩)).alloc (FC false ⟨#[]⟩ ⟨#[]⟩)) := ((Below.refl _ w).alloc (Nat.le_refl _) _).alloc (by simp) _
  go_wp2_with fail
  refine (lawNought_any _).mono ?_
  rintro e w1 ⟨rfl, hb1⟩
  have hB1 := hB0.trans (hb1.mono hB0.size)
  go_wp2
  go_ret
  exact ⟨rfl, hB1⟩
end Go.Proofs.YtncccbdledcibaaGreatDoor

/- The law's small functions on tables. -/
namespace Go.Proofs.YtncccbdledcibaaGreatDoor
open Go.RowKit Go.Shelf

set_option maxRecDepth 100000 in
set_option maxHeartbeats 400000 in
theorem sameInts_any (a b : Option Addr) (ca cb : Nat) (l : List Int) (w : World) (ha : IntS w a l) (hb : IntS w b l) (hn : l.length ≤ 100000) :
    Calls Tryz.prog 12 #[.slice a l.length ca, .slice b l.length cb] w fun e w' => e = .returned (.bool true) ∧ Below w.heap.size w w' := by
  have HA := hid ha
  have HB := hid hb
  clear ha hb
  go_enter Tryz.func12, Tryz.ntmps12
  go_wp2_with fail
  go_loopw [5] (fun iv wr => ∃ i : Nat, i ≤ l.length ∧ iv = .int .i64 i ∧ Hid (Below w.heap.size w wr)) (fun iv _ => l.length - (intOf iv).toNat)
  case atStart => exact ⟨0, Nat.zero_le _, rfl, Below.refl _ _⟩
  case round =>
    obtain ⟨i, hi, rfl, HW⟩ := hrel
    by_cases hlt : i < l.length
    · obtain ⟨g, o, rfl, hg, c0⟩ := (HA.out.below HW.out) i hlt
      obtain ⟨g2, o2, rfl, hg2, c2⟩ := (HB.out.below HW.out) i hlt
      generalize l[i] = x at *
      go_wp2_with fail
      go_quiet (fail)
      go_wp2
      go_roundw
      case rel => exact ⟨i + 1, by omega, by go_num, below_dn HW.out _⟩
      case measure => simp [intOf]; omega
    · obtain rfl : i = l.length := by omega
      go_wp2
      go_ret
      exact ⟨rfl, HW.out⟩

set_option maxRecDepth 100000 in
set_option maxHeartbeats 400000 in
theorem sameFracs_any (a b : Option Addr) (ca cb : Nat) (l : List Fr) (w : World) (ha : FrS w a l) (hb : FrS w b l) (hn : l.length ≤ 100000) :
    Calls Tryz.prog 46 #[.slice a l.length ca, .slice b l.length cb] w fun e w' => e = .returned (.bool true) ∧ Below w.heap.size w w' := by
  have HA := hid ha
  have HB := hid hb
  clear ha hb
  go_enter Tryz.func46, Tryz.ntmps46
  go_wp2_with fail
  go_loopw [5] (fun iv wr => ∃ i : Nat, i ≤ l.length ∧ iv = .int .i64 i ∧ Hid (Below w.heap.size w wr)) (fun iv _ => l.length - (intOf iv).toNat)
  case atStart => exact ⟨0, Nat.zero_le _, rfl, Below.refl _ _⟩
  case round =>
    obtain ⟨i, hi, rfl, HW⟩ := hrel
    by_cases hlt : i < l.length
    · obtain ⟨g, o, rfl, hg, a0, a1, a2⟩ := (HA.out.below HW.out) i hlt
      obtain ⟨g2, o2, rfl, hg2, b0, b1, b2⟩ := (HB.out.below HW.out) i hlt
      generalize l[i] = f at *
      obtain ⟨fn, fx, fy⟩ := f
      simp only at a0 a1 a2 b0 b1 b2
      go_wp2_with fail
      go_quiet (fail)
      go_wp2
      go_roundw
      case rel => exact ⟨i + 1, by omega, by go_num, below_dn HW.out _⟩
      case measure => simp [intOf]; omega
    · obtain rfl : i = l.length := by omega
      go_wp2
      go_ret
      exact ⟨rfl, HW.out⟩

set_option maxRecDepth 100000 in
set_option maxHeartbeats 400000 in
theorem sameTable_any (a b c d : Option Addr) (ca cb cc cd : Nat) (vars : List Int) (l : List Fr) (w : World) (ha : IntS w a vars) (hb : FrS w b l) (hc : IntS w c vars) (hd : FrS w d l) (hn : vars.length ≤ 100000) (hm : l.length ≤ 100000) :
    Calls Tryz.prog 15 #[.agg #[.slice a vars.length ca, .slice b l.length cb], .agg #[.slice c vars.length cc, .slice d l.length cd]] w fun e w' => e = .returned (.bool true) ∧ Below w.heap.size w w' := by
  have HA := hid ha
  have HB := hid hb
  have HC := hid hc
  have HD := hid hd
  clear ha hb hc hd
  have hB : Below w.heap.size w ((w.alloc (TC (.slice a vars.length ca) (.slice b l.length cb))).alloc (TC (.slice c vars.length cc) (.slice d l.length cd))) := ((Below.refl _ w).alloc (Nat.le_refl _) _).alloc (by simp) _
  have h0 := (TBox.at (w := w) rfl (.slice a vars.length ca) (.slice b l.length cb)).alloc (TC (.slice c vars.length cc) (.slice d l.length cd))
  have h1 := TBox.at (w := w.alloc (TC (.slice a vars.length ca) (.slice b l.length cb))) (g := w.heap.size + 1) (by simp) (.slice c vars.length cc) (.slice d l.length cd)
  have k0 := h0.c0
  have k1 := h1.c0
  go_enter Tryz.func15, Tryz.ntmps15
  go_wp2_with fail
  generalize ((w.alloc (TC (.slice a vars.length ca) (.slice b l.length cb))).alloc (TC (.slice c vars.length cc) (.slice d l.length cd))) = W at *
  refine (sameInts_any a c ca cc vars _ (HA.out.below hB) (HC.out.below hB) hn).mono ?_
  rintro e w1 ⟨rfl, hb1⟩
  replace hB := hB.trans (hb1.mono hB.size)
  replace h0 := h0.below hb1 h0.lt
  replace h1 := h1.below hb1 h1.lt
  clear k0 k1 hb1
  have k0 := h0.c1
  have k1 := h1.c1
  go_wp2_with fail
  refine (sameFracs_any b d cb cd l _ (HB.out.below hB) (HD.out.below hB) hm).mono ?_
  rintro e w2 ⟨rfl, hb2⟩
  go_wp2
  go_ret
  exact ⟨rfl, hB.trans (hb2.mono hB.size)⟩

end Go.Proofs.YtncccbdledcibaaGreatDoor

/- Both answer alike: each call on tables, in package table and in the document's answer. -/
namespace Go.Proofs.YtncccbdledcibaaGreatDoor
open Go.RowKit Go.Shelf

/-- Both answer the same table and error. -/
def TwoT (w : World) (f g : FuncId) (args : Array Value) : Prop := ∃ (V : List Int) (L : List Fr) (k : Int), V.length ≤ 100000 ∧ L.length ≤ 100000 ∧
  (∀ W, Below w.heap.size w W → Calls Tryz.prog f args W fun e w' => TabA V L k e w' ∧ Below W.heap.size W w') ∧ ∀ W, Below w.heap.size w W → Calls Tryz.prog g args W fun e w' => TabA V L k e w' ∧ Below W.heap.size W w'
/-- A table that came in. -/
structure TIn (w : World) (b c : Option Addr) (cb : Nat) (vars : List Int) (l : List Fr) : Prop where
  ints : IntS w b vars
  cells : FrS w c l
  nil : b = none → cb = 0
  len : vars.length ≤ 4096
  small : fw l ≤ 8192
theorem TIn.below {w w' : World} {b c : Option Addr} {cb : Nat} {vars : List Int} {l : List Fr} (h : TIn w b c cb vars l) (hb : Below w.heap.size w w') : TIn w' b c cb vars l := ⟨h.ints.below hb, h.cells.below hb, h.nil, h.len, h.small⟩
theorem cnt_all {sizes vars : List Int} (h1 : Fine sizes) (h2 : Up vars sizes.length) : cnt (toN sizes) (toN vars) ≤ 65536 := cnt_small h1.sz_le (by rw [toN_length]; have := h1.eight; have := h2.length; omega)
theorem FrS.farT {V : World} {c : Option Addr} {l : List Fr} {g : Nat} {x y : Value} (h : FrS V c l) (hb : TBox V g x y) (hx : SlV x) (hy : SlV y) (j : Nat) (u : Value) : FrS (V.setCell ⟨g, j, none⟩ u) c l := fun k hk => by
  obtain ⟨g', o, rfl, hlt, h0, h1, h2⟩ := h k hk
  obtain ⟨a1, n1, c1, rfl⟩ := hx
  obtain ⟨a2, n2, c2, rfl⟩ := hy
  have hne : ¬ g' = g := fun e => by
    subst e
    rw [cell_of_row V g' _ _ _ (0, 0) hb] at h0
    match hm : o + k * 3 with
    | 0 => rw [hm] at h0; simp at h0
    | 1 => rw [hm] at h0; simp at h0
    | m + 2 => rw [hm] at h0; simp at h0
  have far : ∀ i, (V.setCell ⟨g, j, none⟩ u).cell? ⟨g', i, none⟩ = V.cell? ⟨g', i, none⟩ := fun i => World.cell?_setCell_other _ _ _ _ (fun e => hne (congrArg Addr.block e).symm)
  exact ⟨g', o, rfl, Nat.lt_of_lt_of_le hlt (KeepsOthers.setCell V _ _).size, (far _).trans h0, (far _).trans h1, (far _).trans h2⟩
theorem FrS.putT {V : World} {c : Option Addr} {l : List Fr} {g : Nat} {x y : Value} (h : FrS V c l) (hb : TBox V g x y) (hx : SlV x) (hy : SlV y) {x' : Value} (hx' : SlV x') (y' : Value) : FrS ((V.setCell ⟨g, 0, none⟩ x').setCell ⟨g, 1, none⟩ y') c l := by
  have h1 : TBox (V.setCell ⟨g, 0, none⟩ x') g x' y := heap_setCell_same V g 0 _ _ x' hb
  exact (h.farT hb hx hy 0 _).farT h1 hx' hy 1 _
end Go.Proofs.YtncccbdledcibaaGreatDoor

