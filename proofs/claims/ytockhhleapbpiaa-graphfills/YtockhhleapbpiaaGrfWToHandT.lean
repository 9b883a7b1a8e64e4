/- The law GraphFills. -/
import Derived.Test.YtockhhleapbpiaaFilEOwn
import Derived.Test.YtockhhleapbpiaaFilGOwn
import Derived.Test.YtockhhleapbpiaaLawAToFilH
import Derived.Test.YtockhhleapbpiaaRefCToRefQ
import Derived.Deep.Strs
import Derived.HandedShaped
import Derived.ProofKit
import Derived.OpenShut
import Derived.ShutString
import Derived.SizedLaws
import Derived.Test.YtockhhleapbpiaaRefRToSetB
import Derived.Carry
namespace Go.Proofs.Ytockhhleapbpiaa
open Go.RowKit Go.Shelf

theorem OwI.ls {w : World} {B : Nat} {y : Value} {Ks : List PI2} {Ls : List (List Int)} (h : OwI w B y Ks) (hs : Ks.map (·.2) = Ls) : ∃ a c, y = .slice a Ls.length c ∧ LsS w a Ls := by
  by_cases hp : 0 < Ls.length
  · obtain ⟨g, c, h1, h2, h3⟩ := h.lists hs hp
    refine ⟨_, c, h1, fun k hk => ?_⟩
    obtain ⟨b, cb, h4, h5⟩ := h3 k hk
    have e : Ls.getD k [] = Ls[k] := by rw [List.getD_eq_getElem?_getD, List.getElem?_eq_getElem hk]; rfl
    rw [e] at h4 h5
    exact ⟨g, 0, b, cb, rfl, h2, by rw [Nat.zero_add]; exact h4, h5⟩
  · have hl : Ks.length = 0 := by
      have := congrArg List.length hs
      rw [List.length_map] at this
      omega
    rcases h.1.2 with ⟨h1, -⟩ | ⟨g, cap, cur, h1, -⟩
    · exact ⟨none, 0, by rw [h1, show Ls.length = 0 by omega], fun k hk => absurd hk (by omega)⟩
    · exact ⟨_, cap, by rw [h1, hl, show Ls.length = 0 by omega], fun k hk => absurd hk (by omega)⟩
theorem OwK.links {w : World} {B : Nat} {x : Value} {P : List PK} {K : List (Nat × Nat × List Int)} (h : OwK w B x P) (hs : P.map pk3 = K) : ∃ d cd, x = .slice d K.length cd ∧ LnS w d K := by
  have hl : P.length = K.length := by rw [← hs, List.length_map]
  by_cases ht : 0 < K.length
  · obtain ⟨g, c, h1, h2, h3, h4⟩ := own_at h.1 (by omega)
    refine ⟨_, c, by rw [h1, hl], fun k hk => ?_⟩
    have hkp : k < P.length := by omega
    obtain ⟨q0, q1, q2⟩ := kC_get P k hkp
    obtain ⟨d, cd, e1, e2⟩ := (h.2 _ (List.getElem_mem hkp)).ints
    have el : K[k] = pk3 P[k] := by subst hs; simp
    rw [el]
    have hc : ∀ j v, (kC P)[j]? = some v → w.cell? ⟨g, j, none⟩ = some v := fun j v hj => by
      obtain ⟨hjl, hje⟩ := List.getElem?_eq_some_iff.1 hj
      rw [h4 j hjl, hje]
    exact ⟨g, d, cd, rfl, h3, hc _ _ q0, hc _ _ q1, by rw [hc _ _ q2, e1]; rfl, e2⟩
  · rcases h.1.2 with ⟨h1, -⟩ | ⟨g, cap, cur, h1, -⟩
    · exact ⟨none, 0, by rw [h1, show K.length = 0 by omega], fun k hk => absurd hk (by omega)⟩
    · exact ⟨_, cap, by rw [h1, hl], fun k hk => absurd hk (by omega)⟩
theorem lkL_in {C : List (List Nat)} (h : 0 < C.length) (h8 : C.length ≤ 8) : ∀ t, ∀ p ∈ lkL C t, p.2.2.length ≤ 1000 ∧ p.1 ≤ 1000 ∧ p.2.1 ≤ 1000
  | 0, p, hp => by cases hp
  | t + 1, p, hp => by
    rw [lkL] at hp
    rcases List.mem_append.1 hp with hp | hp
    · exact lkL_in h h8 t p hp
    · rw [List.mem_singleton.1 hp]
      have h1 := nrI_lt h (thR_lt h t) 8
      have h2 := memU_len (sepN C (nrI C (thR C t) 8).a (nrI C (thR C t) 8).b) 8
      refine ⟨?_, by show (nrI C (thR C t) 8).a ≤ 1000; omega, by show (nrI C (thR C t) 8).b ≤ 1000; omega⟩
      show (memL _).length ≤ 1000
      rw [memL, iL_length]
      omega
theorem memL_small (s : List Nat) : (memL s).length ≤ 1000 := by
  have := memU_len s 8
  rw [memL, iL_length]
  omega

set_option maxRecDepth 100000 in
set_option maxHeartbeats 4000000 in
theorem graphFills_any (a b : Option Addr) (ca cb : Nat) (N Bg : List (List Int)) (w : World) (hN : LsS w a N) (hB : LsS w b Bg) (hNl : N.length ≤ 140737488355328 ∧ ∀ l ∈ N, l.length ≤ 140737488355328) (hBl : Bg.length ≤ 140737488355328 ∧ ∀ l ∈ Bg, l.length ≤ 140737488355328) :
    Calls Try.prog 4 #[.slice a N.length ca, .slice b Bg.length cb] w fun e w' => e = .returned (.bool true) ∧ Below w.heap.size w w' := by
  have HH1 := hid (heavyLists_any a ca N w hN hNl.2 hNl.1)
  have HH2 := hid (heavyLists_any b cb Bg w hB hBl.2 hBl.1)
  have HGF := hid (gFill_any a ca N w hN hNl.2)
  have HRF : Hid (∀ U : World, Below w.heap.size w U → N.length ≤ 512 → (∀ l ∈ N, l.length ≤ 512) → Calls Try.prog 21 #[.slice a N.length ca] U fun e w' => Below U.heap.size U w' ∧
      ((nearB N = true ∧ ∃ x y Bs, e = .returned (.tuple #[x, y, .int .i64 0]) ∧ RwI w' U.heap.size x (iL (flS (parN N) N.length N.length).ord) ∧ OwI w' U.heap.size y Bs ∧ Bs.map (·.2) = (flS (parN N) N.length N.length).bag.map memL) ∨ (nearB N = false ∧ e = .returned (.tuple #[.slice none 0 0, .slice none 0 0, .int .i64 11])))) := fun U hb h1 h2 => rFill_any a ca N U (hN.below hb) (fun l hl => by have := h2 l hl; omega) (by omega)
  have HGT := hid (fun (U : World) (hb : Below w.heap.size w U) => gTree_any b cb Bg U (hB.below hb) hBl.2)
  have HRT : Hid (∀ U : World, Below w.heap.size w U → Bg.length ≤ 512 → (∀ l ∈ Bg, l.length ≤ 512) → Calls Try.prog 23 #[.slice b Bg.length cb] U fun e w' => Below U.heap.size U w' ∧
      ((bagsB Bg = true ∧ ∃ x y Ks P, e = .returned (.tuple #[x, y, .int .i64 0]) ∧ OwI w' U.heap.size x Ks ∧ Ks.map (·.2) = (ousL (parN Bg) Bg.length).map memL ∧ OwK w' U.heap.size y P ∧ P.map pk3 = lkL (ousL (parN Bg) Bg.length) ((ousL (parN Bg) Bg.length).length - 1)) ∨ (bagsB Bg = false ∧ e = .returned (.tuple #[.slice none 0 0, .slice none 0 0, .int .i64 11])))) := fun U hb h1 h2 => rTree_any b cb Bg U (hB.below hb) (fun l hl => by have := h2 l hl; omega) (by omega)
  have HOL : Hid ((iL (flS (parN N) N.length N.length).ord).length = N.length) := by show _ = _; rw [iL_length, flS_seq]; simp
  have HBLn : Hid (((flS (parN N) N.length N.length).bag.map memL).length = N.length) := by show _ = _; rw [flS_bags]; simp
  have HBM : Hid (∀ l ∈ (flS (parN N) N.length N.length).bag.map memL, l.length ≤ 1000) := fun l hl => by
    obtain ⟨s, _, rfl⟩ := List.mem_map.1 hl
    exact memL_small s
  have HCM : Hid (∀ l ∈ (ousL (parN Bg) Bg.length).map memL, l.length ≤ 1000) := fun l hl => by
    obtain ⟨s, _, rfl⟩ := List.mem_map.1 hl
    exact memL_small s
  have HCB : Hid (bagsB Bg = true → 0 < (ousL (parN Bg) Bg.length).length ∧ (ousL (parN Bg) Bg.length).length ≤ 8) := fun h => by
    obtain ⟨h1, h2, h3⟩ := bags_parts h
    have h4 := ous_pos (B := parN Bg) (by rw [parN_length]; omega) h3
    rw [parN_length] at h4
    have h5 := ousL_len (parN Bg) Bg.length
    exact ⟨h4, by omega⟩
  clear hN hB hNl hBl
  go_enter Try.func4, Try.ntmps4
  go_wp2_with fail
  refine HH1.out.mono ?_
  rintro e w1 ⟨q1, rfl, hq1, rfl⟩
  cases q1 with
  | true =>
    clear hq1
    go_wp2
    go_ret
    exact ⟨rfl, Below.refl _ _⟩
  | false =>
    obtain ⟨hn1, hn2⟩ := hq1 rfl
    clear hq1
    have HNS := hid hn2
    clear hn2
    go_wp2_with fail
    refine HH2.out.mono ?_
    rintro e w2 ⟨q2, rfl, hq2, rfl⟩
    cases q2 with
    | true =>
      clear hq2
      go_wp2
      go_ret
      exact ⟨rfl, Below.refl _ _⟩
    | false =>
      obtain ⟨hm1, hm2⟩ := hq2 rfl
      have HMS := hid hm2
      clear hq2 hm2 HH1 HH2
      go_wp2_with fail
      refine HGF.out.mono ?_
      rintro e w3 ⟨hfl, hb3⟩
      have HB3 := hid hb3
      have HR3 := hid (HRF.out w3 hb3 hn1 HNS.out)
      clear hb3 HGF HRF
      have key : ∃ (v1 v2 v3 v4 : Value) (er : Int), e = .returned (.tuple #[v1, v2, .int .i64 er]) ∧ (er = 0 ∨ er = 11) ∧ Hid (Calls Try.prog 21 #[.slice a N.length ca] w3 fun e w' => ∃ v3 v4, e = .returned (.tuple #[v3, v4, .int .i64 er]) ∧ Below w3.heap.size w3 w' ∧ (∀ U : World, Below w'.heap.size w' U → Calls Try.prog 10 #[v1, v3] U fun e w'' => e = .returned (.bool true) ∧ Below U.heap.size U w'') ∧ ∀ U : World, Below w'.heap.size w' U → Calls Try.prog 19 #[v2, v4] U fun e w'' => e = .returned (.bool true) ∧ Below U.heap.size U w'') := by
        rcases hfl with ⟨hnr, d, cd, G, h1, h2, h3⟩ | ⟨hnr, h1⟩
        · refine ⟨_, _, .slice none 0 0, .slice none 0 0, 0, h1, .inl rfl, HR3.out.mono ?_⟩
          rintro e' w' ⟨hb', ⟨_, x, y, Bs, rfl, hx, hy, hbs⟩ | ⟨hc, _⟩⟩
          · obtain ⟨dx, cx, rfl, hxi⟩ := hx.ints
            obtain ⟨ay, cy, rfl, hyl⟩ := hy.ls hbs
            refine ⟨_, _, rfl, hb', fun U hU => ?_, fun U hU => ?_⟩
            · have := sameInts_any d dx cd cx _ U ((h2.below hb').below hU) (hxi.below hU) (by rw [HOL.out]; omega)
              rw [HOL.out] at this
              rw [HOL.out]
              exact this
            · have := sameLists_any (some ⟨G, 0, none⟩) ay N.length cy _ U ((h3.below hb').below hU) (hyl.below hU) (by rw [HBLn.out]; omega) HBM.out
              rw [HBLn.out] at this
              rw [HBLn.out]
              exact this
          · rw [hnr] at hc; cases hc
        · refine ⟨_, _, .slice none 0 0, .slice none 0 0, 11, h1, .inr rfl, HR3.out.mono ?_⟩
          rintro e' w' ⟨hb', ⟨hc, _⟩ | ⟨_, rfl⟩⟩
          · rw [hnr] at hc; cases hc
          · exact ⟨_, _, rfl, hb', fun U _ => sameInts_any none none 0 0 [] U (fun k hk => absurd hk (by simp)) (fun k hk => absurd hk (by simp)) (by simp), fun U _ => sameLists_any none none 0 0 [] U (fun k hk => absurd hk (by simp)) (fun k hk => absurd hk (by simp)) (by simp) (fun l hl => by cases hl)⟩
      obtain ⟨v1, v2, -, -, er, rfl, her, HRR⟩ := key
      clear hfl HR3 HOL HBLn HBM
      have hne : (er != er) = false := bne_self_eq_false _
      go_wp2_with fail
      refine HRR.out.mono ?_
      rintro e w4 ⟨v3, v4, rfl, hb4, hs1, hs2⟩
      have HB4 := hid (HB3.out.trans (hb4.mono HB3.out.size))
      have HS1 := hid (hs1 w4 (Below.refl _ _))
      have HS2 := hid hs2
      clear hb4 hs1 hs2 HRR
      go_wp2_with fail
      refine HS1.out.mono ?_
      rintro e w5 ⟨rfl, hb5⟩
      have HB5 := hid (HB4.out.trans (hb5.mono HB4.out.size))
      have HS3 := hid (HS2.out w5 hb5)
      clear hb5 HS1 HS2
      go_wp2_with fail
      refine HS3.out.mono ?_
      rintro e w6 ⟨rfl, hb6⟩
      have HB6 := hid (HB5.out.trans (hb6.mono HB5.out.size))
      clear hb6 HS3 hne her
      have HG6 := hid (HGT.out w6 HB6.out)
      clear HGT
      go_wp2_with fail
      refine HG6.out.mono ?_
      rintro e w7 ⟨hfl, hb7⟩
      have HB7 := hid (HB6.out.trans (hb7.mono HB6.out.size))
      have HR3 := hid (HRT.out w7 HB7.out hm1 HMS.out)
      clear hb7 HG6 HRT
      have key : ∃ (v1 v2 v3 v4 : Value) (er : Int), e = .returned (.tuple #[v1, v2, .int .i64 er]) ∧ (er = 0 ∨ er = 11) ∧ Hid (Calls Try.prog 23 #[.slice b Bg.length cb] w7 fun e w' => ∃ v3 v4, e = .returned (.tuple #[v3, v4, .int .i64 er]) ∧ Below w7.heap.size w7 w' ∧ (∀ U : World, Below w'.heap.size w' U → Calls Try.prog 19 #[v1, v3] U fun e w'' => e = .returned (.bool true) ∧ Below U.heap.size U w'') ∧ ∀ U : World, Below w'.heap.size w' U → Calls Try.prog 24 #[v2, v4] U fun e w'' => e = .returned (.bool true) ∧ Below U.heap.size U w'') := by
        rcases hfl with ⟨hnr, G, d, cd, h1, h2, h3⟩ | ⟨hnr, h1⟩
        · obtain ⟨hc0, hc8⟩ := HCB.out hnr
          refine ⟨_, _, .slice none 0 0, .slice none 0 0, 0, h1, .inl rfl, HR3.out.mono ?_⟩
          rintro e' w' ⟨hb', ⟨_, x, y, Ks, P, rfl, hx, hks, hy, hps⟩ | ⟨hc, _⟩⟩
          · obtain ⟨ax, cx, rfl, hxl⟩ := hx.ls hks
            obtain ⟨dy, cy, rfl, hyl⟩ := hy.links hps
            refine ⟨_, _, rfl, hb', fun U hU => ?_, fun U hU => ?_⟩
            · have := sameLists_any (some ⟨G, 0, none⟩) ax (ousL (parN Bg) Bg.length).length cx _ U ((h2.below hb').below hU) (hxl.below hU) (by rw [List.length_map]; omega) HCM.out
              rw [List.length_map] at this
              rw [List.length_map]
              exact this
            · have := sameLinks_any d dy cd cy _ U ((h3.below hb').below hU) (hyl.below hU) (by rw [lkL_cnt]; omega) (lkL_in hc0 hc8 _)
              rw [lkL_cnt] at this
              rw [lkL_cnt]
              exact this
          · rw [hnr] at hc; cases hc
        · refine ⟨_, _, .slice none 0 0, .slice none 0 0, 11, h1, .inr rfl, HR3.out.mono ?_⟩
          rintro e' w' ⟨hb', ⟨hc, _⟩ | ⟨_, rfl⟩⟩
          · rw [hnr] at hc; cases hc
          · exact ⟨_, _, rfl, hb', fun U _ => sameLists_any none none 0 0 [] U (fun k hk => absurd hk (by simp)) (fun k hk => absurd hk (by simp)) (by simp) (fun l hl => by cases hl), fun U _ => sameLinks_any none none 0 0 [] U (fun k hk => absurd hk (by simp)) (fun k hk => absurd hk (by simp)) (by simp) (fun l hl => by cases hl)⟩
      obtain ⟨x1, x2, -, -, er2, rfl, her, HRR⟩ := key
      clear hfl HR3 HCM HCB
      have heq : (er2 == er2) = true := beq_self_eq_true _
      go_wp2_with fail
      refine HRR.out.mono ?_
      rintro e w8 ⟨x3, x4, rfl, hb8, hs1, hs2⟩
      have HB8 := hid (HB7.out.trans (hb8.mono HB7.out.size))
      have HS1 := hid (hs1 w8 (Below.refl _ _))
      have HS2 := hid hs2
      clear hb8 hs1 hs2 HRR
      go_wp2_with fail
      refine HS1.out.mono ?_
      rintro e w9 ⟨rfl, hb9⟩
      have HB9 := hid (HB8.out.trans (hb9.mono HB8.out.size))
      have HS3 := hid (HS2.out w9 hb9)
      clear hb9 HS1 HS2
      go_wp2_with fail
      refine HS3.out.mono ?_
      rintro e w10 ⟨rfl, hb10⟩
      have HB10 := hid (HB9.out.trans (hb10.mono HB9.out.size))
      clear hb10 HS3
      go_wp2
      go_ret
      exact ⟨rfl, HB10.out⟩
end Go.Proofs.Ytockhhleapbpiaa


/- A lifting that hands on the world's shape beside what the row lists; fractions opened and shut. -/
namespace Go.Proofs.Ytockhhleapbpiaa
open Go.ChangeShapes Go.WideShapes Go.ChangeAt Go.RowKit

theorem lift_shaped {H : Type} {enc : TypeId × Value → H} {a : Assume} {C : Checked} {os : Os} {f : FuncId} {fn : Func} {s : ChangeSpec} {conds : List PathCond} {apart fresh handsOn again : Bool} {X : World → Array Value → Prop}
    (hX : ∀ (w w' : World) (args : Array Value), w.heap = w'.heap → X w args → X w' args)
    (own : ownKnob C.prog.godebug = none) (started : os.Started) (noInit : C.prog.inits.idxOf? f = none) (hfn : C.prog.funcs[f]? = some fn)
    (witness : ∃ (w : World) (tape : Tape) (i : Input), w.os = os ∧ (w.forCall tape i).Shaped C.prog ∧ i.vars = [] ∧ Input.okWide C.prog (w.forCall tape i) .any w.heap.size f i ∧
      ((s.pre enc C.prog fn conds apart (w.forCall tape i).memory i.args ∧ X (w.forCall tape i).memory i.args) ∧ sizedMet enc C.prog fn (OpenSpec.ofChange s) apart (w.forCall tape i).memory i.args) ∧ a.holds C.prog (lone (Frame.enter C.prog f i.args .normal) [] (w.forCall tape i)))
    (walk : ∀ (W : World) (base : Nat) (args : Array Value) (ds gs : List (DataW H)) (before : List MemPlace),
      (∀ (j : Nat) t v, fn.params[j]? = some t → args[j]? = some v → Value.okWide C.prog W .any base t v) →
      DataW.Whole enc C.prog fn.params.toList s.vars apart W args.toList ds gs before →
      (DataW.weightsEach C.prog (fn.params.toList ++ s.plain.varTypes C.prog) (ds ++ gs)).all (· ≤ reachBytes) = true → X W args → W.ShapedOpen C.prog →
      Calls C.prog f args W fun e W' => ∃ v, e = .returned v ∧ s.post enc C.prog fn apart fresh handsOn again W args v W') :
    ReturnsInHanded a C os f .any (fun w args => (s.pre enc C.prog fn conds apart w args ∧ X w args) ∧ sizedMet enc C.prog fn (OpenSpec.ofChange s) apart w args) (s.post enc C.prog fn apart fresh handsOn again) := by
  refine returnsInHanded_of_calls own started noInit witness ?_
  intro w tape i _ hsh _ hok hpre _
  obtain ⟨_, _, _, fn', hfn', _, _, _, _, hval⟩ := hok
  obtain rfl : fn' = fn := Option.some.inj (hfn'.symm.trans hfn)
  obtain ⟨⟨⟨ds, gs, before, hw, _⟩, hx⟩, hz⟩ := hpre
  refine (walk (w.forCall tape i) w.heap.size i.args ds gs before hval (DataW.Whole.of_heap (w' := w.forCall tape i) (by rfl) hw) (hz.weights hw) (hX _ _ _ (by rfl) hx) hsh).mono fun e W' ⟨v, he, hp⟩ => ?_
  subst he
  exact ChangeSpec.post_blind hp

theorem cellsB : Try.prog.cellsOf 4 = 1 := by kernel_rfl
end Go.Proofs.Ytockhhleapbpiaa


/- A slice of fractions that came in, opened. -/
namespace Go.Proofs.Ytockhhleapbpiaa
open Go.ChangeShapes Go.WideShapes Go.ChangeAt Go.RowKit

theorem cell_lt {w : World} {a : Addr} {v : Value} (h : w.cell? a = some v) : a.block < w.heap.size := by
  rcases Nat.lt_or_ge a.block w.heap.size with h1 | h1
  · exact h1
  · simp [World.cell?, Array.getElem?_eq_none h1] at h
/-- What a fraction reads as. -/
def fd {H : Type} (f : Fr) : DataW H := .agg [.lit (.bool f.1), .lit (.string f.2.1.data.toList), .lit (.string f.2.2.data.toList)]
theorem weights_all {H : Type} {P : Program} {e : TypeId} {n : Nat} : ∀ {l : List (DataW H)} {d : DataW H}, d ∈ l → n ∈ d.weights P e → n ∈ DataW.weightsAll P e l
  | x :: l, d, hd, hn => by
    simp only [DataW.weightsAll, List.mem_append]
    rcases List.mem_cons.1 hd with rfl | hd
    · exact .inl hn
    · exact .inr (weights_all hd hn)
end Go.Proofs.Ytockhhleapbpiaa


/- Both answer alike: each call on tables, in package table and in the document's answer. -/
namespace Go.Proofs.Ytockhhleapbpiaa
open Go.RowKit Go.Shelf

/-- Both answer the same table and error. -/
def TwoT (w : World) (f g : FuncId) (args : Array Value) : Prop := ∃ (V : List Int) (L : List Fr) (k : Int), V.length ≤ 100000 ∧ L.length ≤ 100000 ∧
  (∀ W, Below w.heap.size w W → Calls Try.prog f args W fun e w' => TabA V L k e w' ∧ Below W.heap.size W w') ∧ ∀ W, Below w.heap.size w W → Calls Try.prog g args W fun e w' => TabA V L k e w' ∧ Below W.heap.size W w'
/-- A table that came in. -/
structure TIn (w : World) (b c : Option Addr) (cb : Nat) (vars : List Int) (l : List Fr) : Prop where
  ints : IntS w b vars
  cells : FrS w c l
  nil : b = none → cb = 0
  len : vars.length ≤ 4096
  small : fw l ≤ 8192
theorem TIn.below {w w' : World} {b c : Option Addr} {cb : Nat} {vars : List Int} {l : List Fr} (h : TIn w b c cb vars l) (hb : Below w.heap.size w w') : TIn w' b c cb vars l := ⟨h.ints.below hb, h.cells.below hb, h.nil, h.len, h.small⟩
theorem cnt_all {sizes vars : List Int} (h1 : Fine sizes) (h2 : Up vars sizes.length) : cnt (toN sizes) (toN vars) ≤ 65536 := cnt_small h1.sz_le (by rw [toN_length]; have := h1.eight; have := h2.length; omega)
end Go.Proofs.Ytockhhleapbpiaa


/- Lists of ints and tables that came in, opened. -/
namespace Go.Proofs.Ytockhhleapbpiaa
open Go.ChangeShapes Go.WideShapes Go.ChangeAt Go.RowKit

/-- What an int reads as. -/
def idt {H : Type} (x : Int) : DataW H := .lit (.int .i64 x)
theorem cellsI : Try.prog.cellsOf 3 = 1 := by kernel_rfl
theorem cellsIs : Try.prog.cellsOf 23 = 1 := by kernel_rfl
set_option maxRecDepth 100000 in
theorem trod_ints {H : Type} {enc : TypeId × Value → H} {W : World} {fuel : Nat} {cs : List Value} {x : DataW H × List MemPlace} (hf : DataW.trod enc Try.prog W 0 (fun _ => true) true fuel 23 cs = some x) :
    ∃ (a : Option Addr) (cap : Nat) (l : List Int), cs = [.slice a l.length cap] ∧ IntS W a l ∧ (a = none → cap = 0) ∧ ((x.1 = .nil ∧ l = []) ∨ ∃ rest, x.1 = .slice (l.map idt) rest) ∧ ∀ y ∈ l, -9223372036854775808 ≤ y ∧ y ≤ 9223372036854775807 := by
  rcases Deep.open_slice Try.underlying23 hf with ⟨hcs, hx⟩ | ⟨a', len, cap, m, n, D, Pl, hcs, hb, hl, hm, hmm, hx, hel⟩
  · exact ⟨none, 0, [], hcs, fun k hk => absurd hk (by simp), fun _ => rfl, .inl ⟨by rw [hx], rfl⟩, fun _ h => by cases h⟩
  · have hlm : len ≤ m := by rw [hmm]; split <;> omega
    rw [cellsI] at hel
    have each : ∀ i, i < len → ∃ z : Int, (W.cell? (a'.add (i * 1)) = some (.int .i64 z) ∧ -9223372036854775808 ≤ z ∧ z ≤ 9223372036854775807) ∧ D i = idt z := by
      intro i hi
      obtain ⟨cs', h1, h2⟩ := hel i (by omega)
      obtain ⟨_, hlen, hcell⟩ := World.cells?_some h1
      obtain ⟨z, e0, hxx, hwf⟩ := DataW.trod_int Try.underlying3 h2
      subst e0
      simp only [Prod.mk.injEq] at hxx
      have g0 := hcell 0 (by omega)
      rw [Deep.add_add] at g0
      exact ⟨z, ⟨by simpa using g0, bounds_i64 hwf⟩, hxx.1⟩
    obtain ⟨f, hf2⟩ := Deep.choose_lt (α := Int) each
    refine ⟨some a', cap, (List.range len).map f, by rw [hcs]; simp, ?_, fun e => by (cases e), .inr ⟨(List.range (m - len)).map fun j => D (len + j), ?_⟩, ?_⟩
    · intro k hk
      have hk' : k < len := by simpa using hk
      obtain ⟨⟨g0, _⟩, _⟩ := hf2 k hk'
      obtain ⟨⟨z0, _⟩, _⟩ := hf2 0 (by omega)
      have hsp := World.cell?_spot z0
      obtain ⟨bb, oo, sp⟩ := a'
      rw [Nat.zero_mul] at hsp
      simp [Addr.add] at hsp
      subst hsp
      rw [add_plain] at g0
      refine ⟨bb, oo, rfl, cell_lt g0, ?_⟩
      simpa using g0
    · rw [hx]
      show DataW.slice _ _ = DataW.slice _ _
      congr 1
      rw [List.map_map]
      exact List.map_congr_left fun i hi => (hf2 i (List.mem_range.1 hi)).2
    · intro y hy
      obtain ⟨i, hi, rfl⟩ := List.mem_map.1 hy
      exact (hf2 i (List.mem_range.1 hi)).1.2
set_option maxRecDepth 100000 in
theorem open_ints {H : Type} {enc : TypeId × Value → H} {W : World} {r : Reach} {b0 : Nat} {v : Value} {d : DataW H} {p : List MemPlace} (hval : Value.okWide Try.prog W r b0 23 v) (h : DataW.Trod enc Try.prog W 0 (fun _ => true) true 23 v d p) :
    ∃ (a : Option Addr) (cap : Nat) (l : List Int), v = .slice a l.length cap ∧ IntS W a l ∧ (a = none → cap = 0) ∧ ((d = .nil ∧ l = []) ∨ ∃ rest, d = .slice (l.map idt) rest) ∧ ∀ x ∈ l, -9223372036854775808 ≤ x ∧ x ≤ 9223372036854775807 := by
  obtain ⟨a, len, cap, rfl⟩ := okWide_slice Try.underlying23 hval
  obtain ⟨fuel, hf⟩ := h
  obtain ⟨a', cap', l, hcs, hi, h0, hd, hr⟩ := trod_ints hf
  simp [Value.cells] at hcs
  obtain ⟨rfl, rfl, rfl⟩ := hcs
  exact ⟨a, cap, l, rfl, hi, h0, hd, hr⟩
theorem bytesI : Try.prog.bytesOf 3 = 8 := by kernel_rfl
theorem sized_ints {H : Type} {ts : List TypeId} {ds : List (DataW H)} (h : (DataW.weightsEach Try.prog ts ds).all (· ≤ reachBytes) = true) {j : Nat} {l : List Int} {d : DataW H} (ht : ts[j]? = some 23) (hd : ds[j]? = some d) (hl : (d = .nil ∧ l = []) ∨ ∃ rest, d = .slice (l.map idt) rest) :
    l.length ≤ 140737488355328 := by
  rcases hl with ⟨_, rfl⟩ | ⟨rest, rfl⟩
  · simp
  have h1 := List.all_eq_true.1 h _ (DataW.weights_mem_each ht hd (((l.map (idt (H := H))).length + rest.length) * Try.prog.bytesOf 3) (by simp [DataW.weights, Try.underlying23]))
  have h1' : ((l.map (idt (H := H))).length + rest.length) * Try.prog.bytesOf 3 ≤ reachBytes := by simpa using h1
  rw [bytesI, List.length_map] at h1'
  simp only [reachBytes] at h1'
  omega
end Go.Proofs.Ytockhhleapbpiaa

