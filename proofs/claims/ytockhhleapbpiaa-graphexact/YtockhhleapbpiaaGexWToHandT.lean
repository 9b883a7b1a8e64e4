/- The law GraphExact. -/
import Derived.Test.YtockhhleapbpiaaApaPToApaA
import Derived.Test.YtockhhleapbpiaaOrdFToAnsC
import Derived.Test.YtockhhleapbpiaaOrdEOwn
import Derived.Test.YtockhhleapbpiaaOpnAToAbvB
import Derived.Test.YtockhhleapbpiaaMorAOwn
import Derived.Test.YtockhhleapbpiaaFilHOwn
import Derived.Test.YtockhhleapbpiaaRefCToRefQ
import Derived.Deep.Strs
import Derived.HandedShaped
import Derived.ProofKit
import Derived.OpenShut
import Derived.ShutString
import Derived.SizedLaws
import Derived.Test.YtockhhleapbpiaaRefRToSetB
import Derived.Carry
import Derived.Test.YtockhhleapbpiaaTogAToLawA
namespace Go.Proofs.Ytockhhleapbpiaa
open Go.RowKit Go.Shelf

theorem memL_len (s : List Nat) : (memL s).length ≤ 8 := by
  have := memU_len s 8
  rw [memL, iL_length]
  exact this
theorem ord_small (L : List (List Int)) : (iL (ordN (parN L) L.length)).length ≤ L.length := by
  rw [iL_length]
  exact ord_len _ _
/-- Two calls that answer a list and an error. -/
def TwoL (f : Nat) (args : Array Value) (w : World) (v1 : Value) (er : Int) : Prop :=
  Calls Try.prog f args w fun e w' => ∃ v2, e = .returned (.tuple #[v2, .int .i64 er]) ∧ Below w.heap.size w w' ∧ ∀ U : World, Below w'.heap.size w' U → Calls Try.prog 10 #[v1, v2] U fun e w'' => e = .returned (.bool true) ∧ Below U.heap.size U w''
def TwoR (f : Nat) (args : Array Value) (w : World) (v1 : Value) (er : Int) : Prop :=
  Calls Try.prog f args w fun e w' => ∃ v2, e = .returned (.tuple #[v2, .int .i64 er]) ∧ Below w.heap.size w w' ∧ ∀ U : World, Below w'.heap.size w' U → Calls Try.prog 19 #[v1, v2] U fun e w'' => e = .returned (.bool true) ∧ Below U.heap.size U w''
theorem noInts (U : World) : Calls Try.prog 10 #[.slice none 0 0, .slice none 0 0] U fun e w'' => e = .returned (.bool true) ∧ Below U.heap.size U w'' :=
  sameInts_any none none 0 0 [] U (fun k hk => absurd hk (by simp)) (fun k hk => absurd hk (by simp)) (by simp)
theorem noLists (U : World) : Calls Try.prog 19 #[.slice none 0 0, .slice none 0 0] U fun e w'' => e = .returned (.bool true) ∧ Below U.heap.size U w'' :=
  sameLists_any none none 0 0 [] U (fun k hk => absurd hk (by simp)) (fun k hk => absurd hk (by simp)) (by simp) (fun l hl => by cases hl)

set_option maxRecDepth 100000 in
set_option maxHeartbeats 4000000 in
theorem graphExact_any (a bl bx by' bz : Option Addr) (ca cl cx cy cz : Nat) (L : List (List Int)) (l x y z : List Int) (w : World) (hL : LsS w a L) (hl : IntS w bl l) (hx : IntS w bx x) (hy : IntS w by' y) (hz : IntS w bz z) (hLl : L.length ≤ 140737488355328 ∧ ∀ l ∈ L, l.length ≤ 140737488355328) (hll : l.length ≤ 140737488355328) (hxl : x.length ≤ 140737488355328) (hyl : y.length ≤ 140737488355328) (hzl : z.length ≤ 140737488355328) :
    Calls Try.prog 3 #[.slice a L.length ca, .slice bl l.length cl, .slice bx x.length cx, .slice by' y.length cy, .slice bz z.length cz] w fun e w' => e = .returned (.bool true) ∧ Below w.heap.size w w' := by
  have HH1 := hid (heavyLists_any a ca L w hL hLl.2 hLl.1)
  have HGO := hid (gOrder_any a ca L w hL hLl.2)
  have HRO := hid (fun (U : World) (hb : Below w.heap.size w U) => rOrder_any a ca L U (hL.below hb) hLl.2 hLl.1)
  have HGC := hid (fun (U : World) (hb : Below w.heap.size w U) => gCheck_any a ca L U (hL.below hb) hLl.2)
  have HRC := hid (fun (U : World) (hb : Below w.heap.size w U) => rGraphCheck_any a ca L U (hL.below hb) hLl.2 hLl.1)
  have HGA := hid (fun (U : World) (hb : Below w.heap.size w U) => gAbove_any a bl ca cl L l U (hL.below hb) hLl.2 (hl.below hb) hll)
  have HRA : Hid (L.length ≤ 512 → (∀ l ∈ L, l.length ≤ 512) → l.length ≤ 512 → ∀ U : World, Below w.heap.size w U → Calls Try.prog 14 #[.slice a L.length ca, .slice bl l.length cl] U fun e w' => Below U.heap.size U w' ∧
      ((gcE L ≠ 0 ∧ e = .returned (.tuple #[.slice none 0 0, .int .i64 (gcE L)])) ∨ (gcE L = 0 ∧ risB l L.length = false ∧ e = .returned (.tuple #[.slice none 0 0, .int .i64 11])) ∨
       (gcE L = 0 ∧ risB l L.length = true ∧ ∃ x, e = .returned (.tuple #[x, .int .i64 0]) ∧ RwI w' U.heap.size x (memL (abS (parN L) (toN l) L.length))))) := fun h1 h2 h3 U hb => rAbove_any a bl ca cl L l U (hL.below hb) (fun l hl => by have := h2 l hl; omega) (by omega) (hl.below hb) (by omega)
  have HGP := hid (fun (U : World) (hb : Below w.heap.size w U) => gApart_any a bx by' bz ca cx cy cz L x y z U (hL.below hb) hLl.2 (hx.below hb) (hy.below hb) (hz.below hb) hxl hyl hzl)
  have HRP : Hid (L.length ≤ 512 → (∀ l ∈ L, l.length ≤ 512) → x.length ≤ 512 → y.length ≤ 512 → z.length ≤ 512 → ∀ U : World, Below w.heap.size w U → Calls Try.prog 16 #[.slice a L.length ca, .slice bx x.length cx, .slice by' y.length cy, .slice bz z.length cz] U fun e w' => Below U.heap.size U w' ∧ ApR L x y z e) := fun h1 h2 h3 h4 h5 U hb => rApart_any a bx by' bz ca cx cy cz L x y z U (hL.below hb) (fun l hl => by have := h2 l hl; omega) (by omega) (hx.below hb) (hy.below hb) (hz.below hb) (by omega) (by omega) (by omega)
  have HGM := hid (fun (U : World) (hb : Below w.heap.size w U) => gMoral_any a ca L U (hL.below hb) hLl.2)
  have HRM : Hid (L.length ≤ 512 → (∀ l ∈ L, l.length ≤ 512) → ∀ U : World, Below w.heap.size w U → Calls Try.prog 18 #[.slice a L.length ca] U fun e w' => Below U.heap.size U w' ∧
      ((gcE L ≠ 0 ∧ e = .returned (.tuple #[.slice none 0 0, .int .i64 (gcE L)])) ∨
       (gcE L = 0 ∧ ∃ G, e = .returned (.tuple #[.slice (some ⟨G, 0, none⟩) L.length L.length, .int .i64 0]) ∧ LsS w' (some ⟨G, 0, none⟩) ((mrA (parN L) L.length L.length).map memL)))) := fun h1 h2 U hb => rMoral_any a ca L U (hL.below hb) (fun l hl => by have := h2 l hl; omega) (by omega)
  have HOS := hid (ord_small L)
  have HML : Hid (((mrA (parN L) L.length L.length).map memL).length = L.length) := by show _ = _; rw [List.length_map, mrA_length]
  have HMM : Hid (∀ l ∈ (mrA (parN L) L.length L.length).map memL, l.length ≤ 1000) := fun l hl => by
    obtain ⟨s, _, rfl⟩ := List.mem_map.1 hl
    have := memL_len s
    omega
  have HAL := hid (memL_len (abS (parN L) (toN l) L.length))
  clear hL hl hx hy hz
  have hll' : l.length ≤ 140737488355328 := hll
  go_enter Try.func3, Try.ntmps3
  go_wp2_with fail
  refine HH1.out.mono ?_
  rintro e w1 ⟨q1, rfl, hq1, rfl⟩
  cases q1 with
  | true =>
    clear hq1
    go_wp2
    go_ret
    exact ⟨rfl, Below.refl _ _⟩
  | false =>
    obtain ⟨hn1, hn2⟩ := hq1 rfl
    have HNS := hid hn2
    clear hq1 hn2 HH1
    by_cases hbig : 512 < l.length + x.length + y.length + z.length
    · go_wp2
      go_ret
      exact ⟨rfl, Below.refl _ _⟩
    · have h512 : l.length ≤ 512 ∧ x.length ≤ 512 ∧ y.length ≤ 512 ∧ z.length ≤ 512 := by omega
      have HRA' := hid (HRA.out hn1 HNS.out h512.1)
      have HRP' := hid (HRP.out hn1 HNS.out h512.2.1 h512.2.2.1 h512.2.2.2)
      have HRM' := hid (HRM.out hn1 HNS.out)
      clear HRA HRP HRM h512
      go_wp2_with fail
      refine HGO.out.mono ?_
      rintro e w3 ⟨hb3, hfl⟩
      have HB3 := hid hb3
      have HR3 := hid (HRO.out w3 hb3)
      clear hb3 HGO HRO
      have key : ∃ (v1 : Value) (er : Int), e = .returned (.tuple #[v1, .int .i64 er]) ∧ Hid (TwoL 9 #[.slice a L.length ca] w3 v1 er) := by
        rcases hfl with ⟨hg, d, cd, h1, h2⟩ | ⟨hg, h1⟩
        · refine ⟨_, _, h1, HR3.out.mono ?_⟩
          rintro e' w' ⟨hb', ⟨_, x, rfl, hx⟩ | ⟨hc, _⟩⟩
          · obtain ⟨dx, cx, rfl, hxi⟩ := hx.ints
            exact ⟨_, rfl, hb', fun U hU => sameInts_any d dx cd cx _ U ((h2.below hb').below hU) (hxi.below hU) (by have := HOS.out; omega)⟩
          · exact absurd hg hc
        · refine ⟨_, _, h1, HR3.out.mono ?_⟩
          rintro e' w' ⟨hb', ⟨hc, _⟩ | ⟨_, rfl⟩⟩
          · exact absurd hc hg
          · exact ⟨_, rfl, hb', fun U _ => noInts U⟩
      obtain ⟨v1, er, rfl, HRR⟩ := key
      clear hfl HR3 HOS
      have hne : (er != er) = false := bne_self_eq_false _
      go_wp2_with fail
      refine (show TwoL _ _ _ _ _ from HRR.out).mono ?_
      rintro e w4 ⟨v3, rfl, hb4, hs1⟩
      have HB4 := hid (HB3.out.trans (hb4.mono HB3.out.size))
      have HS1 := hid (hs1 w4 (Below.refl _ _))
      clear hb4 hs1 HRR
      go_wp2_with fail
      refine HS1.out.mono ?_
      rintro e w5 ⟨rfl, hb5⟩
      have HB5 := hid (HB4.out.trans (hb5.mono HB4.out.size))
      clear hb5 HS1
      have HG5 := hid (HGC.out w5 HB5.out)
      clear HGC
      go_wp2_with fail
      refine HG5.out.mono ?_
      rintro e w6 ⟨rfl, hb6⟩
      have HB6 := hid (HB5.out.trans (hb6.mono HB5.out.size))
      have HR6 := hid (HRC.out w6 HB6.out)
      clear hb6 HG5 HRC
      have hne2 : (gcE L != gcE L) = false := bne_self_eq_false _
      go_wp2_with fail
      refine HR6.out.mono ?_
      rintro e w7 ⟨rfl, hb7⟩
      have HB7 := hid (HB6.out.trans (hb7.mono HB6.out.size))
      have HG7 := hid (HGA.out w7 HB7.out)
      clear hb7 HR6 HGA
      go_wp2_with fail
      refine HG7.out.mono ?_
      rintro e w8 ⟨hfl, hb8⟩
      have HB8 := hid (HB7.out.trans (hb8.mono HB7.out.size))
      have HR8 := hid (HRA'.out w8 HB8.out)
      clear hb8 HG7 HRA' hne hne2
      have key : ∃ (v1 : Value) (er : Int), e = .returned (.tuple #[v1, .int .i64 er]) ∧ Hid (TwoL 14 #[.slice a L.length ca, .slice bl l.length cl] w8 v1 er) := by
        rcases hfl with ⟨hg, h1⟩ | ⟨hg, hr, h1⟩ | ⟨hg, hr, d, cd, h1, h2⟩
        · refine ⟨_, _, h1, HR8.out.mono ?_⟩
          rintro e' w' ⟨hb', ⟨_, rfl⟩ | ⟨hc, _⟩ | ⟨hc, _⟩⟩
          · exact ⟨_, rfl, hb', fun U _ => noInts U⟩
          · exact absurd hc hg
          · exact absurd hc hg
        · refine ⟨_, _, h1, HR8.out.mono ?_⟩
          rintro e' w' ⟨hb', ⟨hc, _⟩ | ⟨_, _, rfl⟩ | ⟨_, hc, _⟩⟩
          · exact absurd hg hc
          · exact ⟨_, rfl, hb', fun U _ => noInts U⟩
          · rw [hr] at hc; cases hc
        · refine ⟨_, _, h1, HR8.out.mono ?_⟩
          rintro e' w' ⟨hb', ⟨hc, _⟩ | ⟨_, hc, _⟩ | ⟨_, _, x, rfl, hx⟩⟩
          · exact absurd hg hc
          · rw [hr] at hc; cases hc
          · obtain ⟨dx, cx, rfl, hxi⟩ := hx.ints
            exact ⟨_, rfl, hb', fun U hU => sameInts_any d dx cd cx _ U ((h2.below hb').below hU) (hxi.below hU) (by have := HAL.out; omega)⟩
      obtain ⟨v5, er2, rfl, HRR⟩ := key
      clear hfl HR8 HAL
      have hne : (er2 != er2) = false := bne_self_eq_false _
      go_wp2_with fail
      refine (show TwoL _ _ _ _ _ from HRR.out).mono ?_
      rintro e w9 ⟨v6, rfl, hb9, hs1⟩
      have HB9 := hid (HB8.out.trans (hb9.mono HB8.out.size))
      have HS1 := hid (hs1 w9 (Below.refl _ _))
      clear hb9 hs1 HRR
      go_wp2_with fail
      refine HS1.out.mono ?_
      rintro e w10 ⟨rfl, hb10⟩
      have HB10 := hid (HB9.out.trans (hb10.mono HB9.out.size))
      clear hb10 HS1 hne
      have HG10 := hid (HGP.out w10 HB10.out)
      clear HGP
      go_wp2_with fail
      refine HG10.out.mono ?_
      rintro e w11 ⟨hb11, hfl⟩
      have HB11 := hid (HB10.out.trans (hb11.mono HB10.out.size))
      have HR11 := hid (HRP'.out w11 HB11.out)
      clear hb11 HG10 HRP'
      obtain ⟨pb, er3, rfl, hun⟩ := ApR.told hfl
      have HR11' : Hid (Calls Try.prog 16 #[.slice a L.length ca, .slice bx x.length cx, .slice by' y.length cy, .slice bz z.length cz] w11 fun e w' => e = .returned (.tuple #[.bool pb, .int .i64 er3]) ∧ Below w11.heap.size w11 w') := HR11.out.mono fun e w' h => ⟨hun e h.2, h.1⟩
      clear hfl hun HR11
      have heq3 : (er3 == er3) = true := beq_self_eq_true _
      have hpb : (pb == pb) = true := beq_self_eq_true _
      go_wp2_with fail
      refine HR11'.out.mono ?_
      rintro e w12 ⟨rfl, hb12⟩
      have HB12 := hid (HB11.out.trans (hb12.mono HB11.out.size))
      have HG12 := hid (HGM.out w12 HB12.out)
      clear hb12 HR11' HGM
      go_wp2_with fail
      refine HG12.out.mono ?_
      rintro e w13 ⟨hfl, hb13⟩
      have HB13 := hid (HB12.out.trans (hb13.mono HB12.out.size))
      have HR13 := hid (HRM'.out w13 HB13.out)
      clear hb13 HG12 HRM'
      have key : ∃ (v1 : Value) (er : Int), e = .returned (.tuple #[v1, .int .i64 er]) ∧ Hid (TwoR 18 #[.slice a L.length ca] w13 v1 er) := by
        rcases hfl with ⟨hg, h1⟩ | ⟨hg, G, h1, h2⟩
        · refine ⟨_, _, h1, HR13.out.mono ?_⟩
          rintro e' w' ⟨hb', ⟨_, rfl⟩ | ⟨hc, _⟩⟩
          · exact ⟨_, rfl, hb', fun U _ => noLists U⟩
          · exact absurd hc hg
        · refine ⟨_, _, h1, HR13.out.mono ?_⟩
          rintro e' w' ⟨hb', ⟨hc, _⟩ | ⟨_, G2, rfl, hx⟩⟩
          · exact absurd hg hc
          · refine ⟨_, rfl, hb', fun U hU => ?_⟩
            have := sameLists_any (some ⟨G, 0, none⟩) (some ⟨G2, 0, none⟩) L.length L.length _ U ((h2.below hb').below hU) (hx.below hU) (by rw [HML.out]; omega) HMM.out
            rwa [HML.out] at this
      obtain ⟨v7, er4, rfl, HRR⟩ := key
      clear hfl HR13 HML HMM
      have heq4 : (er4 == er4) = true := beq_self_eq_true _
      go_wp2_with fail
      refine (show TwoR _ _ _ _ _ from HRR.out).mono ?_
      rintro e w14 ⟨v8, rfl, hb14, hs1⟩
      have HB14 := hid (HB13.out.trans (hb14.mono HB13.out.size))
      have HS1 := hid (hs1 w14 (Below.refl _ _))
      clear hb14 hs1 HRR
      go_wp2_with fail
      refine HS1.out.mono ?_
      rintro e w15 ⟨rfl, hb15⟩
      have HB15 := hid (HB14.out.trans (hb15.mono HB14.out.size))
      clear hb15 HS1
      go_wp2
      go_ret
      exact ⟨rfl, HB15.out⟩
end Go.Proofs.Ytockhhleapbpiaa


/- A lifting that hands on the world's shape beside what the row lists; fractions opened and shut. -/
namespace Go.Proofs.Ytockhhleapbpiaa
open Go.ChangeShapes Go.WideShapes Go.ChangeAt Go.RowKit

theorem lift_shaped {H : Type} {enc : TypeId × Value → H} {a : Assume} {C : Checked} {os : Os} {f : FuncId} {fn : Func} {s : ChangeSpec} {conds : List PathCond} {apart fresh handsOn again : Bool} {X : World → Array Value → Prop}
    (hX : ∀ (w w' : World) (args : Array Value), w.heap = w'.heap → X w args → X w' args)
    (own : ownKnob C.prog.godebug = none) (started : os.Started) (noInit : C.prog.inits.idxOf? f = none) (hfn : C.prog.funcs[f]? = some fn)
    (witness : ∃ (w : World) (tape : Tape) (i : Input), w.os = os ∧ (w.forCall tape i).Shaped C.prog ∧ i.vars = [] ∧ Input.okWide C.prog (w.forCall tape i) .any w.heap.size f i ∧
      ((s.pre enc C.prog fn conds apart (w.forCall tape i).memory i.args ∧ X (w.forCall tape i).memory i.args) ∧ sizedMet enc C.prog fn (OpenSpec.ofChange s) apart (w.forCall tape i).memory i.args) ∧ a.holds C.prog (lone (Frame.enter C.prog f i.args .normal) [] (w.forCall tape i)))
    (walk : ∀ (W : World) (base : Nat) (args : Array Value) (ds gs : List (DataW H)) (before : List MemPlace),
      (∀ (j : Nat) t v, fn.params[j]? = some t → args[j]? = some v → Value.okWide C.prog W .any base t v) →
      DataW.Whole enc C.prog fn.params.toList s.vars apart W args.toList ds gs before →
      (DataW.weightsEach C.prog (fn.params.toList ++ s.plain.varTypes C.prog) (ds ++ gs)).all (· ≤ reachBytes) = true → X W args → W.ShapedOpen C.prog →
      Calls C.prog f args W fun e W' => ∃ v, e = .returned v ∧ s.post enc C.prog fn apart fresh handsOn again W args v W') :
    ReturnsInHanded a C os f .any (fun w args => (s.pre enc C.prog fn conds apart w args ∧ X w args) ∧ sizedMet enc C.prog fn (OpenSpec.ofChange s) apart w args) (s.post enc C.prog fn apart fresh handsOn again) := by
  refine returnsInHanded_of_calls own started noInit witness ?_
  intro w tape i _ hsh _ hok hpre _
  obtain ⟨_, _, _, fn', hfn', _, _, _, _, hval⟩ := hok
  obtain rfl : fn' = fn := Option.some.inj (hfn'.symm.trans hfn)
  obtain ⟨⟨⟨ds, gs, before, hw, _⟩, hx⟩, hz⟩ := hpre
  refine (walk (w.forCall tape i) w.heap.size i.args ds gs before hval (DataW.Whole.of_heap (w' := w.forCall tape i) (by rfl) hw) (hz.weights hw) (hX _ _ _ (by rfl) hx) hsh).mono fun e W' ⟨v, he, hp⟩ => ?_
  subst he
  exact ChangeSpec.post_blind hp

theorem cellsB : Try.prog.cellsOf 4 = 1 := by kernel_rfl
end Go.Proofs.Ytockhhleapbpiaa


/- A slice of fractions that came in, opened. -/
namespace Go.Proofs.Ytockhhleapbpiaa
open Go.ChangeShapes Go.WideShapes Go.ChangeAt Go.RowKit

theorem cell_lt {w : World} {a : Addr} {v : Value} (h : w.cell? a = some v) : a.block < w.heap.size := by
  rcases Nat.lt_or_ge a.block w.heap.size with h1 | h1
  · exact h1
  · simp [World.cell?, Array.getElem?_eq_none h1] at h
/-- What a fraction reads as. -/
def fd {H : Type} (f : Fr) : DataW H := .agg [.lit (.bool f.1), .lit (.string f.2.1.data.toList), .lit (.string f.2.2.data.toList)]
theorem weights_all {H : Type} {P : Program} {e : TypeId} {n : Nat} : ∀ {l : List (DataW H)} {d : DataW H}, d ∈ l → n ∈ d.weights P e → n ∈ DataW.weightsAll P e l
  | x :: l, d, hd, hn => by
    simp only [DataW.weightsAll, List.mem_append]
    rcases List.mem_cons.1 hd with rfl | hd
    · exact .inl hn
    · exact .inr (weights_all hd hn)
end Go.Proofs.Ytockhhleapbpiaa


/- Both answer alike: each call on tables, in package table and in the document's answer. -/
namespace Go.Proofs.Ytockhhleapbpiaa
open Go.RowKit Go.Shelf

/-- Both answer the same table and error. -/
def TwoT (w : World) (f g : FuncId) (args : Array Value) : Prop := ∃ (V : List Int) (L : List Fr) (k : Int), V.length ≤ 100000 ∧ L.length ≤ 100000 ∧
  (∀ W, Below w.heap.size w W → Calls Try.prog f args W fun e w' => TabA V L k e w' ∧ Below W.heap.size W w') ∧ ∀ W, Below w.heap.size w W → Calls Try.prog g args W fun e w' => TabA V L k e w' ∧ Below W.heap.size W w'
/-- A table that came in. -/
structure TIn (w : World) (b c : Option Addr) (cb : Nat) (vars : List Int) (l : List Fr) : Prop where
  ints : IntS w b vars
  cells : FrS w c l
  nil : b = none → cb = 0
  len : vars.length ≤ 4096
  small : fw l ≤ 8192
theorem TIn.below {w w' : World} {b c : Option Addr} {cb : Nat} {vars : List Int} {l : List Fr} (h : TIn w b c cb vars l) (hb : Below w.heap.size w w') : TIn w' b c cb vars l := ⟨h.ints.below hb, h.cells.below hb, h.nil, h.len, h.small⟩
theorem cnt_all {sizes vars : List Int} (h1 : Fine sizes) (h2 : Up vars sizes.length) : cnt (toN sizes) (toN vars) ≤ 65536 := cnt_small h1.sz_le (by rw [toN_length]; have := h1.eight; have := h2.length; omega)
end Go.Proofs.Ytockhhleapbpiaa


/- Lists of ints and tables that came in, opened. -/
namespace Go.Proofs.Ytockhhleapbpiaa
open Go.ChangeShapes Go.WideShapes Go.ChangeAt Go.RowKit

/-- What an int reads as. -/
def idt {H : Type} (x : Int) : DataW H := .lit (.int .i64 x)
theorem cellsI : Try.prog.cellsOf 3 = 1 := by kernel_rfl
theorem cellsIs : Try.prog.cellsOf 23 = 1 := by kernel_rfl
set_option maxRecDepth 100000 in
theorem trod_ints {H : Type} {enc : TypeId × Value → H} {W : World} {fuel : Nat} {cs : List Value} {x : DataW H × List MemPlace} (hf : DataW.trod enc Try.prog W 0 (fun _ => true) true fuel 23 cs = some x) :
    ∃ (a : Option Addr) (cap : Nat) (l : List Int), cs = [.slice a l.length cap] ∧ IntS W a l ∧ (a = none → cap = 0) ∧ ((x.1 = .nil ∧ l = []) ∨ ∃ rest, x.1 = .slice (l.map idt) rest) ∧ ∀ y ∈ l, -9223372036854775808 ≤ y ∧ y ≤ 9223372036854775807 := by
  rcases Deep.open_slice Try.underlying23 hf with ⟨hcs, hx⟩ | ⟨a', len, cap, m, n, D, Pl, hcs, hb, hl, hm, hmm, hx, hel⟩
  · exact ⟨none, 0, [], hcs, fun k hk => absurd hk (by simp), fun _ => rfl, .inl ⟨by rw [hx], rfl⟩, fun _ h => by cases h⟩
  · have hlm : len ≤ m := by rw [hmm]; split <;> omega
    rw [cellsI] at hel
    have each : ∀ i, i < len → ∃ z : Int, (W.cell? (a'.add (i * 1)) = some (.int .i64 z) ∧ -9223372036854775808 ≤ z ∧ z ≤ 9223372036854775807) ∧ D i = idt z := by
      intro i hi
      obtain ⟨cs', h1, h2⟩ := hel i (by omega)
      obtain ⟨_, hlen, hcell⟩ := World.cells?_some h1
      obtain ⟨z, e0, hxx, hwf⟩ := DataW.trod_int Try.underlying3 h2
      subst e0
      simp only [Prod.mk.injEq] at hxx
      have g0 := hcell 0 (by omega)
      rw [Deep.add_add] at g0
      exact ⟨z, ⟨by simpa using g0, bounds_i64 hwf⟩, hxx.1⟩
    obtain ⟨f, hf2⟩ := Deep.choose_lt (α := Int) each
    refine ⟨some a', cap, (List.range len).map f, by rw [hcs]; simp, ?_, fun e => by (cases e), .inr ⟨(List.range (m - len)).map fun j => D (len + j), ?_⟩, ?_⟩
    · intro k hk
      have hk' : k < len := by simpa using hk
      obtain ⟨⟨g0, _⟩, _⟩ := hf2 k hk'
      obtain ⟨⟨z0, _⟩, _⟩ := hf2 0 (by omega)
      have hsp := World.cell?_spot z0
      obtain ⟨bb, oo, sp⟩ := a'
      rw [Nat.zero_mul] at hsp
      simp [Addr.add] at hsp
      subst hsp
      rw [add_plain] at g0
      refine ⟨bb, oo, rfl, cell_lt g0, ?_⟩
      simpa using g0
    · rw [hx]
      show DataW.slice _ _ = DataW.slice _ _
      congr 1
      rw [List.map_map]
      exact List.map_congr_left fun i hi => (hf2 i (List.mem_range.1 hi)).2
    · intro y hy
      obtain ⟨i, hi, rfl⟩ := List.mem_map.1 hy
      exact (hf2 i (List.mem_range.1 hi)).1.2
set_option maxRecDepth 100000 in
theorem open_ints {H : Type} {enc : TypeId × Value → H} {W : World} {r : Reach} {b0 : Nat} {v : Value} {d : DataW H} {p : List MemPlace} (hval : Value.okWide Try.prog W r b0 23 v) (h : DataW.Trod enc Try.prog W 0 (fun _ => true) true 23 v d p) :
    ∃ (a : Option Addr) (cap : Nat) (l : List Int), v = .slice a l.length cap ∧ IntS W a l ∧ (a = none → cap = 0) ∧ ((d = .nil ∧ l = []) ∨ ∃ rest, d = .slice (l.map idt) rest) ∧ ∀ x ∈ l, -9223372036854775808 ≤ x ∧ x ≤ 9223372036854775807 := by
  obtain ⟨a, len, cap, rfl⟩ := okWide_slice Try.underlying23 hval
  obtain ⟨fuel, hf⟩ := h
  obtain ⟨a', cap', l, hcs, hi, h0, hd, hr⟩ := trod_ints hf
  simp [Value.cells] at hcs
  obtain ⟨rfl, rfl, rfl⟩ := hcs
  exact ⟨a, cap, l, rfl, hi, h0, hd, hr⟩
theorem bytesI : Try.prog.bytesOf 3 = 8 := by kernel_rfl
theorem sized_ints {H : Type} {ts : List TypeId} {ds : List (DataW H)} (h : (DataW.weightsEach Try.prog ts ds).all (· ≤ reachBytes) = true) {j : Nat} {l : List Int} {d : DataW H} (ht : ts[j]? = some 23) (hd : ds[j]? = some d) (hl : (d = .nil ∧ l = []) ∨ ∃ rest, d = .slice (l.map idt) rest) :
    l.length ≤ 140737488355328 := by
  rcases hl with ⟨_, rfl⟩ | ⟨rest, rfl⟩
  · simp
  have h1 := List.all_eq_true.1 h _ (DataW.weights_mem_each ht hd (((l.map (idt (H := H))).length + rest.length) * Try.prog.bytesOf 3) (by simp [DataW.weights, Try.underlying23]))
  have h1' : ((l.map (idt (H := H))).length + rest.length) * Try.prog.bytesOf 3 ≤ reachBytes := by simpa using h1
  rw [bytesI, List.length_map] at h1'
  simp only [reachBytes] at h1'
  omega
end Go.Proofs.Ytockhhleapbpiaa

