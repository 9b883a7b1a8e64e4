/- Lists of lists of fractions: slices.Grow of nothing, slices.Concat of three. -/
import Derived.Test.YtbejijgelljeaaaGreatDoorNormBToMadC
import Derived.Lib.AppendZerosOnto
import Derived.Laws.AppendOwnNone
import Derived.Test.YtbejijgelljeaaaGreatDoorStepsAToFillA
import Derived.Test.YtbejijgelljeaaaGreatDoorHidBToNormA
import Derived.Test.YtbejijgelljeaaaGreatDoorDicPToTabP3
namespace Go.Proofs.YtbejijgelljeaaaGreatDoor
open Go.RowKit Go.Shelf

/-- Slices in memory, one behind the other. -/
def VaS (w : World) (a : Option Addr) (X : List Value) : Prop := ∀ k (h : k < X.length), ∃ g o, a = some ⟨g, o, none⟩ ∧ g < w.heap.size ∧ w.cell? ⟨g, o + k, none⟩ = some X[k] ∧ SlV X[k]
theorem VaS.below {w w' : World} {a : Option Addr} {X : List Value} (h : VaS w a X) (hb : Below w.heap.size w w') : VaS w' a X := fun k hk => by
  obtain ⟨g, o, h1, h2, h3, h4⟩ := h k hk
  exact ⟨g, o, h1, Nat.lt_of_lt_of_le h2 hb.size, (hb.cell (p := ⟨g, o + k, none⟩) h2).trans h3, h4⟩
/-- A row of slices of its own. -/
def RwX (w : World) (B : Nat) (v : Value) (X : List Value) : Prop := w.ownsRow B 27 1 v X.length X
theorem wpList_append_vas {w : World} {ops : Array Oper} {rest : List Oper} {o : Oper} {a : Act} {Q : Exit → Act → World → Prop} (hgd : o.guard = none) (s x : Operand)
    (ho : o.op = .call { callee := .builtin .append, args := #[s, x], argTypes := #[24, 24] }) (base : Nat) (v : Value) (xs la : List Value) (hs : a.eval s = v) (hown : RwX w base v xs) (p : Option Addr) (ca : Nat) (hx : a.eval x = .slice p la.length ca) (hi : VaS w p la) (hp : p = none → ca = 0) (hlen : xs.length + la.length ≤ 100000) (hbase : base ≤ w.heap.size)
    (h : ∀ v' w', RwX w' base v' (xs ++ la) → w.grownBy w' v.ownBlock → wpList Tryz.prog ops Q rest (a.put o.dst v') w') : wpList Tryz.prog ops Q (o :: rest) a w := by
  obtain ⟨i0, hi0, hz0, hz1, hz2⟩ := info_parts Tryz.infoFracs
  cases p with
  | none =>
    have hl : la = [] := by
      cases la with
      | nil => rfl
      | cons x l => obtain ⟨g, o, e, _⟩ := hi 0 (by simp); cases e
    subst hl
    have h0 := hp rfl
    subst h0
    have h1 := h v w (by rw [List.append_nil]; exact hown) ⟨rfl, rfl, rfl, Nat.le_refl _, fun _ _ _ => rfl⟩
    exact wpList_append_own_none hgd s x 24 ho base 27 i0 1 Tryz.underlying24 hi0 v xs.length _ hs hown hx h1
  | some ad =>
    refine wpList_append_own _ hgd s x 24 ho base 27 i0 (.slice none 0 0) 1 24 Tryz.underlying24 hi0 hz0 hz1 hz2 rfl (by decide) v xs.length _ hs hown ad la.length ca la hx (by simp) ?_ ?_ (by unfold maxLen; omega) (by omega) hbase ?_
    · intro j u hj
      obtain ⟨hj1, hj2⟩ := List.getElem?_eq_some_iff.1 hj
      obtain ⟨g, o', e, _, hc, _⟩ := hi j hj1
      cases e
      rw [← hj2]
      rw [Addr.add]
      by_cases h0 : j = 0
      · subst h0; simpa using hc
      · simpa [h0] using hc
    · intro u hu
      obtain ⟨j, hj, rfl⟩ := List.getElem_of_mem hu
      obtain ⟨g, o', e, _, _, hs⟩ := hi j hj
      obtain ⟨_, _, _, e⟩ := hs
      rw [e]
      rfl
    · intro v' w' h1 h2 _
      refine h v' w' ?_ h2
      rw [RwX, List.length_append]
      exact h1

/-- The first so many of two lists. -/
def frstV (la lb lc : List Value) (i : Nat) : List Value := if i = 0 then [] else if i = 1 then la else if i = 2 then la ++ lb else la ++ lb ++ lc
theorem RwX.own {w : World} {B : Nat} {v : Value} {l : List Value} (h : RwX w B v l) : ∀ k, v.ownBlock = some k → B ≤ k := by
  intro k hk
  rcases h.2 with ⟨rfl, _⟩ | ⟨g, cap, cur, rfl, h2, _⟩
  · cases hk
  · cases hk
    exact h2

theorem frstV_len {la lb lc : List Value} (hla : la.length ≤ 1000) (hlb : lb.length ≤ 1000) (hlc : lc.length ≤ 1000) (i : Nat) : (frstV la lb lc i).length ≤ 3000 := by
  rw [frstV]
  by_cases h : i = 0
  · rw [if_pos h]; simp
  · rw [if_neg h]
    by_cases h1 : i = 1
    · rw [if_pos h1]; omega
    · rw [if_neg h1]
      by_cases h2 : i = 2
      · rw [if_pos h2, List.length_append]; omega
      · rw [if_neg h2, List.length_append, List.length_append]; omega

end Go.Proofs.YtbejijgelljeaaaGreatDoor


/- Package known: lists of facts; IsOf. -/
namespace Go.Proofs.YtbejijgelljeaaaGreatDoor
open Go.RowKit Go.Shelf

/-- Facts in memory. -/
def FcS (w : World) (a : Option Addr) (F : List (Int × Int)) : Prop := ∀ k (h : k < F.length), ∃ g o, a = some ⟨g, o, none⟩ ∧ g < w.heap.size ∧ w.cell? ⟨g, o + k * 2, none⟩ = some (.int .i64 F[k].1) ∧ w.cell? ⟨g, o + k * 2 + 1, none⟩ = some (.int .i64 F[k].2)
theorem FcS.below {w w' : World} {a : Option Addr} {F : List (Int × Int)} (h : FcS w a F) (hb : Below w.heap.size w w') : FcS w' a F := fun k hk => by
  obtain ⟨g, o, h1, h2, h3, h4⟩ := h k hk
  exact ⟨g, o, h1, Nat.lt_of_lt_of_le h2 hb.size, (hb.cell (p := ⟨g, _, none⟩) h2).trans h3, (hb.cell (p := ⟨g, _, none⟩) h2).trans h4⟩
theorem FcS.take {w : World} {a : Option Addr} {F : List (Int × Int)} (h : FcS w a F) (i : Nat) : FcS w a (F.take i) := fun k hk => by
  have hk' : k < F.length := by rw [List.length_take] at hk; omega
  obtain ⟨g, o, h1, h2, h3, h4⟩ := h k hk'
  rw [List.getElem_take]
  exact ⟨g, o, h1, h2, h3, h4⟩

end Go.Proofs.YtbejijgelljeaaaGreatDoor


/- slices.IndexFunc and slices.ContainsFunc of numbers, whatever is asked; package infer: the closure of Posterior. -/
namespace Go.Proofs.YtbejijgelljeaaaGreatDoor
open Go.RowKit Go.Shelf

end Go.Proofs.YtbejijgelljeaaaGreatDoor


/- Chains and hidden chains that may be: Check, Step, check. -/
namespace Go.Proofs.YtbejijgelljeaaaGreatDoor
open Go.RowKit Go.Shelf

/-- Rows that may be, of so many. -/
structure RwsOK (n m : Nat) (R : List (List Fr)) : Prop where
  len : R.length = n
  each : ∀ i (h : i < R.length), R[i].length = m
  fw : ∀ i (h : i < R.length), fw R[i] ≤ 10000
  row : ∀ i (h : i < R.length), rowB R[i] = true

set_option maxRecDepth 100000 in
set_option maxHeartbeats 1000000 in
theorem chCheck_yes (c : Option Addr) (cc n : Nat) (R : List (List Fr)) (w : World) (hR : FsS w c R) (h : RwsOK n n R) (h1 : 1 ≤ n) (hn : n ≤ 6) :
    Calls Tryz.prog 30 #[.slice c n cc] w fun e w' => e = .returned (.int .i64 0) ∧ Below w.heap.size w w' := by
  have HFR := hid hR
  have HO := hid h
  clear hR h
  go_enter Tryz.func30, Tryz.ntmps30
  go_wp2_with fail
  go_loopw [17] (fun iv wr => ∃ i : Nat, i ≤ n ∧ iv = .int .i64 i ∧ w = wr) (fun iv _ => n - (intOf iv).toNat)
  case atStart => exact ⟨0, Nat.zero_le _, rfl, rfl⟩
  case round =>
    obtain ⟨i, hi, rfl, rfl⟩ := hrel
    by_cases hlt : i < n
    · have hiR : i < R.length := by rw [HO.out.len]; exact hlt
      obtain ⟨gc, oc, bc, cr, rfl, hgc, c0, -, -⟩ := HFR.out i hiR
      rw [HO.out.each i hiR] at c0
      go_wp2
      go_roundw
      case rel => exact ⟨i + 1, by omega, by go_num, trivial⟩
      case measure => simp [intOf]; omega
    · obtain rfl : i = n := by omega
      go_wp2_with fail
      go_loopw [29] (fun kv wr => ∃ k : Nat, k ≤ i ∧ kv = .int .i64 k ∧ Hid (Below w.heap.size w wr)) (fun kv _ => i - (intOf kv).toNat)
      case atStart => exact ⟨0, Nat.zero_le _, rfl, Below.refl _ _⟩
      case round =>
        obtain ⟨k, hk, rfl, HB⟩ := hrel
        by_cases hlt2 : k < i
        · have hkR : k < R.length := by rw [HO.out.len]; exact hlt2
          obtain ⟨gc, oc, bc, cr, rfl, hgc, c0, hfr, -⟩ := (HFR.out.below HB.out) k hkR
          have hel := HO.out.each k hkR
          have HRO := hid (chRow_any bc cr R[k] wr hfr (HO.out.fw k hkR) (by omega))
          rw [HO.out.row k hkR] at HRO
          clear hfr hel
          generalize R[k].length = rl at *
          go_wp2_with fail
          refine HRO.out.mono ?_
          rintro e w2 ⟨rfl, hb2⟩
          have HB2 := hid (HB.out.trans (hb2.mono HB.out.size))
          clear hb2
          go_wp2
          go_roundw
          case rel => exact ⟨k + 1, by omega, by go_num, HB2⟩
          case measure => simp [intOf]; omega
        · obtain rfl : k = i := by omega
          go_wp2
          go_ret
          exact ⟨rfl, HB.out⟩

set_option maxRecDepth 100000 in
set_option maxHeartbeats 400000 in
theorem chStep_yes (a c : Option Addr) (ca cc n : Nat) (l : List Fr) (R : List (List Fr)) (f : Nat → Rat) (g : Nat → Nat → Rat) (w : World) (ha : FrS w a l) (hR : FsS w c R) (hf : Lst n f l) (hok : RwsOK n n R) (hg : ∀ i (h : i < R.length), Lst n (g i) R[i]) (hsz : ∀ i j, i < n → j < n → qw (f i * g i j) ≤ 1500) (h1 : 1 ≤ n) (hn : n ≤ 4) :
    Calls Tryz.prog 20 #[.slice a n ca, .slice c n cc] w fun e w' => ∃ G, e = .returned (.tuple #[.slice (some ⟨G, 0, none⟩) n n, .int .i64 0]) ∧ w.heap.size ≤ G ∧ RowF w' G (lF n fun j => sumR (fun i => f i * g i j) n) ∧ Below w.heap.size w w' := by
  have HC := hid (chCheck_yes c cc n R w hR hok h1 (by omega))
  have HM := hid (fun (V : World) (hb : Below w.heap.size w V) => chMoved_any a c ca cc n l R f g V (ha.below hb) (hR.below hb) hf hok.len hg hsz hn)
  clear ha hR hf hok hg hsz
  generalize (lF n fun j => sumR (fun i => f i * g i j) n) = FL at *
  go_enter Tryz.func20, Tryz.ntmps20
  go_wp2_with fail
  refine HC.out.mono ?_
  rintro e w1 ⟨rfl, hb1⟩
  have HB1 := hid hb1
  clear hb1
  go_wp2_with fail
  refine (HM.out _ HB1.out).mono ?_
  rintro e w2 ⟨G, rfl, hG, hr, hb2⟩
  have HB2 := hid (HB1.out.trans (hb2.mono HB1.out.size))
  have HRR := hid hr
  have hGw : w.heap.size ≤ G := Nat.le_trans HB1.out.size hG
  clear hr hb2 hG
  go_wp2
  go_ret2
  exact ⟨G, rfl, hGw, HRR.out, HB2.out⟩

/-- A list of lists of fractions as the slices that stand there. -/
theorem FsS.vals {w : World} {a : Option Addr} {R : List (List Fr)} (h : FsS w a R) : ∃ X : List Value, X.length = R.length ∧ VaS w a X ∧ ∀ v ∈ X, ∃ (b : Option Addr) (l : List Fr) (c : Nat), v = .slice b l.length c ∧ FrS w b l ∧ l ∈ R := by
  let at' : Nat → Value := fun k => match a with
    | some p => (w.cell? ⟨p.block, p.off + k, none⟩).getD (.slice none 0 0)
    | none => .slice none 0 0
  have key : ∀ k (hk : k < R.length), ∃ g o b c, a = some ⟨g, o, none⟩ ∧ g < w.heap.size ∧ w.cell? ⟨g, o + k, none⟩ = some (at' k) ∧ at' k = .slice b R[k].length c ∧ FrS w b R[k] := fun k hk => by
    obtain ⟨g, o, b, c, rfl, hg, h3, h4, -⟩ := h k hk
    have e : at' k = .slice b R[k].length c := by simp only [at', h3, Option.getD_some]
    exact ⟨g, o, b, c, rfl, hg, by rw [e]; exact h3, e, h4⟩
  refine ⟨(List.range R.length).map at', by simp, fun k hk => ?_, fun v hv => ?_⟩
  · have hk' : k < R.length := by simpa using hk
    obtain ⟨g, o, b, c, h1, h2, h3, h4, -⟩ := key k hk'
    have e : ((List.range R.length).map at')[k] = at' k := by simp
    rw [e]
    exact ⟨g, o, h1, h2, h3, b, _, c, h4⟩
  · obtain ⟨k, hk, rfl⟩ := List.mem_map.1 hv
    have hk' : k < R.length := List.mem_range.1 hk
    obtain ⟨g, o, b, c, h1, h2, h3, h4, h5⟩ := key k hk'
    exact ⟨b, R[k], c, h4, h5, List.getElem_mem hk'⟩
/-- A hidden chain in memory, that may be. -/
structure HidI (w : World) (a b c : Option Addr) (n m : Nat) (l : List Fr) (R1 R2 : List (List Fr)) : Prop where
  st : FrS w a l
  mv : FsS w b R1
  sh : FsS w c R2
theorem HidI.below {w w' : World} {a b c : Option Addr} {n m : Nat} {l : List Fr} {R1 R2 : List (List Fr)} (h : HidI w a b c n m l R1 R2) (hb : Below w.heap.size w w') : HidI w' a b c n m l R1 R2 := ⟨h.st.below hb, h.mv.below hb, h.sh.below hb⟩
structure HidOK (n m : Nat) (l : List Fr) (R1 R2 : List (List Fr)) : Prop where
  n1 : 1 ≤ n
  n4 : n ≤ 4
  m1 : 1 ≤ m
  m4 : m ≤ 4
  len : l.length = n
  fw : fw l ≤ 10000
  row : rowB l = true
  mv : RwsOK n n R1
  sh : RwsOK n m R2
theorem HidOK.all {n m : Nat} {l : List Fr} {R1 R2 : List (List Fr)} (h : HidOK n m l R1 R2) : ∀ r ∈ [l] ++ R1 ++ R2, rowB r = true ∧ Go.Proofs.YtbejijgelljeaaaGreatDoor.fw r ≤ 10000 ∧ r.length ≤ 4 := fun r hr => by
  rcases List.mem_append.1 hr with h1 | h1
  · rcases List.mem_append.1 h1 with h2 | h2
    · rw [List.mem_singleton.1 h2]
      exact ⟨h.row, h.fw, by rw [h.len]; exact h.n4⟩
    · obtain ⟨i, hi, rfl⟩ := List.getElem_of_mem h2
      exact ⟨h.mv.row i hi, h.mv.fw i hi, by rw [h.mv.each i hi]; exact h.n4⟩
  · obtain ⟨i, hi, rfl⟩ := List.getElem_of_mem h1
    exact ⟨h.sh.row i hi, h.sh.fw i hi, by rw [h.sh.each i hi]; exact h.m4⟩

end Go.Proofs.YtbejijgelljeaaaGreatDoor


/- forward of package hidden. -/
namespace Go.Proofs.YtbejijgelljeaaaGreatDoor
open Go.RowKit Go.Shelf

theorem wp_make_full {P : Program} (w : World) {o : Oper} {a : Act} {K : Act → World → Prop} {Q : Exit → Act → World → Prop} (l c : Operand) (t : TypeId) (hop : o.op = Op.makeSlice t l c)
    (base : Nat) (e : TypeId) (i : TypeInfo) (z : Value) (size : Nat) (h1 : P.underlying t = some (.slice e)) (h2 : P.info? e = some i) (h3 : i.zero = some z) (h4 : i.size = size)
    (kl kc : IntKind) (L C : Int) (n : Nat) (hl : a.eval l = .int kl L) (hc : a.eval c = .int kc C) (hL : L = (n : Int)) (hC : C = (n : Int)) (b2 : i.bytes * n ≤ 281474976710656) (b3 : n ≤ maxLen) (b4 : base ≤ w.heap.size)
    (hK : ∀ w', w'.ownsRow base e size (.slice (some ⟨w.heap.size, 0, none⟩) n n) n (madeCells z.cells (n * size)).toList → w.grownBy w' none → K (a.put o.dst (.slice (some ⟨w.heap.size, 0, none⟩) n n)) w') : o.wp P a w K Q := by
  obtain ⟨w', hrun, r1, r2⟩ := run_make_full (P := P) w base t e i z size h1 h2 h3 h4 kl kc n b2 b3 b4
  subst hL
  subst hC
  unfold Oper.wp
  simp [execOp, hop, hl, hc, hrun, Result.andThen]
  exact hK w' r1 r2
/-- The block G holds slices of fractions. -/
def RowV (w : World) (G : Nat) (X : List Value) : Prop := w.heap[G]? = some (.cells X.toArray 27 (0, 0))
theorem RowV.cell {w : World} {g : Nat} {X : List Value} (h : RowV w g X) (j : Nat) (hj : j < X.length) : w.cell? ⟨g, j, none⟩ = some X[j] := by
  rw [cell_of_row w g j _ _ (0, 0) h]
  simp [hj]
theorem RowV.fz {w : World} {g : Nat} {X : List Value} (h : RowV w g X) (j : Nat) : w.frozen? ⟨g, j, none⟩ = false := frozen_of_row w g j _ _ h
theorem RowV.lt {w : World} {g : Nat} {X : List Value} (h : RowV w g X) : g < w.heap.size := (Array.getElem?_eq_some_iff.1 h).1
theorem RowV.below {w w' : World} {g b : Nat} {X : List Value} (h : RowV w g X) (hb : Below b w w') (hg : g < b) : RowV w' g X := (hb.block g hg).trans h
theorem RowV.set {w : World} {g : Nat} {X : List Value} (h : RowV w g X) (j : Nat) (v : Value) : RowV (w.setCell ⟨g, j, none⟩ v) g (X.set j v) := by
  have h1 : (w.setCell ⟨g, j, none⟩ v).heap[g]? = some (.cells (X.toArray.setIfInBounds j v) 27 (0, 0)) := heap_setCell_same w g j _ _ _ h
  rw [RowV, h1]
  simp
theorem made_slices (n : Nat) : (madeCells (Value.slice none 0 0).cells (n * 1)).toList = List.replicate n (.slice none 0 0) := by
  rw [show (Value.slice none 0 0).cells = #[Value.slice none 0 0] from rfl, toList_madeCells_one, Nat.mul_one]
/-- Lists of fractions that come one by one. -/
structure FwS (w : World) (s L G t : Nat) (F : Nat → Nat → Rat) (U : World) : Prop where
  ex : ∃ X : List Value, X.length = L ∧ RowV U G X ∧ ∀ k (hk : k < X.length), k < t → ∃ g, X[k] = .slice (some ⟨g, 0, none⟩) s s ∧ G < g ∧ RowF U g (lF s (F k))
  bel : Below w.heap.size w U
theorem FwS.step {w U U' : World} {s L G t : Nat} {F : Nat → Nat → Rat} (h : FwS w s L G t F U) (hb : Below U.heap.size U U') : FwS w s L G t F U' := by
  obtain ⟨X, h1, h2, h3⟩ := h.ex
  refine ⟨⟨X, h1, h2.below hb h2.lt, fun k hk ht => ?_⟩, h.bel.trans (hb.mono h.bel.size)⟩
  obtain ⟨g, e1, e2, e3⟩ := h3 k hk ht
  exact ⟨g, e1, e2, e3.below hb e3.lt⟩
theorem FwS.drew {w U : World} {s L G t : Nat} {F : Nat → Nat → Rat} (h : FwS w s L G t F U) : FwS w s L G t F U.drew := h.step (Below.refl _ _).drew
theorem FwS.lt {w U : World} {s L G t : Nat} {F : Nat → Nat → Rat} (h : FwS w s L G t F U) : G < U.heap.size := by
  obtain ⟨X, _, h2, _⟩ := h.ex
  exact h2.lt
theorem FwS.rows {w U : World} {s L G : Nat} {F : Nat → Nat → Rat} (h : FwS w s L G L F U) : FsS U (some ⟨G, 0, none⟩) ((List.range L).map fun t => lF s (F t)) := fun k hk => by
  obtain ⟨X, h1, h2, h3⟩ := h.ex
  have hk' : k < L := by simpa using hk
  obtain ⟨g, e1, _, e3⟩ := h3 k (by omega) hk'
  have e : ((List.range L).map fun t => lF s (F t))[k] = lF s (F k) := by simp
  rw [e, lF_length]
  exact ⟨G, 0, _, s, rfl, h2.lt, by rw [Nat.zero_add, h2.cell k (by omega), e1], e3.fr, Nat.le_refl _⟩
/-- What a step begins with. -/
def HC.inn (h : HC) : Nat → Nat → Rat
  | 0, j => h.st j
  | t + 1, j => sumR (fun i => h.alp t i * h.mv i j) h.s
theorem HC.alp_inn (h : HC) : ∀ t i, h.alp t i = h.inn t i * h.sh t i
  | 0, _ => rfl
  | _ + 1, _ => rfl
/-- A hidden chain in memory stands for these numbers. -/
structure HidV (h : HC) (m : Nat) (l : List Fr) (R1 R2 : List (List Fr)) (Q : List Nat) : Prop where
  ok : HidOK h.s m l R1 R2
  L : Q.length = h.L
  q : ∀ x ∈ Q, x < m
  st : Lst h.s h.st l
  mv : ∀ i (hi : i < R1.length), Lst h.s (h.mv i) R1[i]
  sh : ∀ t (ht : t < Q.length) i (hi : i < R2.length), ∃ hx : Q[t] < R2[i].length, frQ R2[i][Q[t]] = h.sh t i ∧ R2[i][Q[t]].2.1.size + R2[i][Q[t]].2.2.size ≤ 1500
  sm : h.Sml
theorem HidV.inn {h : HC} {m : Nat} {l : List Fr} {R1 R2 : List (List Fr)} {Q : List Nat} (v : HidV h m l R1 R2 Q) : ∀ t i, t < h.L → i < h.s → qw (h.inn t i) ≤ 1500
  | 0, i, _, hi => ((v.sm.st i hi)).qw (by omega)
  | t + 1, j, ht, hj => (Sm.sum v.sm.s4 fun i hi => (v.sm.alp t i (by omega) hi).mul (v.sm.mv i hi j hj)).qw (by have := v.sm.L8; omega)
theorem HidV.mvs {h : HC} {m : Nat} {l : List Fr} {R1 R2 : List (List Fr)} {Q : List Nat} (v : HidV h m l R1 R2 Q) (t : Nat) (ht : t < h.L) (i j : Nat) (hi : i < h.s) (hj : j < h.s) : qw (h.alp t i * h.mv i j) ≤ 1500 := ((v.sm.alp t i ht hi).mul (v.sm.mv i hi j hj)).qw (by have := v.sm.L8; omega)
theorem HidV.alps {h : HC} {m : Nat} {l : List Fr} {R1 R2 : List (List Fr)} {Q : List Nat} (v : HidV h m l R1 R2 Q) (t : Nat) (ht : t < h.L) : Lst h.s (h.alp t) (lF h.s (h.alp t)) := Lst.mk' fun i hi => (v.sm.alp t i ht hi).qw (by have := v.sm.L8; omega)

/-- What the walk asks of the numbers. -/
structure FwH (h : HC) (m n : Nat) (Q : List Nat) (l : List Fr) (R1 R2 : List (List Fr)) : Prop where
  L : Q.length = h.L
  q : ∀ x ∈ Q, x < m
  st : Lst n h.st l
  mv : ∀ i (hi : i < R1.length), Lst n (h.mv i) R1[i]
  sh : ∀ t (ht : t < Q.length) i (hi : i < R2.length), ∃ hx : Q[t] < R2[i].length, frQ R2[i][Q[t]] = h.sh t i ∧ R2[i][Q[t]].2.1.size + R2[i][Q[t]].2.2.size ≤ 1500

end Go.Proofs.YtbejijgelljeaaaGreatDoor


/- Chains: equations and rows of bools in memory. -/
namespace Go.Proofs.YtbejijgelljeaaaGreatDoor
open Go.RowKit Go.Shelf

theorem lF_set {m : Nat} {f : Nat → Rat} (k : Nat) (q : Rat) : (lF m f).set k (qF q) = lF m fun j => if j = k then q else f j := by
  refine List.ext_getElem (by rw [List.length_set, lF_length, lF_length]) fun j h1 h2 => ?_
  rw [List.getElem_set, lF_get h2]
  by_cases e : k = j
  · subst e; simp
  · rw [if_neg e, lF_get, if_neg fun e' => e e'.symm]
/-- A row of fractions that a call owns, which may have room behind it. -/
def EqR (U : World) (B g m c : Nat) (f : Nat → Rat) : Prop := U.ownsRow B 33 3 (.slice (some ⟨g, 0, none⟩) m c) m (frC (lF m f))
theorem EqR.of {U : World} {B g m c : Nat} {f : Nat → Rat} (h : RwF U B (.slice (some ⟨g, 0, none⟩) m c) (lF m f)) : EqR U B g m c f := by
  rw [RwF, lF_length] at h
  exact h
theorem EqR.congr {U : World} {B g m c : Nat} {f f' : Nat → Rat} (h : EqR U B g m c f) (e : ∀ j, j < m → f j = f' j) : EqR U B g m c f' := by
  rw [EqR, ← lF_congr e]
  exact h
theorem EqR.block {U : World} {B g m c : Nat} {f : Nat → Rat} (h : EqR U B g m c f) : B ≤ g ∧ m ≤ c ∧ ∃ cur : Array Value, U.heap[g]? = some (.cells cur 33 (0, 0)) := by
  rcases h.2 with ⟨h', _⟩ | ⟨g', cap, cur, h', h2, h3, h4, _⟩
  · cases h'
  · cases h'
    exact ⟨h2, h4, _, h3⟩
theorem EqR.lt {U : World} {B g m c : Nat} {f : Nat → Rat} (h : EqR U B g m c f) : g < U.heap.size := by
  obtain ⟨_, _, cur, h3⟩ := h.block
  exact (Array.getElem?_eq_some_iff.1 h3).1
theorem EqR.cells {U : World} {B g m c : Nat} {f : Nat → Rat} (h : EqR U B g m c f) {k : Nat} (hk : k < m) : U.cell? ⟨g, k * 3, none⟩ = some (.bool (qF (f k)).1) ∧ U.cell? ⟨g, k * 3 + 1, none⟩ = some (.string (qF (f k)).2.1) ∧ U.cell? ⟨g, k * 3 + 2, none⟩ = some (.string (qF (f k)).2.2) := by
  have hl : k < (lF m f).length := by rw [lF_length]; exact hk
  obtain ⟨h1, h2, h3⟩ := frC_get (lF m f) k hl
  rw [lF_get hl] at h1 h2 h3
  exact ⟨(World.ownsRow.cellAt h _ (by omega)).trans h1, (World.ownsRow.cellAt h _ (by omega)).trans h2, (World.ownsRow.cellAt h _ (by omega)).trans h3⟩
theorem EqR.fz {U : World} {B g m c : Nat} {f : Nat → Rat} (h : EqR U B g m c f) (j : Nat) : U.frozen? ⟨g, j, none⟩ = false := World.ownsRow.frozenAt h j
theorem EqR.fr {U : World} {B g m c : Nat} {f : Nat → Rat} (h : EqR U B g m c f) : FrS U (some ⟨g, 0, none⟩) (lF m f) := fun k hk => by
  obtain ⟨h1, h2, h3⟩ := h.cells (by rw [lF_length] at hk; exact hk)
  rw [lF_get hk]
  exact ⟨g, 0, rfl, h.lt, by rw [Nat.zero_add]; exact h1, by rw [Nat.zero_add]; exact h2, by rw [Nat.zero_add]; exact h3⟩
theorem EqR.below {U U' : World} {B g m c : Nat} {f : Nat → Rat} (h : EqR U B g m c f) (hb : Below U.heap.size U U') : EqR U' B g m c f := owns_keep h (KeepT.below hb)
theorem EqR.kept {U U' : World} {B g m c : Nat} {f : Nat → Rat} (h : EqR U B g m c f) {x : Nat} (hg : U.grownBy U' (some x)) (hne : g ≠ x) : EqR U' B g m c f := World.ownsRow.kept h hg (.inr fun e => hne (by cases e; rfl))
theorem EqR.put {U : World} {B g m c : Nat} {f : Nat → Rat} (h : EqR U B g m c f) (k : Nat) (q : Rat) : EqR (((U.setCell ⟨g, k * 3, none⟩ (.bool (qF q).1)).setCell ⟨g, k * 3 + 1, none⟩ (.string (qF q).2.1)).setCell ⟨g, k * 3 + 2, none⟩ (.string (qF q).2.2)) B g m c (fun j => if j = k then q else f j) ∧ U.grownBy (((U.setCell ⟨g, k * 3, none⟩ (.bool (qF q).1)).setCell ⟨g, k * 3 + 1, none⟩ (.string (qF q).2.1)).setCell ⟨g, k * 3 + 2, none⟩ (.string (qF q).2.2)) (some g) := by
  obtain ⟨a1, b1⟩ := World.ownsRow.stored h (k * 3) (.bool (qF q).1)
  obtain ⟨a2, b2⟩ := World.ownsRow.stored a1 (k * 3 + 1) (.string (qF q).2.1)
  obtain ⟨a3, b3⟩ := World.ownsRow.stored a2 (k * 3 + 2) (.string (qF q).2.2)
  rw [frC_set, lF_set] at a3
  exact ⟨a3, ⟨b3.os.trans (b2.os.trans b1.os), b3.tape.trans (b2.tape.trans b1.tape), b3.output.trans (b2.output.trans b1.output), Nat.le_trans b1.size (Nat.le_trans b2.size b3.size), fun i hi hne => (b3.block i (Nat.lt_of_lt_of_le hi (Nat.le_trans b1.size b2.size)) hne).trans ((b2.block i (Nat.lt_of_lt_of_le hi b1.size) hne).trans (b1.block i hi hne))⟩⟩
theorem grown_then {a b c : World} {r : Option Nat} (h : a.grownBy b r) (k : b.grownBy c r) : a.grownBy c r :=
  ⟨k.os.trans h.os, k.tape.trans h.tape, k.output.trans h.output, Nat.le_trans h.size k.size, fun i hi hne => (k.block i (Nat.lt_of_lt_of_le hi h.size) hne).trans (h.block i hi hne)⟩
theorem grown_below {a b c : World} {r : Option Nat} (h : a.grownBy b r) (k : Below b.heap.size b c) : a.grownBy c r :=
  ⟨k.os.trans h.os, k.tape.trans h.tape, k.output.trans h.output, Nat.le_trans h.size k.size, fun i hi hne => (k.block i (Nat.lt_of_lt_of_le hi h.size)).trans (h.block i hi hne)⟩
/-- Equations in memory: n rows of m. -/
structure EqS (B n m G : Nat) (g c : Nat → Nat) (M : Nat → Nat → Rat) (U : World) : Prop where
  top : RowV U G ((List.range n).map fun k => Value.slice (some ⟨g k, 0, none⟩) m (c k))
  row : ∀ k, k < n → EqR U B (g k) m (c k) (M k)
  inj : ∀ k k', k < n → k' < n → g k = g k' → k = k'
  gl : B ≤ G
theorem EqS.slice {B n m G : Nat} {g c : Nat → Nat} {M : Nat → Nat → Rat} {U : World} (h : EqS B n m G g c M U) {k : Nat} (hk : k < n) : U.cell? ⟨G, k, none⟩ = some (.slice (some ⟨g k, 0, none⟩) m (c k)) := by
  rw [h.top.cell k (by simpa using hk)]
  simp
theorem EqS.ne {B n m G : Nat} {g c : Nat → Nat} {M : Nat → Nat → Rat} {U : World} (h : EqS B n m G g c M U) {k : Nat} (hk : k < n) : G ≠ g k := fun e => by
  obtain ⟨_, _, cur, h3⟩ := (h.row k hk).block
  have h1 := h.top
  rw [RowV, e, h3] at h1
  have h2 := Option.some.inj h1
  injection h2 with _ h4
  exact absurd h4 (by decide)
theorem EqS.step {B n m G : Nat} {g c : Nat → Nat} {M : Nat → Nat → Rat} {U U' : World} (h : EqS B n m G g c M U) (hb : Below U.heap.size U U') : EqS B n m G g c M U' := ⟨h.top.below hb h.top.lt, fun k hk => (h.row k hk).below hb, h.inj, h.gl⟩
theorem EqS.congr {B n m G : Nat} {g c : Nat → Nat} {M M' : Nat → Nat → Rat} {U : World} (h : EqS B n m G g c M U) (e : ∀ i, i < n → M i = M' i) : EqS B n m G g c M' U := ⟨h.top, fun k hk => by rw [← e k hk]; exact h.row k hk, h.inj, h.gl⟩
theorem EqS.write {B n m G : Nat} {g c : Nat → Nat} {M : Nat → Nat → Rat} {U U' : World} (h : EqS B n m G g c M U) {k : Nat} {f : Nat → Rat} (hk : k < n) (hg : U.grownBy U' (some (g k))) (hr : EqR U' B (g k) m (c k) f) : EqS B n m G g c (fun i => if i = k then f else M i) U' := by
  refine ⟨(hg.block G h.top.lt fun e => h.ne hk (Option.some.inj e)).trans h.top, fun i hi => ?_, h.inj, h.gl⟩
  by_cases e : i = k
  · subst e; rw [if_pos rfl]; exact hr
  · rw [if_neg e]; exact (h.row i hi).kept hg fun e' => e (h.inj i k hi hk e')
theorem EqS.from {B n m G : Nat} {g c : Nat → Nat} {M : Nat → Nat → Rat} {U U' : World} (h : EqS B n m G g c M U) {k : Nat} (hk : k < n) (hg : U.grownBy U' (some (g k))) (hB : B ≤ U.heap.size) : Below B U U' := (Below.refl B U).grown hg hB fun i e => by cases e; exact (h.row k hk).block.1
/-- A row of bools. -/
def RowBo (w : World) (g : Nat) (l : List Bool) : Prop := w.heap[g]? = some (.cells (l.map Value.bool).toArray 4 (0, 0))
theorem RowBo.cell {w : World} {g : Nat} {l : List Bool} (h : RowBo w g l) (j : Nat) (hj : j < l.length) : w.cell? ⟨g, j, none⟩ = some (.bool l[j]) := by
  rw [cell_of_row w g j _ _ (0, 0) h]
  simp [hj]
theorem RowBo.fz {w : World} {g : Nat} {l : List Bool} (h : RowBo w g l) (j : Nat) : w.frozen? ⟨g, j, none⟩ = false := frozen_of_row w g j _ _ h
theorem RowBo.set {w : World} {g : Nat} {l : List Bool} (h : RowBo w g l) (j : Nat) (y : Bool) : RowBo (w.setCell ⟨g, j, none⟩ (.bool y)) g (l.set j y) := by
  have h2 := heap_setCell_same w g j _ _ (.bool y) h
  rw [RowBo, h2]
  simp [List.map_set]
theorem made_boolc (n : Nat) : (madeCells (Value.bool false).cells (n * 1)).toList = (List.replicate n false).map Value.bool := by
  rw [show (Value.bool false).cells = #[Value.bool false] from rfl, toList_madeCells_one, Nat.mul_one]
  simp
theorem Tryz.infoBoolc : (Tryz.prog.info? 4).map (fun i => (i.zero, i.size, i.bytes)) = some (some (.bool false), 1, 1) := by kernel_rfl
theorem Tryz.infoBoolsc : (Tryz.prog.info? 43).map (fun i => (i.zero, i.size, i.bytes)) = some (some (.slice none 0 0), 1, 24) := by kernel_rfl
/-- What the block of all rows holds, where c rows are made. -/
def topB (n c : Nat) (R : Nat → Nat) : List Value := (List.range n).map fun v => if v < c then .slice (some ⟨R v, 0, none⟩) n n else .slice none 0 0
theorem topB_length (n c : Nat) (R : Nat → Nat) : (topB n c R).length = n := by simp [topB]
theorem topB_at {n c : Nat} {R : Nat → Nat} {v : Nat} (hv : v < n) (hc : v < c) : (topB n c R)[v]'(by rw [topB_length]; exact hv) = .slice (some ⟨R v, 0, none⟩) n n := by simp [topB, hc]
/-- A matrix of bools: c rows of n. -/
structure BMt (W : World) (B G n c : Nat) (R : Nat → Nat) (e : Nat → Nat → Bool) : Prop where
  top : W.heap[G]? = some (.cells (topB n c R).toArray 43 (0, 0))
  row : ∀ v, v < c → v < n → RowBo W (R v) ((List.range n).map (e v))
  inj : ∀ v v', v < c → v' < c → R v = R v' → v = v'
  low : ∀ v, v < c → B ≤ R v
  gl : B ≤ G
theorem BMt.keep {W W' : World} {B G n c : Nat} {R : Nat → Nat} {e : Nat → Nat → Bool} (h : BMt W B G n c R e) (h1 : KeepT 43 W W') (h2 : KeepT 4 W W') : BMt W' B G n c R e := ⟨h1 _ _ _ h.top, fun v hc hv => h2 _ _ _ (h.row v hc hv), h.inj, h.low, h.gl⟩
theorem BMt.below {W W' : World} {B G n c : Nat} {R : Nat → Nat} {e : Nat → Nat → Bool} (h : BMt W B G n c R e) (hb : Below W.heap.size W W') : BMt W' B G n c R e := h.keep (KeepT.below hb) (KeepT.below hb)
theorem BMt.drew {W : World} {B G n c : Nat} {R : Nat → Nat} {e : Nat → Nat → Bool} (h : BMt W B G n c R e) : BMt W.drew B G n c R e := h.below (Below.refl _ _).drew
theorem BMt.lt {W : World} {B G n c : Nat} {R : Nat → Nat} {e : Nat → Nat → Bool} (h : BMt W B G n c R e) : G < W.heap.size := (Array.getElem?_eq_some_iff.1 h.top).1
theorem BMt.fzt {W : World} {B G n c : Nat} {R : Nat → Nat} {e : Nat → Nat → Bool} (h : BMt W B G n c R e) (j : Nat) : W.frozen? ⟨G, j, none⟩ = false := frozen_of_row W G j _ _ h.top
theorem BMt.slice {W : World} {B G n c : Nat} {R : Nat → Nat} {e : Nat → Nat → Bool} (h : BMt W B G n c R e) {v : Nat} (hv : v < n) (hc : v < c) : W.cell? ⟨G, v, none⟩ = some (.slice (some ⟨R v, 0, none⟩) n n) := by
  rw [cell_of_row W G v _ _ (0, 0) h.top, List.getElem?_toArray, List.getElem?_eq_getElem (by rw [topB_length]; exact hv), topB_at hv hc]
theorem BMt.cell {W : World} {B G n c : Nat} {R : Nat → Nat} {e : Nat → Nat → Bool} (h : BMt W B G n c R e) {v u : Nat} (hv : v < n) (hc : v < c) (hu : u < n) : W.cell? ⟨R v, u, none⟩ = some (.bool (e v u)) := by
  rw [(h.row v hc hv).cell u (by simpa using hu)]
  simp
theorem BMt.set {W : World} {B G n c : Nat} {R : Nat → Nat} {e e' : Nat → Nat → Bool} (h : BMt W B G n c R e) {v u : Nat} {b : Bool} (hv : v < n) (hc : v < c) (he : ∀ v' u', v' < n → u' < n → e' v' u' = if v' = v ∧ u' = u then b else e v' u') : BMt (W.setCell ⟨R v, u, none⟩ (.bool b)) B G n c R e' := by
  have hr := h.row v hc hv
  refine ⟨KeepT.set hr (by decide) u _ _ _ _ h.top, fun v' hc' hv' => ?_, h.inj, h.low, h.gl⟩
  by_cases ev : v' = v
  · subst ev
    have := hr.set u b
    have el : ((List.range n).map (e v')).set u b = (List.range n).map (e' v') := by
      refine List.ext_getElem (by simp) fun j h1 h2 => ?_
      rw [List.getElem_set]
      simp only [List.getElem_map, List.getElem_range]
      rw [he v' j hv (by simpa using h2)]
      by_cases ej : u = j
      · simp [ej]
      · rw [if_neg ej, if_neg fun e => ej e.2.symm]
    rwa [el] at this
  · have ne : R v' ≠ R v := fun e => ev (h.inj v' v hc' hc e)
    have el : (List.range n).map (e' v') = (List.range n).map (e v') := List.map_congr_left fun j hj => by rw [he v' j hv' (List.mem_range.1 hj), if_neg fun e => ev e.1]
    rw [el]
    exact (Below.heap_setCell W ⟨R v, u, none⟩ _ (R v') ne).trans (h.row v' hc' hv')
theorem BMt.congr {W : World} {B G n c : Nat} {R : Nat → Nat} {e e' : Nat → Nat → Bool} (h : BMt W B G n c R e) (he : ∀ v u, v < c → u < n → e v u = e' v u) : BMt W B G n c R e' := ⟨h.top, fun v hc hv => by
  have el : (List.range n).map (e' v) = (List.range n).map (e v) := List.map_congr_left fun j hj => (he v j hc (List.mem_range.1 hj)).symm
  rw [el]; exact h.row v hc hv, h.inj, h.low, h.gl⟩
/-- One row more. -/
theorem BMt.more {W W1 : World} {B G n c g : Nat} {R : Nat → Nat} {e : Nat → Nat → Bool} (h : BMt W B G n c R e) (hb : Below W.heap.size W W1) (hg : W.heap.size ≤ g) (hB : B ≤ W.heap.size) (hr : RowBo W1 g (List.replicate n false)) (hc : c < n) : BMt (W1.setCell ⟨G, c, none⟩ (.slice (some ⟨g, 0, none⟩) n n)) B G n (c + 1) (fun x => if x = c then g else R x) (fun v u => if v = c then false else e v u) := by
  have hlt : ∀ v, v < c → R v < W.heap.size := fun v hv => (Array.getElem?_eq_some_iff.1 (h.row v hv (by omega))).1
  have hG : W1.heap[G]? = some (.cells (topB n c R).toArray 43 (0, 0)) := KeepT.below hb _ _ _ h.top
  have hset := heap_setCell_same W1 G c _ _ (.slice (some ⟨g, 0, none⟩) n n) hG
  have hrow : ∀ r l, RowBo W1 r l → RowBo (W1.setCell ⟨G, c, none⟩ (.slice (some ⟨g, 0, none⟩) n n)) r l := fun r l hl => KeepT.set hG (by decide) c _ _ _ _ hl
  refine ⟨?_, fun v hv hvn => ?_, fun v v' hv hv' e' => ?_, fun v hv => ?_, h.gl⟩
  · rw [hset]
    have el : (topB n c R).toArray.setIfInBounds c (.slice (some ⟨g, 0, none⟩) n n) = (topB n (c + 1) (fun x => if x = c then g else R x)).toArray := by
      rw [List.setIfInBounds_toArray]
      congr 1
      refine List.ext_getElem (by simp [topB]) fun j h1 h2 => ?_
      rw [List.getElem_set]
      simp only [topB, List.getElem_map, List.getElem_range]
      by_cases ej : c = j
      · subst ej; simp
      · rw [if_neg ej]
        by_cases hj : j < c
        · rw [if_pos hj, if_pos (by omega), if_neg (by omega)]
        · rw [if_neg hj, if_neg (by omega)]
    rw [el]
  · by_cases ev : v = c
    · subst ev
      have el : (List.range n).map (fun u => if v = v then false else e v u) = List.replicate n false := List.ext_getElem (by simp) fun i _ _ => by simp
      show RowBo _ (if v = v then g else R v) ((List.range n).map (fun u => if v = v then false else e v u))
      rw [if_pos rfl, el]
      exact hrow _ _ hr
    · show RowBo _ (if v = c then g else R v) ((List.range n).map (fun u => if v = c then false else e v u))
      simp only [if_neg ev]
      exact hrow _ _ (KeepT.below hb _ _ _ (h.row v (by omega) hvn))
  · have e1 : (if v = c then g else R v) = (if v' = c then g else R v') := e'
    by_cases h1 : v = c
    · by_cases h2 : v' = c
      · rw [h1, h2]
      · rw [if_pos h1, if_neg h2] at e1
        have := hlt v' (by omega); omega
    · by_cases h2 : v' = c
      · rw [if_neg h1, if_pos h2] at e1
        have := hlt v (by omega); omega
      · rw [if_neg h1, if_neg h2] at e1
        exact h.inj v v' (by omega) (by omega) e1
  · show B ≤ (if v = c then g else R v)
    by_cases h1 : v = c
    · rw [if_pos h1]; omega
    · rw [if_neg h1]; exact h.low v (by omega)
end Go.Proofs.YtbejijgelljeaaaGreatDoor

