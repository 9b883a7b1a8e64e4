/- The tokens of a net's text, plainly. -/
import Derived.Test.YtojidhnkpeiimaaGreatDoorTextDToNumQ
import Derived.Test.YtojidhnkpeiimaaGreatDoorRowAToTextC
import Derived.Test.YtojidhnkpeiimaaGreatDoorIterBToNetC
import Derived.Test.YtojidhnkpeiimaaGreatDoorSumAToNameD
import Derived.Laws.EntriesVeiled
import Derived.Test.YtojidhnkpeiimaaGreatDoorFracAToRefS
import Derived.Test.YtojidhnkpeiimaaGreatDoorDivBToRefC
namespace Go.Proofs.YtojidhnkpeiimaaGreatDoor
open Go.RowKit Go.Lib
def wsB (c : UInt8) : Bool := c == 32 || c == 10 || c == 9
def numN (c : Nat) : Bool := figN c || decide (c = 46) || decide (c = 47)
def gonC (c d : UInt8) : Bool := if letN c.toNat then worN d.toNat else if figN c.toNat then numN d.toNat else false
def trimT (l : List UInt8) : List UInt8 := l.dropWhile wsB
def tokL : List UInt8 → List UInt8
  | [] => []
  | c :: l => c :: l.takeWhile (gonC c)
def Rst : List ByteArray → List UInt8 → Prop
  | [], l => trimT l = []
  | t :: ts, l => ∃ rest, trimT l = bl t ++ rest ∧ tokL (bl t ++ rest) = bl t ∧ bl t ≠ [] ∧ Rst ts rest
def Tk (t : ByteArray) : Prop := ∃ c l, bl t = c :: l ∧ wsB c = false ∧ l.all (gonC c) = true
theorem ws_not {c d : UInt8} (h : wsB d = true) : gonC c d = false := by
  have hd : d = 32 ∨ d = 10 ∨ d = 9 := by
    simp only [wsB, Bool.or_eq_true, beq_iff_eq] at h
    exact h.elim (fun h => h.elim .inl fun h => .inr (.inl h)) fun h => .inr (.inr h)
  unfold gonC
  split
  · rcases hd with rfl | rfl | rfl <;> rfl
  · split
    · rcases hd with rfl | rfl | rfl <;> rfl
    · rfl
theorem trim_ws {ws l : List UInt8} (h : ∀ c ∈ ws, wsB c = true) : trimT (ws ++ l) = trimT l := by
  induction ws with
  | nil => rfl
  | cons c ws ih =>
    show ((c :: (ws ++ l)).dropWhile wsB) = _
    rw [List.dropWhile_cons_of_pos (h c List.mem_cons_self)]
    exact ih fun d hd => h d (List.mem_cons_of_mem _ hd)
theorem Rst.ws : ∀ {ts : List ByteArray} {ws l : List UInt8}, (∀ c ∈ ws, wsB c = true) → Rst ts l → Rst ts (ws ++ l)
  | [], _, _, h, hr => (trim_ws h).trans hr
  | t :: ts, _, _, h, hr => by
    obtain ⟨rest, h1, h2⟩ := hr
    exact ⟨rest, (trim_ws h).trans h1, h2⟩
theorem takeW {p : UInt8 → Bool} {l : List UInt8} {d : UInt8} {r : List UInt8} (h : l.all p = true) (hd : p d = false) : (l ++ d :: r).takeWhile p = l := by
  induction l with
  | nil => exact List.takeWhile_cons_of_neg (by rw [hd]; decide)
  | cons c l ih =>
    rw [List.all_cons, Bool.and_eq_true] at h
    show (c :: (l ++ d :: r)).takeWhile p = _
    rw [List.takeWhile_cons_of_pos h.1, ih h.2]
theorem Rst.cons {t : ByteArray} {ts : List ByteArray} {d : UInt8} {r : List UInt8} (ht : Tk t) (hd : wsB d = true) (hr : Rst ts (d :: r)) : Rst (t :: ts) (bl t ++ d :: r) := by
  obtain ⟨c, l, h1, h2, h3⟩ := ht
  refine ⟨d :: r, ?_, ?_, by rw [h1]; simp, hr⟩
  · rw [h1]
    exact List.dropWhile_cons_of_neg (by rw [h2]; decide)
  · rw [h1]
    show c :: (l ++ d :: r).takeWhile (gonC c) = _
    rw [takeW h3 (ws_not hd)]
theorem Rst.sp {d : UInt8} {r : List UInt8} (hd : wsB d = true) : ∀ {xs ts : List ByteArray}, (∀ t ∈ xs, Tk t) → Rst ts (d :: r) → Rst (xs ++ ts) (spL xs ++ d :: r)
  | [], _, _, hr => hr
  | t :: xs, ts, h, hr => by
    have ih := Rst.sp hd (xs := xs) (ts := ts) (fun t ht => h t (List.mem_cons_of_mem _ ht)) hr
    have e : spL (t :: xs) ++ d :: r = [32] ++ (bl t ++ (spL xs ++ d :: r)) := by simp [spL]
    rw [e]
    refine Rst.ws (by simp [wsB]) ?_
    cases xs with
    | nil => exact Rst.cons (h t List.mem_cons_self) hd ih
    | cons x xs =>
      have e2 : spL (x :: xs) ++ d :: r = 32 :: (bl x ++ spL xs ++ d :: r) := by simp [spL]
      rw [e2] at ih ⊢
      exact Rst.cons (h t List.mem_cons_self) (by decide) ih
theorem Rst.line {t : ByteArray} {xs ts : List ByteArray} {r : List UInt8} (ht : Tk t) (h : ∀ t ∈ xs, Tk t) (hr : Rst ts r) : Rst (t :: xs ++ ts) (bl t ++ spL xs ++ 10 :: r) := by
  have h1 : Rst ts (10 :: r) := Rst.ws (ws := [10]) (by simp [wsB]) hr
  have h2 := Rst.sp (d := 10) (r := r) (by decide) h h1
  rw [List.append_assoc]
  cases xs with
  | nil => exact Rst.cons ht (by decide) h2
  | cons x xs =>
    have e2 : spL (x :: xs) ++ 10 :: r = 32 :: (bl x ++ spL xs ++ 10 :: r) := by simp [spL]
    rw [e2] at h2 ⊢
    exact Rst.cons ht (by decide) h2
theorem Rst.lineS {xs ts : List ByteArray} {r : List UInt8} (h : ∀ t ∈ xs, Tk t) (hr : Rst ts r) : Rst (xs ++ ts) (spL xs ++ 10 :: r) := Rst.sp (d := 10) (by decide) h (Rst.ws (ws := [10]) (by simp [wsB]) hr)
def tVar : ByteArray := ⟨#[118, 97, 114]⟩
def tOpen : ByteArray := ⟨#[123]⟩
def tShut : ByteArray := ⟨#[125]⟩
def tCol : ByteArray := ⟨#[58]⟩
def tSemi : ByteArray := ⟨#[59]⟩
def tBar : ByteArray := ⟨#[124]⟩
theorem tk_var : Tk tVar := ⟨118, [97, 114], rfl, by decide, by decide⟩
theorem tk_open : Tk tOpen := ⟨123, [], rfl, by decide, by decide⟩
theorem tk_shut : Tk tShut := ⟨125, [], rfl, by decide, by decide⟩
theorem tk_col : Tk tCol := ⟨58, [], rfl, by decide, by decide⟩
theorem tk_semi : Tk tSemi := ⟨59, [], rfl, by decide, by decide⟩
theorem tk_bar : Tk tBar := ⟨124, [], rfl, by decide, by decide⟩
theorem tk_name {s : ByteArray} (h : nameB s = true) : Tk s := by
  simp only [nameB, wordB, Bool.and_eq_true] at h
  obtain ⟨_, hall, hhd⟩ := h
  have hs : bl s = s.data.toList := rfl
  cases hl : s.data.toList with
  | nil => rw [hl] at hhd; exact absurd hhd (by decide)
  | cons c l =>
    rw [hl] at hall hhd
    have hc : letN c.toNat = true := hhd
    refine ⟨c, l, by rw [hs, hl], ?_, ?_⟩
    · cases hw : wsB c with
      | false => rfl
      | true =>
        simp only [wsB, Bool.or_eq_true, beq_iff_eq] at hw
        simp only [letN, decide_eq_true_eq] at hc
        rcases hw with (rfl | rfl) | rfl
        · exact absurd hc (by decide)
        · exact absurd hc (by decide)
        · exact absurd hc (by decide)
    · rw [List.all_cons, Bool.and_eq_true] at hall
      rw [List.all_eq_true]
      intro d hd
      rw [gonC, if_pos hc]
      exact List.all_eq_true.1 hall.2 d hd
theorem dig_fig {x : UInt8} (h : isDig x = true) : figN x.toNat = true := by
  simp only [isDig, decide_eq_true_eq] at h
  exact decide_eq_true h
theorem tk_digs {s : ByteArray} {m : Nat} {r : List UInt8} (hs : bl s = decDigits m ++ r) (hr : ∀ x ∈ r, numN x.toNat = true) : Tk s := by
  have hall := List.all_eq_true.1 (dec_all m)
  cases hl : decDigits m with
  | nil => exact absurd hl (dec_ne m)
  | cons c l =>
    rw [hl] at hs hall
    have hc := dig_fig (hall c List.mem_cons_self)
    have hcb : 48 ≤ c.toNat ∧ c.toNat ≤ 57 := of_decide_eq_true hc
    have hlet : letN c.toNat = false := decide_eq_false (by omega)
    refine ⟨c, l ++ r, hs, ?_, ?_⟩
    · cases hw : wsB c with
      | false => rfl
      | true =>
        simp only [wsB, Bool.or_eq_true, beq_iff_eq] at hw
        rcases hw with (rfl | rfl) | rfl <;> exact absurd hcb (by decide)
    · rw [List.all_eq_true]
      intro d hd
      rw [gonC, hlet, if_neg (by decide), if_pos hc]
      rcases List.mem_append.1 hd with h | h
      · rw [numN, dig_fig (hall d (List.mem_cons_of_mem _ h))]
        rfl
      · exact hr d h
theorem tk_frac {q : Rat} (h : sgn q = false) : Tk (ftxt q) := by
  by_cases h1 : q.den = 1
  · rw [ftxt_one h1, h]
    exact tk_digs (m := q.num.natAbs) (r := []) (by simp [bl, dtx]) (by simp)
  · rw [ftxt_two h1, h]
    refine tk_digs (m := q.num.natAbs) (r := 47 :: decDigits q.den) ?_ fun x hx => ?_
    · rw [if_neg (by decide)]
      show (dtx _ ++ (⟨#[47]⟩ ++ dtx _)).data.toList = _
      rw [cat_data, cat_data]
      rfl
    · rcases List.mem_cons.1 hx with rfl | hx
      · decide
      · rw [numN, dig_fig (List.all_eq_true.1 (dec_all q.den) x hx)]
        rfl
def lineT (x : Vr) : List ByteArray := tVar :: x.1 :: tOpen :: x.2 ++ [tShut]
def rowT (l : List Fr) : List ByteArray := tCol :: l.map ftF ++ [tSemi]
def blockT (V : List Vr) (L : List (List Int)) (R : List (List Fr)) (v i : Nat) : List ByteArray :=
  valsL V (toN (L.getD v [])) (digs (sizesN V) (toN (L.getD v [])) i) (L.getD v []).length ++ rowT (chunkF (R.getD v []) (sz (sizesN V) v) i)
def headT (V : List Vr) (L : List (List Int)) (v : Nat) : List ByteArray := nmV V v :: tBar :: (toN (L.getD v [])).map (nmV V) ++ [tOpen]
def varT (V : List Vr) (L : List (List Int)) (R : List (List Fr)) (v : Nat) : List ByteArray :=
  if (L.getD v []).length = 0 then nmV V v :: rowT (R.getD v [])
  else headT V L v ++ (List.range (cnt (sizesN V) (toN (L.getD v [])))).flatMap (blockT V L R v) ++ [tShut]
def netT (V : List Vr) (L : List (List Int)) (R : List (List Fr)) : List ByteArray := V.flatMap lineT ++ (List.range V.length).flatMap (varT V L R)
theorem rowL_is (l : List Fr) : rowL l = spL (rowT l) := by
  show _ = spL ([tCol] ++ l.map ftF ++ [tSemi])
  rw [spL_app, spL_app, spL_one, spL_one]
  rfl
theorem lineL_is (x : Vr) : lineL x = bl tVar ++ spL (x.1 :: tOpen :: x.2 ++ [tShut]) ++ [10] := by
  show _ = _ ++ spL ([x.1] ++ [tOpen] ++ x.2 ++ [tShut]) ++ _
  rw [spL_app, spL_app, spL_app, spL_one, spL_one, spL_one]
  simp [lineL, bl, tVar, tOpen, tShut]
theorem blockL_is (V : List Vr) (L : List (List Int)) (R : List (List Fr)) (v i : Nat) : blockL V L R v i = spL (blockT V L R v i) ++ [10] := by
  rw [blockL, blockT, spL_app, rowL_is]
theorem headL_is (V : List Vr) (L : List (List Int)) (v : Nat) : headL V L v = bl (nmV V v) ++ spL (tBar :: (toN (L.getD v [])).map (nmV V) ++ [tOpen]) ++ [10] := by
  show _ = _ ++ spL ([tBar] ++ (toN (L.getD v [])).map (nmV V) ++ [tOpen]) ++ _
  rw [spL_app, spL_app, spL_one, spL_one]
  simp [headL, bl, tBar, tOpen]
structure TkN (V : List Vr) (L : List (List Int)) (R : List (List Fr)) : Prop where
  nm : ∀ x ∈ V, Tk x.1
  vl : ∀ x ∈ V, ∀ s ∈ x.2, Tk s
  pn : ∀ v, v < V.length → ∀ u ∈ toN (L.getD v []), u < V.length
  bk : ∀ v i, v < V.length → i < cnt (sizesN V) (toN (L.getD v [])) → ∀ s ∈ valsL V (toN (L.getD v [])) (digs (sizesN V) (toN (L.getD v [])) i) (L.getD v []).length, Tk s
  nu : ∀ l ∈ R, ∀ f ∈ l, Tk (ftF f)
theorem TkN.name {V : List Vr} {L : List (List Int)} {R : List (List Fr)} (h : TkN V L R) {v : Nat} (hv : v < V.length) : Tk (nmV V v) := by
  rw [nmV, List.getD_eq_getElem?_getD, List.getElem?_eq_getElem hv]
  exact h.nm _ (List.getElem_mem hv)
theorem TkN.rowOf {V : List Vr} {L : List (List Int)} {R : List (List Fr)} (h : TkN V L R) (v : Nat) : ∀ f ∈ R.getD v [], Tk (ftF f) := by
  intro f hf
  rw [List.getD_eq_getElem?_getD] at hf
  rcases Nat.lt_or_ge v R.length with hv | hv
  · rw [List.getElem?_eq_getElem hv] at hf
    exact h.nu _ (List.getElem_mem hv) f hf
  · rw [List.getElem?_eq_none hv] at hf
    cases hf
theorem tk_row {l : List Fr} (h : ∀ f ∈ l, Tk (ftF f)) : ∀ t ∈ rowT l, Tk t := by
  intro t ht
  rcases List.mem_append.1 ht with ht | ht
  · rcases List.mem_cons.1 ht with rfl | ht
    · exact tk_col
    · obtain ⟨f, hf, rfl⟩ := List.mem_map.1 ht
      exact h f hf
  · rw [List.mem_singleton.1 ht]
    exact tk_semi
theorem Rst.flat {n : Nat} {F : Nat → List UInt8} {T : Nat → List ByteArray} (h : ∀ i, i < n → ∀ ts r, Rst ts r → Rst (T i ++ ts) (F i ++ r)) {ts : List ByteArray} {r : List UInt8} (hr : Rst ts r) : ∀ k, k ≤ n → Rst ((List.range' (n - k) k).flatMap T ++ ts) ((List.range' (n - k) k).flatMap F ++ r)
  | 0, _ => by simpa using hr
  | k + 1, hk => by
    have ih := Rst.flat h hr k (by omega)
    have e : List.range' (n - (k + 1)) (k + 1) = (n - (k + 1)) :: List.range' (n - k) k := by
      rw [List.range'_succ, show n - (k + 1) + 1 = n - k by omega]
    rw [e, List.flatMap_cons, List.flatMap_cons, List.append_assoc, List.append_assoc]
    exact h _ (by omega) _ _ ih
theorem Rst.all {n : Nat} {F : Nat → List UInt8} {T : Nat → List ByteArray} (h : ∀ i, i < n → ∀ ts r, Rst ts r → Rst (T i ++ ts) (F i ++ r)) {ts : List ByteArray} {r : List UInt8} (hr : Rst ts r) : Rst ((List.range n).flatMap T ++ ts) ((List.range n).flatMap F ++ r) := by
  have h1 := Rst.flat h hr n (Nat.le_refl _)
  rw [Nat.sub_self, ← List.range_eq_range'] at h1
  exact h1
theorem Rst.lines : ∀ {V : List Vr}, (∀ x ∈ V, Tk x.1) → (∀ x ∈ V, ∀ s ∈ x.2, Tk s) → ∀ {ts : List ByteArray} {r : List UInt8}, Rst ts r → Rst (V.flatMap lineT ++ ts) (V.flatMap lineL ++ r)
  | [], _, _, _, _, hr => hr
  | x :: V, h1, h2, ts, r, hr => by
    have ih := Rst.lines (V := V) (fun y hy => h1 y (List.mem_cons_of_mem _ hy)) (fun y hy => h2 y (List.mem_cons_of_mem _ hy)) hr
    rw [List.flatMap_cons, List.flatMap_cons, List.append_assoc, List.append_assoc, lineL_is]
    have h9 := Rst.line (t := tVar) (xs := x.1 :: tOpen :: x.2 ++ [tShut]) tk_var (fun t ht => ?_) ih
    · have e : bl tVar ++ spL (x.1 :: tOpen :: x.2 ++ [tShut]) ++ [10] ++ (List.flatMap lineL V ++ r) = bl tVar ++ spL (x.1 :: tOpen :: x.2 ++ [tShut]) ++ 10 :: (List.flatMap lineL V ++ r) := by simp
      rw [e]
      exact h9
    · rcases List.mem_append.1 ht with ht | ht
      · rcases List.mem_cons.1 ht with rfl | ht
        · exact h1 x List.mem_cons_self
        · rcases List.mem_cons.1 ht with rfl | ht
          · exact tk_open
          · exact h2 x List.mem_cons_self t ht
      · rw [List.mem_singleton.1 ht]
        exact tk_shut
theorem chunk_mem {l : List Fr} {k i : Nat} {f : Fr} (h : f ∈ chunkF l k i) : f ∈ l := List.mem_of_mem_drop (List.mem_of_mem_take h)
theorem net_rst {V : List Vr} {L : List (List Int)} {R : List (List Fr)} (h : TkN V L R) : Rst (netT V L R) (netL V L R) := by
  have h0 : Rst [] [] := rfl
  have h1 := Rst.all (n := V.length) (F := varL V L R) (T := varT V L R) (fun v hv ts r hr => ?_) h0
  · have h2 := Rst.lines h.nm h.vl h1
    simpa [netT, netL] using h2
  · have hn := h.name hv
    rw [varL, varT]
    by_cases hp : (L.getD v []).length = 0
    · rw [if_pos hp, if_pos hp, rowL_is]
      have h9 := Rst.line (t := nmV V v) (xs := rowT (R.getD v [])) hn (tk_row (h.rowOf v)) hr
      have e : bl (nmV V v) ++ spL (rowT (R.getD v [])) ++ [10] ++ r = bl (nmV V v) ++ spL (rowT (R.getD v [])) ++ 10 :: r := by simp
      rw [e]
      exact h9
    · rw [if_neg hp, if_neg hp, headL_is]
      have a1 : Rst ([tShut] ++ ts) ([125, 10] ++ r) := Rst.line (t := tShut) (xs := []) tk_shut (by simp) hr
      have a2 := Rst.all (n := cnt (sizesN V) (toN (L.getD v []))) (F := blockL V L R v) (T := blockT V L R v) (fun i hi ts r hr => ?_) a1
      · have a3 := Rst.line (t := nmV V v) (xs := tBar :: (toN (L.getD v [])).map (nmV V) ++ [tOpen]) hn (fun t ht => ?_) a2
        · simpa [headT] using a3
        · rcases List.mem_append.1 ht with ht | ht
          · rcases List.mem_cons.1 ht with rfl | ht
            · exact tk_bar
            · obtain ⟨u, hu, rfl⟩ := List.mem_map.1 ht
              exact h.name (h.pn v hv u hu)
          · rw [List.mem_singleton.1 ht]
            exact tk_open
      · rw [blockL_is]
        have a4 := Rst.lineS (xs := blockT V L R v i) (fun t ht => ?_) hr
        · have e : spL (blockT V L R v i) ++ [10] ++ r = spL (blockT V L R v i) ++ 10 :: r := by simp
          rw [e]
          exact a4
        · rcases List.mem_append.1 ht with ht | ht
          · exact h.bk v i hv hi t ht
          · exact tk_row (fun f hf => h.rowOf v f (chunk_mem hf)) t ht
end Go.Proofs.YtojidhnkpeiimaaGreatDoor

/- The law's small functions on tables. -/
namespace Go.Proofs.YtojidhnkpeiimaaGreatDoor
open Go.RowKit Go.Shelf
set_option maxRecDepth 100000 in
set_option maxHeartbeats 400000 in
theorem sameInts_any (a b : Option Addr) (ca cb : Nat) (l : List Int) (w : World) (ha : IntS w a l) (hb : IntS w b l) (hn : l.length ≤ 100000) :
    Calls Tryz.prog 39 #[.slice a l.length ca, .slice b l.length cb] w fun e w' => e = .returned (.bool true) ∧ Below w.heap.size w w' := by
  have HA := hid ha
  have HB := hid hb
  clear ha hb
  go_enter Tryz.func39, Tryz.ntmps39
  go_wp2_with fail
  go_loopw [5] (fun iv wr => ∃ i : Nat, i ≤ l.length ∧ iv = .int .i64 i ∧ Hid (Below w.heap.size w wr)) (fun iv _ => l.length - (intOf iv).toNat)
  case atStart => exact ⟨0, Nat.zero_le _, rfl, Below.refl _ _⟩
  case round =>
    obtain ⟨i, hi, rfl, HW⟩ := hrel
    by_cases hlt : i < l.length
    · obtain ⟨g, o, rfl, hg, c0⟩ := (HA.out.below HW.out) i hlt
      obtain ⟨g2, o2, rfl, hg2, c2⟩ := (HB.out.below HW.out) i hlt
      generalize l[i] = x at *
      go_wp2_with fail
      go_quiet (fail)
      go_wp2
      go_roundw
      case rel => exact ⟨i + 1, by omega, by go_num, below_dn HW.out _⟩
      case measure => simp [intOf]; omega
    · obtain rfl : i = l.length := by omega
      go_wp2
      go_ret
      exact ⟨rfl, HW.out⟩
set_option maxRecDepth 100000 in
set_option maxHeartbeats 400000 in
theorem sameFracs_any (a b : Option Addr) (ca cb : Nat) (l : List Fr) (w : World) (ha : FrS w a l) (hb : FrS w b l) (hn : l.length ≤ 100000) :
    Calls Tryz.prog 40 #[.slice a l.length ca, .slice b l.length cb] w fun e w' => e = .returned (.bool true) ∧ Below w.heap.size w w' := by
  have HA := hid ha
  have HB := hid hb
  clear ha hb
  go_enter Tryz.func40, Tryz.ntmps40
  go_wp2_with fail
  go_loopw [5] (fun iv wr => ∃ i : Nat, i ≤ l.length ∧ iv = .int .i64 i ∧ Hid (Below w.heap.size w wr)) (fun iv _ => l.length - (intOf iv).toNat)
  case atStart => exact ⟨0, Nat.zero_le _, rfl, Below.refl _ _⟩
  case round =>
    obtain ⟨i, hi, rfl, HW⟩ := hrel
    by_cases hlt : i < l.length
    · obtain ⟨g, o, rfl, hg, a0, a1, a2⟩ := (HA.out.below HW.out) i hlt
      obtain ⟨g2, o2, rfl, hg2, b0, b1, b2⟩ := (HB.out.below HW.out) i hlt
      generalize l[i] = f at *
      obtain ⟨fn, fx, fy⟩ := f
      simp only at a0 a1 a2 b0 b1 b2
      go_wp2_with fail
      go_quiet (fail)
      go_wp2
      go_roundw
      case rel => exact ⟨i + 1, by omega, by go_num, below_dn HW.out _⟩
      case measure => simp [intOf]; omega
    · obtain rfl : i = l.length := by omega
      go_wp2
      go_ret
      exact ⟨rfl, HW.out⟩
end Go.Proofs.YtojidhnkpeiimaaGreatDoor

/- The law's raw numbers: tableOf. -/
namespace Go.Proofs.YtojidhnkpeiimaaGreatDoor
open Go.RowKit Go.Shelf
theorem mkRat_int (k : Int) : mkRat k 1 = (k : Rat) := by
  rw [Rat.mkRat_one]
end Go.Proofs.YtojidhnkpeiimaaGreatDoor

/- The document's answer: names of values, and rows of raw weights. -/
namespace Go.Proofs.YtojidhnkpeiimaaGreatDoor
open Go.RowKit Go.Shelf Go.Lib
def dgB (i : Nat) : ByteArray := ⟨(decDigits i).toArray⟩
theorem dgB_size {i : Nat} (h : i < 10) : (dgB i).size = 1 := by
  rw [dgB, dec_small h]
  rfl
abbrev nmB (c : UInt8) (i : Nat) : ByteArray := ⟨#[c]⟩ ++ dgB i
def valsN (k : Nat) : List ByteArray := (List.range k).map (nmB 118)
theorem valsN_succ (k : Nat) : valsN (k + 1) = valsN k ++ [nmB 118 k] := by simp [valsN, List.range_succ]
theorem valsN_length (k : Nat) : (valsN k).length = k := by simp [valsN]
theorem rNumText (i : Nat) (w : World) (hi : i ≤ 1000) : Calls Tryz.prog 12 #[.int .i64 (i : Nat)] w fun e w' => e = .returned (.string (B i)) ∧ Below w.heap.size w w' := by
  have := rOf_any (i : Int) w (by omega) (by omega)
  rwa [Int.toNat_natCast] at this
theorem rTextOf (i : Nat) (w : World) (hi : i ≤ 1000) : Calls Tryz.prog 11 #[.string (B i)] w fun e w' => e = .returned (.string (dgB i)) ∧ Below w.heap.size w w' := by
  have := rText_any (B i) w (by
    have h1 : (B i).size ≤ 1000 := by rw [B_size]; exact Nat.le_trans (bn_fits 2 i (by omega)) (by omega)
    omega)
  rwa [N_B] at this
theorem RwS.empty (w : World) (B : Nat) : RwS w B (.slice none 0 0) [] := ⟨rfl, .inl ⟨rfl, rfl⟩⟩
theorem RwS.step {w w' : World} {B : Nat} {v : Value} {l : List ByteArray} (h : RwS w B v l) (hb : Below w.heap.size w w') : RwS w' B v l := by
  refine ⟨h.1, ?_⟩
  rcases h.2 with h1 | ⟨g, cap, cur, h1, h2, h3, h4⟩
  · exact .inl h1
  · exact .inr ⟨g, cap, cur, h1, h2, (hb.block g (Array.getElem?_eq_some_iff.1 h3).1).trans h3, h4⟩
set_option maxRecDepth 100000 in
set_option maxHeartbeats 1000000 in
theorem called_any (k : Nat) (w : World) (hk : k ≤ 3) :
    Calls Tryz.prog 13 #[.int .i64 (k : Nat)] w fun e w' => ∃ x, e = .returned x ∧ RwS w' w.heap.size x (valsN k) ∧ Below w.heap.size w w' := by
  have HT1 := hid (fun (i : Nat) (hi : i ≤ 1000) (U : World) => rNumText i U hi)
  have HT2 := hid (fun (i : Nat) (hi : i ≤ 1000) (U : World) => rTextOf i U hi)
  go_enter Tryz.func13, Tryz.ntmps13
  go_wp2_with fail
  go_loopw [3, 4] (fun x iv wr => ∃ i : Nat, i ≤ k ∧ iv = .int .i64 i ∧ Hid (RwS wr w.heap.size x (valsN i)) ∧ Hid (Below w.heap.size w wr)) (fun _ iv _ => k - (intOf iv).toNat)
  case atStart => exact ⟨0, Nat.zero_le _, rfl, RwS.empty _ _, Below.refl _ _⟩
  case round =>
    obtain ⟨i, hi, rfl, HR, HB⟩ := hrel
    by_cases hlt : i < k
    · go_wp2_with fail
      refine (HT1.out i (by omega) _).mono ?_
      rintro e w1 ⟨rfl, hb1⟩
      go_wp2_with fail
      refine (HT2.out i (by omega) _).mono ?_
      rintro e w2 ⟨rfl, hb2⟩
      have hb12 := hb1.trans (hb2.mono hb1.size)
      have HR2 := hid (HR.out.step hb12)
      have HB2 := hid (HB.out.trans (hb12.mono HB.out.size))
      clear hb1 hb2 hb12 HR HB
      have HRA := hid (HR2.out.step ((Below.refl _ w2).alloc (Nat.le_refl _) (.cells #[.string (nmB 118 i)] 9)))
      have HBA := hid (HB2.out.alloc HB2.out.size (.cells #[.string (nmB 118 i)] 9))
      have HCA := hid (one_str w2 (nmB 118 i))
      have hbs : w.heap.size ≤ (w2.alloc (.cells #[.string (nmB 118 i)] 9)).heap.size := HBA.out.size
      have hvl := valsN_length i
      have HSU := hid (valsN_succ i)
      have hdz := dgB_size (i := i) (by omega)
      go_wp2_with (at_builtin; refine wpList_append_str rfl _ _ rfl w.heap.size _ (valsN i) (nmB 118 i) rfl HRA.out w2.heap.size rfl HCA.out (by omega) hbs ?_; intro v' w3 hr3 hg3; have HB3 := hid (HBA.out.grown hg3 hbs (fun k e => HRA.out.own k e)))
      go_roundw
      case rel => exact ⟨i + 1, by omega, by go_num, by rw [HSU.out]; exact hr3, HB3⟩
      case measure => simp [intOf]; omega
    · obtain rfl : i = k := by omega
      go_wp2
      go_ret
      exact ⟨_, rfl, HR.out, HB.out⟩
def rawF (Ls : List Nat) : List Fr := Ls.map fun a : Nat => qF ((a : Rat) / (Ls.sum : Rat))
theorem rawF_length (Ls : List Nat) : (rawF Ls).length = Ls.length := by simp [rawF]
theorem qw_nat {n : Nat} (h : n < 256) : qw (n : Rat) ≤ 2 := by
  have h1 : (n : Rat).num.natAbs = n := by simp
  have h2 : (n : Rat).den = 1 := rfl
  rw [qw, h1, h2, B_size, B_size]
  have h3 := bn_fits 1 n (by omega)
  have h4 := bn_fits 1 1 (by omega)
  omega
theorem sum_le6 : ∀ {Ls : List Nat}, (∀ a ∈ Ls, a ≤ 6) → Ls.sum ≤ 6 * Ls.length
  | [], _ => Nat.le_refl _
  | a :: l, h => by
    have h1 := h a List.mem_cons_self
    have h2 := sum_le6 fun b hb => h b (List.mem_cons_of_mem _ hb)
    simp only [List.sum_cons, List.length_cons]
    omega
theorem rawF_small {Ls : List Nat} (h : ∀ a ∈ Ls, a ≤ 6) (hl : Ls.length ≤ 3) (hs : 1 ≤ Ls.sum) : ∀ f ∈ rawF Ls, f.2.1.size + f.2.2.size ≤ 2 := by
  intro f hf
  obtain ⟨a, ha, rfl⟩ := List.mem_map.1 hf
  have h6 := sum_le6 h
  have h1 := h a ha
  show (nu ((a : Rat) / (Ls.sum : Rat))).size + (de ((a : Rat) / (Ls.sum : Rat))).size ≤ 2
  rw [own_size]
  have hfit : Fits 1 ((a : Rat) / (Ls.sum : Rat)) := ⟨(a : Int), Ls.sum, by omega, by rw [Rat.mkRat_eq_div]; rfl, by omega, by simp; omega⟩
  exact fits_qw hfit
theorem rawF_row {Ls : List Nat} (hs : 1 ≤ Ls.sum) : rowB (rawF Ls) = true := by
  have hne : (Ls.sum : Rat) ≠ 0 := fun e => by
    have e' : Ls.sum = 0 := by exact_mod_cast e
    omega
  have hpos : (0 : Rat) < (Ls.sum : Rat) := Rat.lt_of_le_of_ne Rat.natCast_nonneg (Ne.symm hne)
  rw [rowB, Bool.and_eq_true]
  constructor
  · rw [List.all_eq_true]
    intro f hf
    obtain ⟨a, ha, rfl⟩ := List.mem_map.1 hf
    refine decide_eq_true ?_
    rw [frQ_qF, Rat.not_lt]
    have ha0 : (0 : Rat) ≤ (a : Rat) := Rat.natCast_nonneg
    rw [Rat.div_def]
    exact Rat.mul_nonneg ha0 (Rat.le_of_lt (Rat.inv_pos.2 hpos))
  · refine decide_eq_true ?_
    have key : ∀ (l : List Nat) (s c : Rat), (l.map fun a : Nat => qF ((a : Rat) / c)).foldl (fun s f => s + frv f) s = s + (l.sum : Rat) / c := by
      intro l
      induction l with
      | nil => intro s c; show s = s + ((0 : Nat) : Rat) / c; rw [Rat.div_def]; grind
      | cons a l ih =>
        intro s c
        rw [List.map_cons, List.foldl_cons, ih, show frv (qF ((a : Rat) / c)) = (a : Rat) / c from frQ_qF _, List.sum_cons, Rat.div_def, Rat.div_def, Rat.div_def, Rat.natCast_add, Rat.add_mul, Rat.add_assoc]
    rw [fsum, rawF, key, Rat.zero_add, Rat.div_def, Rat.mul_inv_cancel _ hne]
end Go.Proofs.YtojidhnkpeiimaaGreatDoor

/- The document's answer: a row of raw weights. -/
namespace Go.Proofs.YtojidhnkpeiimaaGreatDoor
open Go.RowKit Go.Shelf Go.Lib
theorem iL_sum_snoc (Ls : List Nat) (a : Nat) : iL (Ls ++ [a]) = iL Ls ++ [(a : Int)] := by simp [iL]
theorem RwI.put {w : World} {B g n cap : Nat} {l : List Int} (h : RwI w B (.slice (some ⟨g, 0, none⟩) n cap) l) (j : Nat) (y : Int) : RwI (w.setCell ⟨g, j, none⟩ (.int .i64 y)) B (.slice (some ⟨g, 0, none⟩) n cap) (l.set j y) := by
  rcases h.2 with ⟨h1, _⟩ | ⟨g', cap', cur, h1, h2, h3, h4, h5, h6, h7⟩
  · cases h1
  · cases h1
    refine ⟨by simp, .inr ⟨g, cap, _, by simp, h2, heap_setCell_same w g j _ _ _ h3, by simpa using h4, h5, by simpa using h6, ?_⟩⟩
    rw [Array.toList_setIfInBounds, List.length_set, List.map_set, ← h7, List.take_set]
theorem RwF.lower {w : World} {B B' : Nat} {v : Value} {l : List Fr} (h : RwF w B v l) (hb : B' ≤ B) : RwF w B' v l := by
  refine ⟨h.1, ?_⟩
  rcases h.2 with h1 | ⟨g, cap, cur, h1, h2, h3, h4⟩
  · exact .inl h1
  · exact .inr ⟨g, cap, cur, h1, Nat.le_trans hb h2, h3, h4⟩
theorem RwI.emptyB (w : World) (B : Nat) : RwI w B (.slice none 0 0) [] := ⟨rfl, .inl ⟨rfl, rfl⟩⟩
structure Wts (Ls : List Nat) (i : Nat) : Prop where
  len : Ls.length = i
  six : ∀ a ∈ Ls, a ≤ 6
set_option maxRecDepth 100000 in
set_option maxHeartbeats 2000000 in
theorem rowOf_any (d : Option Addr) (cd k n : Nat) (W : List Int) (w : World) (hW : IntS w d W) (hr : ∀ x ∈ W, -9223372036854775808 ≤ x ∧ x ≤ 9223372036854775807) (hk : k ≤ 100000) (hn1 : 1 ≤ n) (hn3 : n ≤ 5) (hWl : W.length ≤ 140737488355328) :
    Calls Tryz.prog 16 #[.slice d W.length cd, .int .i64 (k : Nat), .int .i64 (n : Nat)] w fun e w' => ∃ (x : Value) (Ls : List Nat), e = .returned x ∧ RwF w' w.heap.size x (rawF Ls) ∧ Wts Ls n ∧ 1 ≤ Ls.sum ∧ Below w.heap.size w w' := by
  have HW := hid hW
  have HR := hid hr
  have HPK := hid (fun (c : Int) (h : -9223372036854775808 ≤ c ∧ c ≤ 9223372036854775807) (U : World) => rPick_any c 7 U h.1 h.2 (by omega) (by omega))
  have HPL := hid (fun (c : Int) => pickN_lt c (n := 7) (by omega))
  have HOF := hid (fun (a : Nat) (h : a ≤ 100) (U : World) => rOfF_any (a : Int) U (by omega) (by omega))
  have HOF' : Hid (∀ (a : Nat), a ≤ 100 → ∀ U : World, Calls Tryz.prog 32 #[.int .i64 (a : Nat)] U fun e w' => e = .returned (frV (qF (a : Rat))) ∧ Below U.heap.size U w') := fun a ha U => by
    have h := HOF.out a ha U
    rw [mkRat_int] at h
    exact h
  have HDV : Hid (∀ (a s : Nat), a ≤ 100 → 1 ≤ s → s ≤ 100 → ∀ U : World, Calls Tryz.prog 31 #[frV (qF (a : Rat)), frV (qF (s : Rat))] U fun e w' => e = .returned (.tuple #[frV (qF ((a : Rat) / (s : Rat))), .int .i64 0]) ∧ Below U.heap.size U w') := fun a s ha hs1 hs2 U => by
    have hne : (s : Rat) ≠ 0 := fun e => by
      have e' : s = 0 := by exact_mod_cast e
      omega
    have h := rDivF_yes (sgn (a : Rat)) (sgn (s : Rat)) (nu (a : Rat)) (de (a : Rat)) (nu (s : Rat)) (de (s : Rat)) U (by rw [val_own]; exact hne) (by rw [own_size]; have := qw_nat (n := a) (by omega); omega) (by rw [own_size]; have := qw_nat (n := s) (by omega); omega)
    rw [val_own, val_own] at h
    exact h
  clear HOF
  have HOF := HOF'
  clear HOF' hW hr
  go_enter Tryz.func16, Tryz.ntmps16
  go_wp2_with fail
  go_loopw [7, 8, 9] (fun x sv iv wr => ∃ (i : Nat) (Ls : List Nat), i ≤ n ∧ iv = .int .i64 i ∧ sv = .int .i64 (Ls.sum : Nat) ∧ Hid (Wts Ls i) ∧ Hid (RwI wr w.heap.size x (iL Ls)) ∧ Hid (Below w.heap.size w wr)) (fun _ _ iv _ => n - (Go.RowKit.intOf iv).toNat)
  case atStart => exact ⟨0, [], Nat.zero_le _, rfl, rfl, ⟨rfl, fun a ha => by cases ha⟩, RwI.emptyB _ _, Below.refl _ _⟩
  case round =>
    obtain ⟨i, Ls, hi, rfl, rfl, HL, HX, HB⟩ := hrel
    by_cases hlt : i < n
    · have hs18 : Ls.sum ≤ 100 := by have := sum_le6 HL.out.six; have := HL.out.len; omega
      have hll := HL.out.len
      by_cases hw0 : 0 < W.length
      · obtain ⟨ki, hki⟩ : ∃ ki, ki = k + i := ⟨_, rfl⟩
        have hwr : IntKind.i64.wrap ((k : Int) + (i : Int)) = (ki : Int) := by rw [IntKind.wrap_i64]; omega
        obtain ⟨t, ht⟩ : ∃ t, t = ki % W.length := ⟨_, rfl⟩
        have htl : t < W.length := by rw [ht]; exact Nat.mod_lt _ hw0
        have hrem : (ki : Int) % (W.length : Int) = (t : Int) := by rw [ht, Int.natCast_emod]
        obtain ⟨g', o', rfl, hg', cW⟩ := (HW.out.below HB.out) t htl
        have hxr := HR.out W[t] (List.getElem_mem htl)
        have hpl := HPL.out W[t]
        have HPT := hid (fun U => HPK.out W[t] hxr U)
        have hwpos : (0 : Int) < (W.length : Int) := by omega
        have hwne : ¬ (W.length : Int) = 0 := by omega
        have hwr2 : IntKind.i64.wrap ((ki : Int) % (W.length : Int)) = (t : Int) := by rw [hrem, IntKind.wrap_i64]; omega
        clear ht hki hw0
        generalize W[t] = wt at *
        generalize pickN wt 7 = p at *
        go_wp2_with fail
        refine (HPT.out _).mono ?_
        rintro e w1 ⟨rfl, hb1⟩
        have HX1 := hid (HX.out.below hb1)
        have HB1 := hid (HB.out.trans (hb1.mono HB.out.size))
        have HXA := hid (HX1.out.below ((Below.refl _ w1).alloc (Nat.le_refl _) (.cells #[.int .i64 (p : Int)] 3)))
        have HBA := hid (HB1.out.alloc HB1.out.size (.cells #[.int .i64 (p : Int)] 3))
        have HIA := hid (one_int w1 (p : Int))
        have hbs : w.heap.size ≤ (w1.alloc (.cells #[.int .i64 (p : Int)] 3)).heap.size := HBA.out.size
        have hil : (iL Ls).length = i := by rw [iL_length]; exact hll
        have HSU := hid (iL_sum_snoc Ls p)
        have hsm : IntKind.i64.wrap ((Ls.sum : Int) + (p : Int)) = (((Ls ++ [p]).sum : Nat) : Int) := by rw [IntKind.wrap_i64]; simp; omega
        have HWT : Hid (Wts (Ls ++ [p]) (i + 1)) := ⟨by simp [hll], fun a ha => by rcases List.mem_append.1 ha with ha | ha; exact HL.out.six a ha; rw [List.mem_singleton.1 ha]; omega⟩
        generalize hs2 : (Ls ++ [p]).sum = s2 at *
        have HS2 := hid hs2
        clear hs2
        clear cW hb1 HX HB HX1 HB1
        go_wp2_with (at_builtin; refine wpList_append_ints rfl _ _ rfl w.heap.size _ (iL Ls) [(p : Int)] rfl HXA.out (some ⟨w1.heap.size, 0, none⟩) 1 rfl HIA.out (fun e => by cases e) (by simp; omega) hbs ?_; intro v' w3 hr3 hg3; have HB3 := hid (HBA.out.grown hg3 hbs (fun k e => HXA.out.own k e)))
        go_roundw
        case rel => exact ⟨i + 1, Ls ++ [p], by omega, by go_num, by rw [HS2.out], HWT, by rw [HSU.out]; exact hr3, HB3⟩
        case measure => simp [Go.RowKit.intOf]; omega
      · have hgt : ¬ (0 : Int) < (W.length : Int) := by omega
        have hgt2 : decide (0 < W.length) = false := decide_eq_false (by omega)
        have HXA := hid (HX.out.below ((Below.refl _ wr).alloc (Nat.le_refl _) (.cells #[.int .i64 1] 3)))
        have HBA := hid (HB.out.alloc HB.out.size (.cells #[.int .i64 1] 3))
        have HIA := hid (one_int wr 1)
        have hbs : w.heap.size ≤ (wr.alloc (.cells #[.int .i64 1] 3)).heap.size := HBA.out.size
        have hil : (iL Ls).length = i := by rw [iL_length]; exact hll
        have HSU := hid (iL_sum_snoc Ls 1)
        have hsm : IntKind.i64.wrap ((Ls.sum : Int) + 1) = (((Ls ++ [1]).sum : Nat) : Int) := by rw [IntKind.wrap_i64]; simp; omega
        have HWT : Hid (Wts (Ls ++ [1]) (i + 1)) := ⟨by simp [hll], fun a ha => by rcases List.mem_append.1 ha with ha | ha; exact HL.out.six a ha; rw [List.mem_singleton.1 ha]; omega⟩
        have HS2 := hid (Eq.refl (Ls ++ [1]).sum)
        generalize hs2 : (Ls ++ [1]).sum = s2 at *
        have HS3 := hid hs2
        clear hs2 HS2 HX HB hw0
        go_wp2_with (at_builtin; refine wpList_append_ints rfl _ _ rfl w.heap.size _ (iL Ls) [(1 : Int)] rfl HXA.out (some ⟨wr.heap.size, 0, none⟩) 1 rfl HIA.out (fun e => by cases e) (by simp; omega) hbs ?_; intro v' w3 hr3 hg3; have HB3 := hid (HBA.out.grown hg3 hbs (fun k e => HXA.out.own k e)))
        go_roundw
        case rel => exact ⟨i + 1, Ls ++ [1], by omega, by go_num, by rw [HS3.out], HWT, by rw [HSU.out]; exact hr3, HB3⟩
        case measure => simp [Go.RowKit.intOf]; omega
    · obtain rfl : n = i := by omega
      have hs18 : Ls.sum ≤ 100 := by have := sum_le6 HL.out.six; have := HL.out.len; omega
      have hll := HL.out.len
      by_cases hs0 : Ls.sum = 0
      · have hlp : 0 < (iL Ls).length := by rw [iL_length]; omega
        rcases HX.out.cases with ⟨_, hnil⟩ | ⟨g, cap, rfl, hg0, hg, hc1, hc2, hh⟩
        · rw [hnil] at hlp; exact absurd hlp (by simp)
        · have hput := HX.out.put 0 1
          obtain ⟨hc0, hf0⟩ := hh 0 (by simpa using hlp)
          rw [Nat.zero_add] at hc0 hf0
          have HBP := hid (HB.out.setCell (p := ⟨g, 0, none⟩) hg0 (.int .i64 1))
          have hilen : (iL Ls).length = n := by rw [iL_length]; exact hll
          rw [hilen]
          obtain ⟨a0, l0, rfl⟩ : ∃ a0 l0, Ls = a0 :: l0 := by
            cases Ls with
            | nil => rw [← hll] at hn1; exact absurd hn1 (by simp)
            | cons a0 l0 => exact ⟨a0, l0, rfl⟩
          have ha0 : a0 = 0 ∧ l0.sum = 0 := by simp at hs0; exact hs0
          have HXP : Hid (RwI (wr.setCell ⟨g, 0, none⟩ (.int .i64 1)) w.heap.size (.slice (some ⟨g, 0, none⟩) n cap) (iL (1 :: l0))) := by
            rw [hilen] at hput
            exact hput
          have HW2 : Hid (Wts (1 :: l0) n) := ⟨by simpa using hll, fun a ha => by rcases List.mem_cons.1 ha with rfl | ha; omega; exact HL.out.six a (List.mem_cons_of_mem _ ha)⟩
          have HSS : Hid ((1 :: l0).sum = 1 ∧ 1 ≤ 1 ∧ 1 ≤ 100) := ⟨by simp [ha0.2], by omega, by omega⟩
          have hi0 : (0 : Int) < (n : Int) := by omega
          rw [hs0, show ((0 : Nat) : Int) = 0 from rfl]
          clear hs0 hput hh HX HB hilen hs18 hll HL
          go_upto_region 14 with fail
          clear hc0 hf0 ha0
          generalize (wr.setCell ⟨g, 0, none⟩ (.int .i64 1)) = wb at *
          have HX2 := HXP
          have HB2 := HBP
          obtain ⟨S, hS⟩ : ∃ S : Nat, S = 1 := ⟨1, rfl⟩
          obtain ⟨Ls2, hL2⟩ : ∃ Ls2, Ls2 = 1 :: l0 := ⟨_, rfl⟩
          rw [← hL2] at HW2 HSS HX2
          have HSS2 : Hid (Ls2.sum = S ∧ 1 ≤ S ∧ S ≤ 100) := by rw [hS]; exact HSS
          have e1 : (1 : Int) = ((S : Nat) : Int) := by rw [hS]; rfl
          rw [e1]
          clear HSS HXP HBP hL2 hS e1
          have HSS := HSS2
          clear HSS2
          obtain ⟨d7, cd7, e7, hi7⟩ := HX2.out.ints
          have HI7 := hid hi7
          have hil2 : (iL Ls2).length = n := by rw [iL_length]; exact HW2.out.len
          rw [hil2] at e7
          cases e7
          have hS1 := HSS.out.2.1
          have hS2 := HSS.out.2.2
          have HSQ := hid HSS.out.1
          have HFL : Hid ((rawF Ls2).length = n) := by show _ = _; rw [rawF_length]; exact HW2.out.len
          have HFG : Hid (∀ j (h : j < Ls2.length), (rawF Ls2)[j]'(by rw [rawF_length]; exact h) = qF ((Ls2[j] : Rat) / (S : Rat))) := fun j h => by simp [rawF, HSQ.out]
          clear hi7 HSS
          go_wp2_with fail
          go_loopw [11, 12] (fun x iv wr2 => ∃ i : Nat, i ≤ n ∧ iv = .int .i64 i ∧ Hid (RwF wr2 wb.heap.size x ((rawF Ls2).take i)) ∧ Hid (Below wb.heap.size wb wr2)) (fun _ iv _ => n - (Go.RowKit.intOf iv).toNat)
          case atStart => exact ⟨0, Nat.zero_le _, rfl, RwF.empty _ _, Below.refl _ _⟩
          case round =>
            obtain ⟨i, hi, rfl, HY, HBB⟩ := hrel
            by_cases hlt : i < n
            · have hiL : i < (iL Ls2).length := by rw [hil2]; exact hlt
              have hiN : i < Ls2.length := by rw [← iL_length]; exact hiL
              obtain ⟨g', o', e8, hg', cL⟩ := (HI7.out.below HBB.out) i hiL
              cases e8
              (try rw [Nat.zero_add] at cL)
              have e1 : (iL Ls2)[i]'hiL = ((Ls2[i]'hiN : Nat) : Int) := by simp [iL]
              rw [e1] at cL
              have ha6 := HW2.out.six (Ls2[i]'hiN) (List.getElem_mem hiN)
              have hfg := HFG.out i hiN
              have HST : Hid ((rawF Ls2).take i ++ [qF (((Ls2[i]'hiN : Nat) : Rat) / (S : Rat))] = (rawF Ls2).take (i + 1)) := by show _ = _; rw [List.take_succ_eq_append_getElem (by rw [HFL.out]; exact hlt), hfg]
              clear e1 hfg
              generalize (Ls2[i]'hiN) = av at *
              have HO1 := hid (fun U => HOF.out av (by omega) U)
              have HO2 := hid (fun U => HOF.out S (by omega) U)
              have HDV2 := hid (fun U => HDV.out av S (by omega) (by omega) (by omega) U)
              generalize qF ((av : Nat) : Rat) = fa at *
              generalize qF ((S : Nat) : Rat) = fs at *
              generalize qF (((av : Nat) : Rat) / ((S : Nat) : Rat)) = fq at *
              obtain ⟨an, ax, ay⟩ := fa
              obtain ⟨sn, sx, sy⟩ := fs
              obtain ⟨qn, qx, qy⟩ := fq
              go_wp2_with fail
              refine (HO1.out _).mono ?_
              rintro e v1 ⟨rfl, hb1⟩
              go_wp2_with fail
              refine (HO2.out _).mono ?_
              rintro e v2 ⟨rfl, hb2⟩
              go_wp2_with fail
              refine (HDV2.out _).mono ?_
              rintro e v3 ⟨rfl, hb3⟩
              have hb23 := hb2.trans (hb3.mono hb2.size)
              have hb13 := hb1.trans (hb23.mono hb1.size)
              clear hb1 hb2 hb3 hb23
              have hbx := Box.new v3 qn qx qy
              have hb4 := hb13.alloc hb13.size (FC qn qx qy)
              obtain ⟨k0, k1, k2, -⟩ := hbx.facts
              have hbx2 : Box ((v3.alloc (FC qn qx qy)).alloc (FC qn qx qy)) (v3.heap.size + 1) qn qx qy := by
                have h := Box.new (v3.alloc (FC qn qx qy)) qn qx qy
                rwa [World.size_alloc] at h
              have hb5 := hb4.alloc hb4.size (FC qn qx qy)
              have HY5 := hid (HY.out.below hb5)
              have HB5 := hid (HBB.out.trans (hb5.mono HBB.out.size))
              have HBX := hid hbx2
              have hbs : wb.heap.size ≤ ((v3.alloc (FC qn qx qy)).alloc (FC qn qx qy)).heap.size := HB5.out.size
              have htl : ((rawF Ls2).take i).length ≤ 5 := by rw [List.length_take, HFL.out]; omega
              clear hb13 hb4 hb5 hbx hbx2 HY HBB cL
              go_wp2_with (at_builtin; refine wpList_append_fr rfl _ _ rfl wb.heap.size _ ((rawF Ls2).take i) (qn, qx, qy) rfl HY5.out (v3.heap.size + 1) rfl HBX.out (by omega) hbs ?_; intro v' v6 hr6 hg6; have HB6 := hid (HB5.out.grown hg6 hbs (fun k e => HY5.out.own k e)))
              go_roundw
              case rel => exact ⟨i + 1, by omega, by go_num, by rw [← HST.out]; exact hr6, HB6⟩
              case measure => simp [Go.RowKit.intOf]; omega
            · obtain rfl : i = n := by omega
              go_wp2
              go_ret
              have hr := HY.out
              rw [List.take_of_length_le (by rw [HFL.out]; exact Nat.le_refl _)] at hr
              exact ⟨_, Ls2, rfl, hr.lower HB2.out.size, HW2.out, by rw [HSQ.out]; exact hS1, HB2.out.trans (HBB.out.mono HB2.out.size)⟩
      · have hs0' : ¬ (Ls.sum : Int) = 0 := by omega
        obtain ⟨S, hS⟩ : ∃ S, Ls.sum = S := ⟨_, rfl⟩
        have HSS : Hid (Ls.sum = S ∧ 1 ≤ S ∧ S ≤ 100) := ⟨hS, by omega, by omega⟩
        rw [hS] at hs0' ⊢
        obtain ⟨Ls2, hL2⟩ : ∃ Ls2, Ls2 = Ls := ⟨_, rfl⟩
        rw [← hL2] at HL HX HSS
        have HW2 := HL
        have HX2 := HX
        have HB2 := HB
        have hsb : ((S : Int) == 0) = false := by simpa using hs0'
        clear hs0 hS hL2 HL HX HB hs18 hll
        go_upto_region 14 with fail
        clear hs0' hsb
        generalize wr = wb at *
        obtain ⟨d7, cd7, e7, hi7⟩ := HX2.out.ints
        have HI7 := hid hi7
        have hil2 : (iL Ls2).length = n := by rw [iL_length]; exact HW2.out.len
        rw [hil2] at e7
        cases e7
        have hS1 := HSS.out.2.1
        have hS2 := HSS.out.2.2
        have HSQ := hid HSS.out.1
        have HFL : Hid ((rawF Ls2).length = n) := by show _ = _; rw [rawF_length]; exact HW2.out.len
        have HFG : Hid (∀ j (h : j < Ls2.length), (rawF Ls2)[j]'(by rw [rawF_length]; exact h) = qF ((Ls2[j] : Rat) / (S : Rat))) := fun j h => by simp [rawF, HSQ.out]
        clear hi7 HSS
        go_wp2_with fail
        go_loopw [11, 12] (fun x iv wr2 => ∃ i : Nat, i ≤ n ∧ iv = .int .i64 i ∧ Hid (RwF wr2 wb.heap.size x ((rawF Ls2).take i)) ∧ Hid (Below wb.heap.size wb wr2)) (fun _ iv _ => n - (Go.RowKit.intOf iv).toNat)
        case atStart => exact ⟨0, Nat.zero_le _, rfl, RwF.empty _ _, Below.refl _ _⟩
        case round =>
          obtain ⟨i, hi, rfl, HY, HBB⟩ := hrel
          by_cases hlt : i < n
          · have hiL : i < (iL Ls2).length := by rw [hil2]; exact hlt
            have hiN : i < Ls2.length := by rw [← iL_length]; exact hiL
            obtain ⟨g', o', e8, hg', cL⟩ := (HI7.out.below HBB.out) i hiL
            cases e8
            (try rw [Nat.zero_add] at cL)
            have e1 : (iL Ls2)[i]'hiL = ((Ls2[i]'hiN : Nat) : Int) := by simp [iL]
            rw [e1] at cL
            have ha6 := HW2.out.six (Ls2[i]'hiN) (List.getElem_mem hiN)
            have hfg := HFG.out i hiN
            have HST : Hid ((rawF Ls2).take i ++ [qF (((Ls2[i]'hiN : Nat) : Rat) / (S : Rat))] = (rawF Ls2).take (i + 1)) := by show _ = _; rw [List.take_succ_eq_append_getElem (by rw [HFL.out]; exact hlt), hfg]
            clear e1 hfg
            generalize (Ls2[i]'hiN) = av at *
            have HO1 := hid (fun U => HOF.out av (by omega) U)
            have HO2 := hid (fun U => HOF.out S (by omega) U)
            have HDV2 := hid (fun U => HDV.out av S (by omega) (by omega) (by omega) U)
            generalize qF ((av : Nat) : Rat) = fa at *
            generalize qF ((S : Nat) : Rat) = fs at *
            generalize qF (((av : Nat) : Rat) / ((S : Nat) : Rat)) = fq at *
            obtain ⟨an, ax, ay⟩ := fa
            obtain ⟨sn, sx, sy⟩ := fs
            obtain ⟨qn, qx, qy⟩ := fq
            go_wp2_with fail
            refine (HO1.out _).mono ?_
            rintro e v1 ⟨rfl, hb1⟩
            go_wp2_with fail
            refine (HO2.out _).mono ?_
            rintro e v2 ⟨rfl, hb2⟩
            go_wp2_with fail
            refine (HDV2.out _).mono ?_
            rintro e v3 ⟨rfl, hb3⟩
            have hb23 := hb2.trans (hb3.mono hb2.size)
            have hb13 := hb1.trans (hb23.mono hb1.size)
            clear hb1 hb2 hb3 hb23
            have hbx := Box.new v3 qn qx qy
            have hb4 := hb13.alloc hb13.size (FC qn qx qy)
            obtain ⟨k0, k1, k2, -⟩ := hbx.facts
            have hbx2 : Box ((v3.alloc (FC qn qx qy)).alloc (FC qn qx qy)) (v3.heap.size + 1) qn qx qy := by
              have h := Box.new (v3.alloc (FC qn qx qy)) qn qx qy
              rwa [World.size_alloc] at h
            have hb5 := hb4.alloc hb4.size (FC qn qx qy)
            have HY5 := hid (HY.out.below hb5)
            have HB5 := hid (HBB.out.trans (hb5.mono HBB.out.size))
            have HBX := hid hbx2
            have hbs : wb.heap.size ≤ ((v3.alloc (FC qn qx qy)).alloc (FC qn qx qy)).heap.size := HB5.out.size
            have htl : ((rawF Ls2).take i).length ≤ 5 := by rw [List.length_take, HFL.out]; omega
            clear hb13 hb4 hb5 hbx hbx2 HY HBB cL
            go_wp2_with (at_builtin; refine wpList_append_fr rfl _ _ rfl wb.heap.size _ ((rawF Ls2).take i) (qn, qx, qy) rfl HY5.out (v3.heap.size + 1) rfl HBX.out (by omega) hbs ?_; intro v' v6 hr6 hg6; have HB6 := hid (HB5.out.grown hg6 hbs (fun k e => HY5.out.own k e)))
            go_roundw
            case rel => exact ⟨i + 1, by omega, by go_num, by rw [← HST.out]; exact hr6, HB6⟩
            case measure => simp [Go.RowKit.intOf]; omega
          · obtain rfl : i = n := by omega
            go_wp2
            go_ret
            have hr := HY.out
            rw [List.take_of_length_le (by rw [HFL.out]; exact Nat.le_refl _)] at hr
            exact ⟨_, Ls2, rfl, hr.lower HB2.out.size, HW2.out, by rw [HSQ.out]; exact hS1, HB2.out.trans (HBB.out.mono HB2.out.size)⟩
end Go.Proofs.YtojidhnkpeiimaaGreatDoor

/- The document's answer: arrays of what a call makes: variables, lists of parents, lists of rows. -/
namespace Go.Proofs.YtojidhnkpeiimaaGreatDoor
open Go.RowKit Go.Shelf Go.Lib
def KeepT (t : TypeId) (w w' : World) : Prop := ∀ (k : Nat) (c : Array Value) (fr : Nat × Nat), w.heap[k]? = some (Obj.cells c t fr) → w'.heap[k]? = some (Obj.cells c t fr)
theorem KeepT.below {t : TypeId} {w w' : World} (hb : Below w.heap.size w w') : KeepT t w w' := fun k _ _ h => (hb.block k (Array.getElem?_eq_some_iff.1 h).1).trans h
theorem KeepT.grown {t t' : TypeId} {w w' : World} {row : Option Nat} (hg : w.grownBy w' row) (hr : ∀ g, row = some g → ∃ c fr, w.heap[g]? = some (.cells c t' fr)) (hne : t ≠ t') : KeepT t w w' := fun k c fr h => by
  refine (hg.block k (Array.getElem?_eq_some_iff.1 h).1 fun e => ?_).trans h
  obtain ⟨c', fr', h'⟩ := hr k e.symm
  rw [h] at h'
  cases h'
  exact hne rfl
theorem KeepT.set {t t' : TypeId} {w : World} {b : Nat} {c' : Array Value} {fr' : Nat × Nat} (hb : w.heap[b]? = some (.cells c' t' fr')) (hne : t ≠ t') (j : Nat) (y : Value) : KeepT t w (w.setCell ⟨b, j, none⟩ y) := fun k c fr h => by
  refine (Below.heap_setCell w ⟨b, j, none⟩ y k fun e => ?_).trans h
  have e' : k = b := e
  subst e'
  rw [h] at hb
  cases hb
  exact hne rfl
theorem KeepT.trans {t : TypeId} {a b c : World} (h : KeepT t a b) (k : KeepT t b c) : KeepT t a c := fun i cs fr hi => k i cs fr (h i cs fr hi)
theorem owns_keep {w w' : World} {B : Nat} {e : TypeId} {s : Nat} {v : Value} {n : Nat} {xs : List Value} (h : w.ownsRow B e s v n xs) (hk : KeepT e w w') : w'.ownsRow B e s v n xs := by
  refine ⟨h.1, ?_⟩
  rcases h.2 with h1 | ⟨g, cap, cur, h1, h2, h3, h4⟩
  · exact .inl h1
  · exact .inr ⟨g, cap, cur, h1, h2, hk _ _ _ h3, h4⟩
theorem owns_typed {w : World} {B : Nat} {e : TypeId} {s : Nat} {v : Value} {n : Nat} {xs : List Value} (h : w.ownsRow B e s v n xs) : ∀ g, v.ownBlock = some g → ∃ c fr, w.heap[g]? = some (.cells c e fr) := fun g hg => by
  rcases h.2 with ⟨rfl, _⟩ | ⟨g', cap, cur, rfl, h2, h3, h4⟩
  · cases hg
  · cases hg
    exact ⟨_, _, h3⟩
theorem owns_from {w : World} {B : Nat} {e : TypeId} {s : Nat} {v : Value} {n : Nat} {xs : List Value} (h : w.ownsRow B e s v n xs) : ∀ g, v.ownBlock = some g → B ≤ g := fun g hg => by
  rcases h.2 with ⟨rfl, _⟩ | ⟨g', cap, cur, rfl, h2, h3, h4⟩
  · cases hg
  · cases hg
    exact h2
theorem owns_slice {w : World} {B : Nat} {e : TypeId} {s : Nat} {v : Value} {n : Nat} {xs : List Value} (h : w.ownsRow B e s v n xs) : ∃ a c, v = .slice a n c ∧ (a = none → c = 0) := by
  rcases h.2 with ⟨rfl, rfl⟩ | ⟨g', cap, cur, rfl, h2, h3, h4⟩
  · exact ⟨none, 0, rfl, fun _ => rfl⟩
  · exact ⟨_, _, rfl, fun e => by cases e⟩
theorem owns_lower {w : World} {B B' : Nat} {e : TypeId} {s : Nat} {v : Value} {n : Nat} {xs : List Value} (h : w.ownsRow B e s v n xs) (hb : B' ≤ B) : w.ownsRow B' e s v n xs := by
  refine ⟨h.1, ?_⟩
  rcases h.2 with h1 | ⟨g, cap, cur, h1, h2, h3, h4⟩
  · exact .inl h1
  · exact .inr ⟨g, cap, cur, h1, Nat.le_trans hb h2, h3, h4⟩
theorem owns_cell {w : World} {B : Nat} {e : TypeId} {s : Nat} {a : Option Addr} {n c : Nat} {xs : List Value} (h : w.ownsRow B e s (.slice a n c) n xs) {j : Nat} (hj : j < xs.length) : ∃ g, a = some ⟨g, 0, none⟩ ∧ g < w.heap.size ∧ w.cell? ⟨g, j, none⟩ = some xs[j] := by
  rcases h.2 with ⟨h1, h2⟩ | ⟨g', cap, cur, h1, h2, h3, h4, h5, h6, h7⟩
  · have := h.1
    subst h2
    rw [Nat.zero_mul] at this
    omega
  · cases h1
    refine ⟨g', rfl, (Array.getElem?_eq_some_iff.1 h3).1, ?_⟩
    have hl : j < n * s := by have := h.1; omega
    rw [cell_of_row w g' j _ _ (0, 0) h3]
    have e' : cur[j]? = (cur.toList.take (n * s))[j]? := by
      rw [List.getElem?_take, if_pos hl, Array.getElem?_toList]
    rw [e', h7, List.getElem?_eq_getElem hj]
abbrev PV : Type := ByteArray × Value × List ByteArray
def vC : List PV → List Value
  | [] => []
  | p :: l => .string p.1 :: p.2.1 :: vC l
theorem vC_length : ∀ l, (vC l).length = l.length * 2
  | [] => rfl
  | p :: l => by
    show (vC l).length + 1 + 1 = (l.length + 1) * 2
    rw [vC_length l]
    omega
theorem vC_append (p : PV) : ∀ l, vC (l ++ [p]) = vC l ++ [.string p.1, p.2.1]
  | [] => rfl
  | q :: l => by
    show Value.string q.1 :: q.2.1 :: vC (l ++ [p]) = _
    rw [vC_append p l]
    rfl
theorem vC_get : ∀ (l : List PV) (k : Nat) (h : k < l.length), (vC l)[k * 2]'(by rw [vC_length]; omega) = .string l[k].1 ∧ (vC l)[k * 2 + 1]'(by rw [vC_length]; omega) = l[k].2.1
  | p :: l, 0, _ => ⟨rfl, rfl⟩
  | p :: l, k + 1, h => by
    obtain ⟨h1, h2⟩ := vC_get l k (by simpa using h)
    refine ⟨?_, ?_⟩
    · simp only [show (k + 1) * 2 = k * 2 + 1 + 1 by omega]
      exact h1
    · simp only [show (k + 1) * 2 + 1 = k * 2 + 1 + 1 + 1 by omega]
      exact h2
def OwV (w : World) (B : Nat) (x : Value) (P : List PV) : Prop := w.ownsRow B 47 2 x P.length (vC P) ∧ ∀ p ∈ P, RwS w B p.2.1 p.2.2
abbrev PL : Type := Value × List Int
def OwL (w : World) (B : Nat) (y : Value) (P : List PL) : Prop := w.ownsRow B 22 1 y P.length (P.map (·.1)) ∧ ∀ p ∈ P, RwI w B p.1 p.2
abbrev PR : Type := Value × List Fr
def OwR (w : World) (B : Nat) (z : Value) (P : List PR) : Prop := w.ownsRow B 51 1 z P.length (P.map (·.1)) ∧ ∀ p ∈ P, RwF w B p.1 p.2
theorem OwV.keep {w w' : World} {B : Nat} {x : Value} {P : List PV} (h : OwV w B x P) (h1 : KeepT 47 w w') (h2 : KeepT 9 w w') : OwV w' B x P := ⟨owns_keep h.1 h1, fun p hp => owns_keep (h.2 p hp) h2⟩
theorem OwL.keep {w w' : World} {B : Nat} {x : Value} {P : List PL} (h : OwL w B x P) (h1 : KeepT 22 w w') (h2 : KeepT 3 w w') : OwL w' B x P := ⟨owns_keep h.1 h1, fun p hp => owns_keep (h.2 p hp) h2⟩
theorem OwR.keep {w w' : World} {B : Nat} {x : Value} {P : List PR} (h : OwR w B x P) (h1 : KeepT 51 w w') (h2 : KeepT 58 w w') : OwR w' B x P := ⟨owns_keep h.1 h1, fun p hp => owns_keep (h.2 p hp) h2⟩
theorem OwV.nil (w : World) (B : Nat) : OwV w B (.slice none 0 0) [] := ⟨⟨rfl, .inl ⟨rfl, rfl⟩⟩, fun p hp => by cases hp⟩
theorem OwL.nil (w : World) (B : Nat) : OwL w B (.slice none 0 0) [] := ⟨⟨rfl, .inl ⟨rfl, rfl⟩⟩, fun p hp => by cases hp⟩
theorem OwR.nil (w : World) (B : Nat) : OwR w B (.slice none 0 0) [] := ⟨⟨rfl, .inl ⟨rfl, rfl⟩⟩, fun p hp => by cases hp⟩
theorem Tryz.infoInts : (Tryz.prog.info? 22).map (fun i => (i.zero, i.size, i.bytes)) = some (some (.slice none 0 0), 1, 24) := by kernel_rfl
theorem Tryz.infoFracs : (Tryz.prog.info? 51).map (fun i => (i.zero, i.size, i.bytes)) = some (some (.slice none 0 0), 1, 24) := by kernel_rfl
theorem Tryz.infoVar : (Tryz.prog.info? 47).map (fun i => (i.zero, i.size, i.bytes)) = some (some (.agg #[.string ⟨#[]⟩, .slice none 0 0]), 2, 40) := by kernel_rfl
theorem wpList_append_ls {w : World} {ops : Array Oper} {rest : List Oper} {o : Oper} {a : Act} {Q : Exit → Act → World → Prop} (hgd : o.guard = none) (s x : Operand)
    (ho : o.op = .call { callee := .builtin .append, args := #[s, x], argTypes := #[26, 26] }) (base : Nat) (v : Value) (P : List PL) (q : Value) (hq : SlV q) (hs : a.eval s = v) (hown : w.ownsRow base 22 1 v P.length (P.map (·.1))) (g : Nat) (hx : a.eval x = .slice (some ⟨g, 0, none⟩) 1 1) (hg : w.cell? ⟨g, 0, none⟩ = some q) (hlen : P.length + 1 ≤ 100000) (hbase : base ≤ w.heap.size)
    (h : ∀ v' w', w'.ownsRow base 22 1 v' (P.length + 1) (P.map (·.1) ++ [q]) → w.grownBy w' v.ownBlock → wpList Tryz.prog ops Q rest (a.put o.dst v') w') : wpList Tryz.prog ops Q (o :: rest) a w := by
  obtain ⟨i0, hi0, hz0, hz1, hz2⟩ := info_parts Tryz.infoInts
  refine wpList_append_own _ hgd s x 26 ho base 22 i0 (.slice none 0 0) 1 24 Tryz.underlying26 hi0 hz0 hz1 hz2 rfl (by decide) v P.length _ hs hown ⟨g, 0, none⟩ 1 1 [q] hx rfl ?_ ?_ (by unfold maxLen; omega) (by omega) hbase ?_
  · intro j u hj
    match j, hj with
    | 0, hj => cases hj; exact hg
    | j + 1, hj => simp at hj
  · intro u hu
    simp only [List.mem_cons, List.not_mem_nil, or_false] at hu
    subst hu
    obtain ⟨_, _, _, rfl⟩ := hq
    rfl
  · intro v' w' h1 h2 _
    exact h v' w' h1 h2
theorem wpList_append_rs {w : World} {ops : Array Oper} {rest : List Oper} {o : Oper} {a : Act} {Q : Exit → Act → World → Prop} (hgd : o.guard = none) (s x : Operand)
    (ho : o.op = .call { callee := .builtin .append, args := #[s, x], argTypes := #[27, 27] }) (base : Nat) (v : Value) (P : List PR) (q : Value) (hq : SlV q) (hs : a.eval s = v) (hown : w.ownsRow base 51 1 v P.length (P.map (·.1))) (g : Nat) (hx : a.eval x = .slice (some ⟨g, 0, none⟩) 1 1) (hg : w.cell? ⟨g, 0, none⟩ = some q) (hlen : P.length + 1 ≤ 100000) (hbase : base ≤ w.heap.size)
    (h : ∀ v' w', w'.ownsRow base 51 1 v' (P.length + 1) (P.map (·.1) ++ [q]) → w.grownBy w' v.ownBlock → wpList Tryz.prog ops Q rest (a.put o.dst v') w') : wpList Tryz.prog ops Q (o :: rest) a w := by
  obtain ⟨i0, hi0, hz0, hz1, hz2⟩ := info_parts Tryz.infoFracs
  refine wpList_append_own _ hgd s x 27 ho base 51 i0 (.slice none 0 0) 1 24 Tryz.underlying27 hi0 hz0 hz1 hz2 rfl (by decide) v P.length _ hs hown ⟨g, 0, none⟩ 1 1 [q] hx rfl ?_ ?_ (by unfold maxLen; omega) (by omega) hbase ?_
  · intro j u hj
    match j, hj with
    | 0, hj => cases hj; exact hg
    | j + 1, hj => simp at hj
  · intro u hu
    simp only [List.mem_cons, List.not_mem_nil, or_false] at hu
    subst hu
    obtain ⟨_, _, _, rfl⟩ := hq
    rfl
  · intro v' w' h1 h2 _
    exact h v' w' h1 h2
theorem wp_append_var {w : World} {o : Oper} {a : Act} {K : Act → World → Prop} {Q : Exit → Act → World → Prop} (s x : Operand)
    (ho : o.op = .call { callee := .builtin .append, args := #[s, x], argTypes := #[25, 25] }) (base : Nat) (v : Value) (P : List PV) (nm : ByteArray) (q : Value) (hq : SlV q) (hs : a.eval s = v) (hown : w.ownsRow base 47 2 v P.length (vC P)) (g : Nat) (hx : a.eval x = .slice (some ⟨g, 0, none⟩) 1 1) (hg0 : w.cell? ⟨g, 0, none⟩ = some (.string nm)) (hg1 : w.cell? ⟨g, 1, none⟩ = some q) (hlen : P.length + 1 ≤ 100000) (hbase : base ≤ w.heap.size)
    (h : ∀ v' w', w'.ownsRow base 47 2 v' (P.length + 1) (vC P ++ [.string nm, q]) → w.grownBy w' v.ownBlock → K (a.put o.dst v') w') : o.wp Tryz.prog a w K Q := by
  obtain ⟨i0, hi0, hz0, hz1, hz2⟩ := info_parts Tryz.infoVar
  refine wp_append_own _ s x 25 ho base 47 i0 (.agg #[.string ⟨#[]⟩, .slice none 0 0]) 2 40 Tryz.underlying25 hi0 hz0 hz1 hz2 rfl (by decide) v P.length _ hs hown ⟨g, 0, none⟩ 1 1 [.string nm, q] hx rfl ?_ ?_ (by unfold maxLen; omega) (by omega) hbase ?_
  · intro j u hj
    match j, hj with
    | 0, hj => cases hj; exact hg0
    | 1, hj => cases hj; exact hg1
    | j + 2, hj => simp at hj
  · intro u hu
    simp only [List.mem_cons, List.not_mem_nil, or_false] at hu
    rcases hu with rfl | rfl
    · rfl
    · obtain ⟨_, _, _, rfl⟩ := hq
      rfl
  · intro v' w' h1 h2 _
    exact h v' w' h1 h2
theorem frC_append (a : List Fr) : ∀ l, frC (l ++ a) = frC l ++ frC a
  | [] => rfl
  | f :: l => by
    show Value.bool f.1 :: Value.string f.2.1 :: Value.string f.2.2 :: frC (l ++ a) = _
    rw [frC_append a l]
    rfl
theorem frC_cell {w : World} {g o : Nat} : ∀ {l : List Fr}, FrS w (some ⟨g, o, none⟩) l → ∀ j u, (frC l)[j]? = some u → w.cell? ((⟨g, o, none⟩ : Addr).add j) = some u ∧ u.oneCell' = true := by
  intro l h j u hj
  have hjl : j < (frC l).length := (List.getElem?_eq_some_iff.1 hj).1
  rw [frC_length] at hjl
  have hk : j / 3 < l.length := by omega
  obtain ⟨g', o', e, _, h0, h1, h2⟩ := h (j / 3) hk
  cases e
  have hadd : (⟨g, o, none⟩ : Addr).add j = ⟨g, o + j, none⟩ := by
    rw [Addr.add]
    by_cases h0 : j = 0
    · subst h0; simp
    · simp [h0]
  have hget := frC_get l (j / 3) hk
  rw [hadd]
  have hm : j % 3 = 0 ∨ j % 3 = 1 ∨ j % 3 = 2 := by omega
  rcases hm with hm | hm | hm
  · have e : j = j / 3 * 3 := by omega
    rw [e] at hj ⊢
    rw [hget.1] at hj
    cases hj
    exact ⟨h0, rfl⟩
  · have e : j = j / 3 * 3 + 1 := by omega
    rw [e] at hj ⊢
    rw [hget.2.1] at hj
    cases hj
    exact ⟨by rw [← Nat.add_assoc]; exact h1, rfl⟩
  · have e : j = j / 3 * 3 + 2 := by omega
    rw [e] at hj ⊢
    rw [hget.2.2] at hj
    cases hj
    exact ⟨by rw [← Nat.add_assoc]; exact h2, rfl⟩
theorem wpList_append_frs {w : World} {ops : Array Oper} {rest : List Oper} {o : Oper} {a : Act} {Q : Exit → Act → World → Prop} (hgd : o.guard = none) (s x : Operand)
    (ho : o.op = .call { callee := .builtin .append, args := #[s, x], argTypes := #[51, 51] }) (base : Nat) (v : Value) (l la : List Fr) (hs : a.eval s = v) (hown : RwF w base v l) (g og ca : Nat) (hx : a.eval x = .slice (some ⟨g, og, none⟩) la.length ca) (hf : FrS w (some ⟨g, og, none⟩) la) (hlen : l.length + la.length ≤ 100000) (hbase : base ≤ w.heap.size)
    (h : ∀ v' w', RwF w' base v' (l ++ la) → w.grownBy w' v.ownBlock → wpList Tryz.prog ops Q rest (a.put o.dst v') w') : wpList Tryz.prog ops Q (o :: rest) a w := by
  obtain ⟨i0, hi0, hz0, hz1, hz2⟩ := info_parts Tryz.infoFrac
  refine wpList_append_own _ hgd s x 51 ho base 58 i0 (.agg #[.bool false, .string ⟨#[]⟩, .string ⟨#[]⟩]) 3 40 Tryz.underlying51 hi0 hz0 hz1 hz2 rfl (by decide) v l.length _ hs hown ⟨g, og, none⟩ la.length ca (frC la) hx (by rw [frC_length]; omega) (fun j u hj => (frC_cell hf j u hj).1) (fun u hu => ?_) (by unfold maxLen; omega) (by omega) hbase ?_
  · obtain ⟨j, hj, rfl⟩ := List.getElem_of_mem hu
    exact (frC_cell hf j _ (List.getElem?_eq_getElem hj)).2
  · intro v' w' h1 h2 _
    refine h v' w' ?_ h2
    rw [RwF, List.length_append, frC_append]
    exact h1
end Go.Proofs.YtojidhnkpeiimaaGreatDoor
