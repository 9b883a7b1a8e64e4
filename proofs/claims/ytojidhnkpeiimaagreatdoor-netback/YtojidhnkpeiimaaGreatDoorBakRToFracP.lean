/- The reader of a net's text: its box; its tokens: look, next. -/
import Derived.Test.YtojidhnkpeiimaaGreatDoorCrAToBakQ
import Derived.Shelf.Strings.SlTrimAscii
import Derived.Test.YtojidhnkpeiimaaGreatDoorGivCToMadD
import Derived.Test.YtojidhnkpeiimaaGreatDoorCore1ToTextB
import Derived.Test.YtojidhnkpeiimaaGreatDoorTextDToNumQ
import Derived.Test.YtojidhnkpeiimaaGreatDoorFracAToRefS
namespace Go.Proofs.YtojidhnkpeiimaaGreatDoor
open Go.RowKit Go.Shelf Go.Lib
structure ByS (W : World) (g : Nat) (U : World) : Prop where
  os : U.os = W.os
  tape : U.tape = W.tape
  output : U.output = W.output
  size : W.heap.size ≤ U.heap.size
  block : ∀ k, k < W.heap.size → k ≠ g → U.heap[k]? = W.heap[k]?
theorem ByS.refl (W : World) (g : Nat) : ByS W g W := ⟨rfl, rfl, rfl, Nat.le_refl _, fun _ _ _ => rfl⟩
theorem ByS.step {W U U' : World} {g : Nat} (h : ByS W g U) (hb : Below U.heap.size U U') : ByS W g U' := ⟨hb.os.trans h.os, hb.tape.trans h.tape, hb.output.trans h.output, Nat.le_trans h.size hb.size, fun k hk hn => (hb.block k (Nat.lt_of_lt_of_le hk h.size)).trans (h.block k hk hn)⟩
theorem ByS.trans {W V U : World} {g : Nat} (h : ByS W g V) (h' : ByS V g U) : ByS W g U := ⟨h'.os.trans h.os, h'.tape.trans h.tape, h'.output.trans h.output, Nat.le_trans h.size h'.size, fun k hk hn => (h'.block k (Nat.lt_of_lt_of_le hk h.size) hn).trans (h.block k hk hn)⟩
theorem ByS.set {W U : World} {g : Nat} (h : ByS W g U) (j : Nat) (y : Value) : ByS W g (U.setCell ⟨g, j, none⟩ y) :=
  ⟨h.os, h.tape, h.output, by simpa [World.setCell] using h.size, fun k hk hn => (Below.heap_setCell U ⟨g, j, none⟩ y k hn).trans (h.block k hk hn)⟩
theorem ByS.cell {W U : World} {g : Nat} (h : ByS W g U) {p : Addr} (hp : p.block < W.heap.size) (hn : p.block ≠ g) : U.cell? p = W.cell? p := World.cell?_of_block (w := W) (h.block p.block hp hn)
def RBx (w : World) (g : Nat) (s : List UInt8) (x y z : Value) : Prop := w.heap[g]? = some (.cells #[.string (tx s), x, y, z] 81 (0, 0))
section
variable {w w' : World} {g : Nat} {s : List UInt8} {x y z : Value}
theorem RBx.lt (h : RBx w g s x y z) : g < w.heap.size := (Array.getElem?_eq_some_iff.1 h).1
theorem RBx.cells (h : RBx w g s x y z) : w.cell? ⟨g, 0, none⟩ = some (.string (tx s)) ∧ w.cell? ⟨g, 1, none⟩ = some x ∧ w.cell? ⟨g, 2, none⟩ = some y ∧ w.cell? ⟨g, 3, none⟩ = some z := by
  refine ⟨?_, ?_, ?_, ?_⟩ <;> (rw [cell_of_row w g _ _ _ (0, 0) h]; rfl)
theorem RBx.fz (h : RBx w g s x y z) (j : Nat) : w.frozen? ⟨g, j, none⟩ = false := frozen_of_row w g j _ _ h
theorem RBx.below (h : RBx w g s x y z) (hb : Below w.heap.size w w') : RBx w' g s x y z := (hb.block g h.lt).trans h
theorem RBx.set0 (h : RBx w g s x y z) (t : List UInt8) : RBx (w.setCell ⟨g, 0, none⟩ (.string (tx t))) g t x y z := heap_setCell_same w g 0 _ _ _ h
theorem RBx.set1 (h : RBx w g s x y z) (v : Value) : RBx (w.setCell ⟨g, 1, none⟩ v) g s v y z := heap_setCell_same w g 1 _ _ v h
theorem RBx.set2 (h : RBx w g s x y z) (v : Value) : RBx (w.setCell ⟨g, 2, none⟩ v) g s x v z := heap_setCell_same w g 2 _ _ v h
theorem RBx.set3 (h : RBx w g s x y z) (v : Value) : RBx (w.setCell ⟨g, 3, none⟩ v) g s x y v := heap_setCell_same w g 3 _ _ v h
end
theorem trim_lib (s : List UInt8) : trimLeftS s [32, 10, 9] = trimT s := by
  rw [trimLeftS, trimT]
  congr 1
  funext c
  simp [wsB, List.contains, List.elem]
  cases c == 32 <;> cases c == 10 <;> cases c == 9 <;> rfl
theorem tok_take (c : UInt8) (l : List UInt8) : ∃ e, tokL (c :: l) = (c :: l).take (e + 1) ∧ e ≤ l.length ∧ (∀ j (h : j < l.length), j < e → gonC c l[j] = true) ∧ ∀ h : e < l.length, gonC c l[e] = false := by
  induction l with
  | nil => exact ⟨0, rfl, Nat.le_refl _, fun j h => absurd h (by simp), fun h => absurd h (by simp)⟩
  | cons d l ih =>
    cases hd : gonC c d with
    | false =>
      refine ⟨0, ?_, Nat.zero_le _, fun j _ h => absurd h (by omega), fun _ => hd⟩
      show c :: (d :: l).takeWhile (gonC c) = _
      rw [List.takeWhile_cons_of_neg (by rw [hd]; decide)]
      rfl
    | true =>
      obtain ⟨e, h1, h2, h3, h4⟩ := ih
      refine ⟨e + 1, ?_, by simp; omega, fun j hj hje => ?_, fun h => h4 (by simpa using h)⟩
      · show c :: (d :: l).takeWhile (gonC c) = _
        rw [List.takeWhile_cons_of_pos hd]
        have h5 : c :: l.takeWhile (gonC c) = c :: l.take e := h1
        injection h5 with _ h6
        rw [h6]
        rfl
      · cases j with
        | zero => exact hd
        | succ j => exact h3 j (by simpa using hj) (by omega)
theorem tx_nil : tx [] = ⟨#[]⟩ := rfl
theorem tx_extract (l : List UInt8) (n : Nat) : (tx l).extract 0 n = tx (l.take n) := by
  apply ByteArray.ext
  rw [ByteArray.data_extract]
  simp [tx]
theorem tx_drop (l : List UInt8) (n : Nat) : (tx l).extract n (tx l).size = tx (l.drop n) := by
  apply ByteArray.ext
  rw [ByteArray.data_extract, tx_size]
  have e : List.take (l.length - n) (List.drop n l) = List.drop n l := List.take_of_length_le (by simp)
  simp [tx, e]
set_option maxRecDepth 100000 in
set_option maxHeartbeats 400000 in
theorem goesNum_any (c : Nat) (w : World) : Calls Tryz.prog 96 #[.int .u8 (c : Nat)] w fun e w' => e = .returned (.bool (numN c)) ∧ w' = w := by
  have HD := hid (fun U => nDigit_any c U)
  have HE : Hid (numN c = (figN c || decide (c = 46) || decide (c = 47))) := rfl
  generalize numN c = r at *
  generalize figN c = f at *
  go_enter Tryz.func96, Tryz.ntmps96
  go_wp2_with fail
  refine (HD.out _).mono ?_
  rintro e w1 ⟨rfl, rfl⟩
  cases f with
  | true =>
    have HR : Hid (r = true) := HE.out
    go_wp2
    go_ret
    exact ⟨by rw [HR.out]; rfl, rfl⟩
  | false =>
    by_cases h46 : c = 46
    · have HR : Hid (r = true) := by show _ = _; rw [HE.out, decide_eq_true h46]; rfl
      have e46 : ((c : Int) == 46) = true := by rw [beq_iff_eq]; omega
      clear h46
      go_wp2
      go_ret
      exact ⟨by rw [HR.out]; rfl, rfl⟩
    · have HR : Hid (r = ((c : Int) == 47)) := by
        show _ = _
        rw [HE.out, decide_eq_false h46, Bool.false_or, Bool.false_or, Bool.eq_iff_iff, decide_eq_true_iff, beq_iff_eq]
        omega
      have e46 : ((c : Int) == 46) = false := by rw [beq_eq_false_iff_ne]; omega
      clear h46
      go_wp2
      go_ret
      exact ⟨by rw [HR.out]; rfl, rfl⟩
set_option maxRecDepth 100000 in
set_option maxHeartbeats 400000 in
theorem lookS1_any (c : Nat) (w : World) : Calls Tryz.prog 92 #[.int .u8 (c : Nat)] w fun e w' => e = .returned (.bool false) ∧ w' = w := by
  go_enter Tryz.func92, Tryz.ntmps92
  go_wp2
  go_ret
  exact ⟨rfl, rfl⟩
set_option maxRecDepth 100000 in
set_option maxHeartbeats 1000000 in
theorem look_any (g : Nat) (s : List UInt8) (x y z : Value) (w : World) (h : RBx w g s x y z) (hs : s.length ≤ 20000) :
    Calls Tryz.prog 60 #[.pointer (some ⟨g, 0, none⟩)] w fun e w' => e = .returned (.string (tx (tokL (trimT s)))) ∧ RBx w' g (trimT s) x y z ∧ ByS w g w' := by
  have HT := hid (fun U : World => Any.strings_TrimLeft_laid Tryz.lays161 (by kernel_rfl) (tx s) ⟨#[32, 10, 9]⟩ U (by decide) (ascii_of_all (by decide)))
  change Hid (∀ U : World, Calls Tryz.prog 91 #[.string (tx s), .string ⟨#[32, 10, 9]⟩] U fun e w' => e = .returned (.string (tx (trimLeftS s [32, 10, 9]))) ∧ Below U.heap.size U w') at HT
  rw [trim_lib] at HT
  have hlen : (trimT s).length ≤ 20000 := Nat.le_trans (List.dropWhile_sublist _).length_le hs
  obtain ⟨c0, -, -, -⟩ := h.cells
  have HH := hid h
  generalize trimT s = t at *
  clear h
  go_enter Tryz.func60, Tryz.ntmps60
  go_wp2_with fail
  refine (HT.out _).mono ?_
  rintro e w1 ⟨rfl, hb⟩
  have h1 := HH.out.below hb
  obtain ⟨d0, -, -, -⟩ := h1.cells
  have f0 := h1.fz 0
  have h2 := h1.set0 t
  have HR := hid h2
  have HB := hid (((ByS.refl w g).step hb).set 0 (.string (tx t)))
  obtain ⟨e0, -, -, -⟩ := h2.cells
  clear c0 h1 hb h2
  cases t with
  | nil =>
    rw [tx_nil] at *
    go_wp2
    go_ret
    exact ⟨rfl, HR.out, HB.out⟩
  | cons c l =>
    obtain ⟨E, t1, t2, t3, t4⟩ := tok_take c l
    obtain ⟨T, hT⟩ : ∃ T, tx (c :: l) = T := ⟨_, rfl⟩
    have HFIN : Hid (∀ k, k ≤ l.length → (∀ j, (h : j < l.length) → j < k → gonC c l[j] = true) → (∀ h : k < l.length, gonC c l[k] = false) → T.extract 0 (k + 1) = tx (tokL (c :: l))) := fun k hk ha hb => by
      have hkE : k = E := by
        rcases Nat.lt_trichotomy k E with h | h | h
        · exact absurd (t3 k (by omega) h) (by rw [hb (by omega)]; decide)
        · exact h
        · exact absurd (ha E (by omega) h) (by rw [t4 (by omega)]; decide)
      rw [← hT, tx_extract, hkE, t1]
    have hsz : T.size = l.length + 1 := by rw [← hT, tx_size]; rfl
    have hne : T.toList.isEmpty = false := by
      rw [← hT, toList_data]
      rfl
    have hT0 : ∀ h : 0 < T.size, T[0] = c := fun h => by subst hT; rfl
    have hTj : ∀ j (h : j < l.length) (h' : j + 1 < T.size), T[j + 1] = l[j] := fun j h h' => by subst hT; rfl
    have H0 := hid hT0
    have HJ := hid hTj
    have hl : l.length ≤ 19999 := by simpa using hlen
    have HG1 := hid (fun d U => nGoes_any d U)
    have HG2 := hid (fun d U => goesNum_any d U)
    have HG3 := hid (fun d U => lookS1_any d U)
    have HL := hid (fun U => nLetter_any c.toNat U)
    have HF := hid (fun U => nDigit_any c.toNat U)
    have HGO : Hid (∀ d, gonC c d = if letN c.toNat then worN d.toNat else if figN c.toNat then numN d.toNat else false) := fun d => rfl
    rw [hT] at e0 HR HB
    obtain ⟨TK, hTK⟩ : ∃ TK, tx (tokL (c :: l)) = TK := ⟨_, rfl⟩
    rw [hTK] at HFIN
    have HTK := hid hTK
    clear hTK
    generalize tx (c :: l) = T2 at *
    subst hT
    clear t1 t2 t3 t4 hT0 hTj hlen
    have HGG1 : Hid (letN c.toNat = true → ∀ (d : UInt8) (U : World), Calls Tryz.prog 94 #[.int .u8 (d.toNat : Nat)] U fun e w' => e = .returned (.bool (gonC c d)) ∧ w' = U) := fun h d U => by
      rw [HGO.out d, if_pos h]
      exact HG1.out d.toNat U
    have HGG2 : Hid (letN c.toNat = false → figN c.toNat = true → ∀ (d : UInt8) (U : World), Calls Tryz.prog 96 #[.int .u8 (d.toNat : Nat)] U fun e w' => e = .returned (.bool (gonC c d)) ∧ w' = U) := fun h h' d U => by
      rw [HGO.out d, h, if_neg (by decide), if_pos h']
      exact HG2.out d.toNat U
    have HGG3 : Hid (letN c.toNat = false → figN c.toNat = false → ∀ (d : UInt8) (U : World), Calls Tryz.prog 92 #[.int .u8 (d.toNat : Nat)] U fun e w' => e = .returned (.bool (gonC c d)) ∧ w' = U) := fun h h' d U => by
      rw [HGO.out d, h, if_neg (by decide), h', if_neg (by decide)]
      exact HG3.out d.toNat U
    clear HG1 HG2 HG3 HGO HT HH
    have hT0 : T2[0]'(by omega) = c := H0.out (by omega)
    go_wp2_with fail
    clear hT0
    clear d0 f0
    generalize (w1.setCell ⟨g, 0, none⟩ (.string T2)) = w2 at *
    refine (HL.out _).mono ?_
    rintro e w3 ⟨rfl, h3⟩
    obtain rfl := h3.symm
    cases hlc : letN c.toNat
    focus
      go_wp2_with fail
      refine (HF.out _).mono ?_
      rintro e w4 ⟨rfl, h4⟩
      obtain rfl := h4.symm
      cases hfc : figN c.toNat
      focus
        have HGG := hid (HGG3.out hlc hfc)
        clear hlc hfc HGG1 HGG2 HGG3 HL HF
        go_wp2_with fail
      rotate_left
      focus
        have HGG := hid (HGG2.out hlc hfc)
        clear hlc hfc HGG1 HGG2 HGG3 HL HF
        go_wp2_with fail
    rotate_left 2
    focus
      have HGG := hid (HGG1.out hlc)
      clear hlc HGG1 HGG2 HGG3 HL HF
      go_wp2_with fail
    all_goals
      go_loopw [5] (fun iv wr => ∃ k : Nat, k ≤ l.length ∧ iv = .int .i64 ((k + 1 : Nat) : Int) ∧ Hid (∀ j, (h : j < l.length) → j < k → gonC c l[j] = true) ∧ wr = w2) (fun iv _ => l.length + 1 - (intOf iv).toNat)
      case atStart => exact ⟨0, Nat.zero_le _, rfl, fun j _ h => absurd h (by omega), rfl⟩
      case round =>
        obtain ⟨k, hk, rfl, HA, rfl⟩ := hrel
        by_cases hlt : k < l.length
        · have hkT : k + 1 < T2.size := by omega
          have hTk := HJ.out k hlt hkT
          have HG := hid (HGG.out l[k])
          have HSUC : Hid (gonC c l[k] = true → ∀ j, (h : j < l.length) → j < k + 1 → gonC c l[j] = true) := fun h j hj hjk => by
            rcases Nat.lt_or_ge j k with h1 | h1
            · exact HA.out j hj h1
            · obtain rfl : j = k := by omega
              exact h
          have HSTOP : Hid (gonC c l[k] = false → T2.extract 0 (k + 1) = TK) := fun h => HFIN.out k hk HA.out (fun _ => h)
          generalize l[k] = d at *
          go_wp2_with fail
          refine (HG.out _).mono ?_
          rintro e w5 ⟨rfl, h5⟩
          obtain rfl := h5.symm
          cases hgc : gonC c d with
          | false =>
            have HS := hid (HSTOP.out hgc)
            clear hgc
            go_wp2
            go_ret
            exact ⟨by rw [HS.out, HTK.out]; rfl, HR.out, HB.out⟩
          | true =>
            have HS := hid (HSUC.out hgc)
            clear hgc hTk
            go_wp2
            go_roundw
            case rel => exact ⟨k + 1, by omega, by go_num, HS, trivial⟩
            case measure => simp [intOf]; omega
        · obtain rfl : k = l.length := by omega
          have HST := hid (HFIN.out l.length (Nat.le_refl _) HA.out (fun h => absurd h (by omega)))
          go_wp2
          go_ret
          exact ⟨by rw [HST.out, HTK.out]; rfl, HR.out, HB.out⟩
set_option maxRecDepth 100000 in
set_option maxHeartbeats 400000 in
theorem next_any (g : Nat) (s : List UInt8) (x y z : Value) (w : World) (h : RBx w g s x y z) (hs : s.length ≤ 20000) :
    Calls Tryz.prog 85 #[.pointer (some ⟨g, 0, none⟩)] w fun e w' => e = .returned (.string (tx (tokL (trimT s)))) ∧ RBx w' g ((trimT s).drop (tokL (trimT s)).length) x y z ∧ ByS w g w' := by
  have HK := hid (look_any g s x y z w h hs)
  have hlen : (trimT s).length ≤ 20000 := Nat.le_trans (List.dropWhile_sublist _).length_le hs
  have htl : (tokL (trimT s)).length ≤ (trimT s).length := by
    cases trimT s with
    | nil => exact Nat.le_refl _
    | cons c l =>
      show (c :: l.takeWhile _).length ≤ _
      rw [List.length_cons, List.length_cons]
      exact Nat.succ_le_succ (List.takeWhile_sublist _).length_le
  generalize tokL (trimT s) = tk at *
  generalize trimT s = t at *
  have e1 : (tx tk).size = tk.length := tx_size tk
  obtain ⟨TK, hTK⟩ : ∃ TK, tx tk = TK := ⟨_, rfl⟩
  rw [hTK] at HK e1 ⊢
  clear h hTK
  go_enter Tryz.func85, Tryz.ntmps85
  go_wp2_with fail
  refine HK.out.mono ?_
  rintro e w1 ⟨rfl, h1, hb⟩
  obtain ⟨c0, -, -, -⟩ := h1.cells
  have f0 := h1.fz 0
  have h2 := h1.set0 (t.drop tk.length)
  have HR := hid h2
  have HB := hid (hb.set 0 (.string (tx (t.drop tk.length))))
  have e2 : (tx t).size = t.length := tx_size t
  have e3 := tx_drop t tk.length
  rw [e2] at e3
  clear h1 hb h2 HK
  generalize tx (t.drop tk.length) = T3 at *
  generalize tx t = T at *
  go_wp2
  go_ret
  exact ⟨rfl, HR.out, HB.out⟩
theorem trim_trim (l : List UInt8) : trimT (trimT l) = trimT l := by
  induction l with
  | nil => rfl
  | cons c l ih =>
    cases h : wsB c with
    | false =>
      have e : trimT (c :: l) = c :: l := List.dropWhile_cons_of_neg (by rw [h]; decide)
      rw [e, e]
    | true =>
      have e : trimT (c :: l) = trimT l := List.dropWhile_cons_of_pos h
      rw [e, ih]
theorem Rst.drop {t : ByteArray} {ts : List ByteArray} {l : List UInt8} (h : Rst (t :: ts) l) : tx (tokL (trimT l)) = t ∧ Rst ts ((trimT l).drop (tokL (trimT l)).length) ∧ Rst (t :: ts) (trimT l) ∧ ((trimT l).drop (tokL (trimT l)).length).length ≤ l.length ∧ (trimT l).length ≤ l.length := by
  obtain ⟨r, h1, h2, h3, h4⟩ := h
  have hl : (trimT l).length ≤ l.length := (List.dropWhile_sublist _).length_le
  have ht : tokL (trimT l) = bl t := by rw [h1, h2]
  refine ⟨by rw [ht, tx_bl], ?_, ⟨r, ?_, h2, h3, h4⟩, by rw [List.length_drop]; omega, hl⟩
  · rw [ht, h1, List.drop_left]
    exact h4
  · rw [trim_trim, h1]
theorem next_tok {t : ByteArray} {ts : List ByteArray} (g : Nat) (s : List UInt8) (x y z : Value) (w : World) (h : RBx w g s x y z) (hs : s.length ≤ 20000) (hr : Rst (t :: ts) s) :
    Calls Tryz.prog 85 #[.pointer (some ⟨g, 0, none⟩)] w fun e w' => e = .returned (.string t) ∧ ∃ s', RBx w' g s' x y z ∧ s'.length ≤ 20000 ∧ Rst ts s' ∧ ByS w g w' := by
  obtain ⟨a, b, -, c, -⟩ := hr.drop
  refine (next_any g s x y z w h hs).mono ?_
  rintro e w' ⟨rfl, h1, h2⟩
  exact ⟨by rw [a], _, h1, by omega, b, h2⟩
theorem look_tok {t : ByteArray} {ts : List ByteArray} (g : Nat) (s : List UInt8) (x y z : Value) (w : World) (h : RBx w g s x y z) (hs : s.length ≤ 20000) (hr : Rst (t :: ts) s) :
    Calls Tryz.prog 60 #[.pointer (some ⟨g, 0, none⟩)] w fun e w' => e = .returned (.string t) ∧ ∃ s', RBx w' g s' x y z ∧ s'.length ≤ 20000 ∧ Rst (t :: ts) s' ∧ ByS w g w' := by
  obtain ⟨a, -, b, -, c⟩ := hr.drop
  refine (look_any g s x y z w h hs).mono ?_
  rintro e w' ⟨rfl, h1, h2⟩
  exact ⟨by rw [a], _, h1, by omega, b, h2⟩
end Go.Proofs.YtojidhnkpeiimaaGreatDoor

/- The reader: what it holds; must, sign, names. -/
namespace Go.Proofs.YtojidhnkpeiimaaGreatDoor
open Go.RowKit Go.Shelf Go.Lib
theorem ByS.keep {W U : World} {g : Nat} {s : List UInt8} {x y z : Value} {t : TypeId} (h : ByS W g U) (hb : RBx W g s x y z) (ht : t ≠ 81) : KeepT t W U := fun k c fr hk => by
  refine (h.block k (Array.getElem?_eq_some_iff.1 hk).1 ?_).trans hk
  rintro rfl
  rw [RBx] at hb
  rw [hb] at hk
  injection hk with h1
  injection h1 with _ h2 _
  exact ht h2.symm
structure RD (W : World) (g : Nat) (s : List UInt8) (x y z : Value) (Vs : List PV) (Ls : List PL) (Rs : List PR) : Prop where
  box : RBx W g s x y z
  vs : OwV W g x Vs
  ls : OwL W g y Ls
  rs : OwR W g z Rs
  short : s.length ≤ 20000
theorem RD.by {W U : World} {g : Nat} {s s' : List UInt8} {x y z : Value} {Vs : List PV} {Ls : List PL} {Rs : List PR} (h : RD W g s x y z Vs Ls Rs) (hb : ByS W g U) (h' : RBx U g s' x y z) (hs : s'.length ≤ 20000) : RD U g s' x y z Vs Ls Rs :=
  ⟨h', h.vs.keep (hb.keep h.box (by decide)) (hb.keep h.box (by decide)), h.ls.keep (hb.keep h.box (by decide)) (hb.keep h.box (by decide)), h.rs.keep (hb.keep h.box (by decide)) (hb.keep h.box (by decide)), hs⟩
theorem RD.below {W U : World} {g : Nat} {s : List UInt8} {x y z : Value} {Vs : List PV} {Ls : List PL} {Rs : List PR} (h : RD W g s x y z Vs Ls Rs) (hb : Below W.heap.size W U) : RD U g s x y z Vs Ls Rs :=
  h.by ((ByS.refl W g).step hb) (h.box.below hb) h.short
set_option maxRecDepth 100000 in
set_option maxHeartbeats 400000 in
theorem giveUpIf_no (p : Option Addr) (k : Int) (w : World) : Calls Tryz.prog 61 #[.pointer p, .bool false, .int .i64 k] w fun e w' => e = .returned (.tuple #[]) ∧ w' = w := by
  go_enter Tryz.func61, Tryz.ntmps61
  go_wp2
  go_end0
  exact ⟨rfl, rfl⟩
set_option maxRecDepth 100000 in
set_option maxHeartbeats 400000 in
theorem must_yes (p : Option Addr) (t : ByteArray) (w : World) : Calls Tryz.prog 90 #[.pointer p, .bool true, .string t] w fun e w' => e = .returned (.tuple #[]) ∧ w' = w := by
  have H := hid (fun k U => giveUpIf_no p k U)
  go_enter Tryz.func90, Tryz.ntmps90
  go_wp2_with fail
  refine (H.out _ _).mono ?_
  rintro e w1 ⟨rfl, rfl⟩
  go_wp2_with fail
  refine (H.out _ _).mono ?_
  rintro e w2 ⟨rfl, rfl⟩
  go_wp2
  go_end0
  exact ⟨rfl, rfl⟩
set_option maxRecDepth 100000 in
set_option maxHeartbeats 400000 in
theorem sign_tok {t : ByteArray} {ts : List ByteArray} (g : Nat) (s : List UInt8) (x y z : Value) (w : World) (h : RBx w g s x y z) (hs : s.length ≤ 20000) (hr : Rst (t :: ts) s) :
    Calls Tryz.prog 122 #[.pointer (some ⟨g, 0, none⟩), .string t] w fun e w' => e = .returned (.tuple #[]) ∧ ∃ s', RBx w' g s' x y z ∧ s'.length ≤ 20000 ∧ Rst ts s' ∧ ByS w g w' := by
  have HN := hid (next_tok g s x y z w h hs hr)
  have HM := hid (fun U => must_yes (some ⟨g, 0, none⟩) t U)
  clear h hr
  go_enter Tryz.func122, Tryz.ntmps122
  go_wp2_with fail
  refine HN.out.mono ?_
  rintro e w1 ⟨rfl, s', h1, h2, h3, h4⟩
  have K := hid (show RBx w1 g s' x y z ∧ s'.length ≤ 20000 ∧ Rst ts s' ∧ ByS w g w1 from ⟨h1, h2, h3, h4⟩)
  clear h1 h2 h3 h4
  have htt : (t.toList == t.toList) = true := by simp
  go_wp2_with fail
  refine (HM.out _).mono ?_
  rintro e w2 ⟨rfl, hw⟩
  obtain rfl := hw.symm
  go_wp2
  go_end0
  exact ⟨rfl, s', K.out⟩
set_option maxRecDepth 100000 in
set_option maxHeartbeats 1000000 in
theorem newName_tok {t : ByteArray} {ts : List ByteArray} (g : Nat) (s : List UInt8) (x y z : Value) (a : Option Addr) (ca m : Nat) (l : List ByteArray) (w : World) (h : RBx w g s x y z) (hs : s.length ≤ 20000) (hr : Rst (t :: ts) s)
    (hst : ∀ U, ByS w g U → StS U a l) (hl : l.length ≤ 1000) (hm : l.length ≠ m) (hn : nameB t = true) (hd : memS l t = false) :
    Calls Tryz.prog 121 #[.pointer (some ⟨g, 0, none⟩), .slice a l.length ca, .int .i64 m] w fun e w' => e = .returned (.string t) ∧ ∃ s', RBx w' g s' x y z ∧ s'.length ≤ 20000 ∧ Rst ts s' ∧ ByS w g w' := by
  have h12 := name_12 hn
  have HN := hid (next_tok g s x y z w h hs hr)
  have HM := hid (fun U => must_yes (some ⟨g, 0, none⟩) t U)
  have HG := hid (fun k U => giveUpIf_no (some ⟨g, 0, none⟩) k U)
  have HI : Hid (∀ U : World, Calls Tryz.prog 66 #[.string t] U fun e w' => e = .returned (.bool true) ∧ w' = U) := fun U => by
    have := nName_any t U (by omega)
    rwa [hn] at this
  have HC : Hid (∀ U : World, ByS w g U → Calls Tryz.prog 67 #[.slice a l.length ca, .string t] U fun e w' => e = .returned (.bool false) ∧ w' = U) := fun U hU => by
    have := slContainsS_any a ca l t U (hst U hU) (by omega)
    rwa [hd] at this
  have HCL := hid (fun U => Clone_any t U (by omega))
  have hlm : ((l.length : Int) == (m : Int)) = false := by rw [beq_eq_false_iff_ne]; omega
  clear h hr hst hm
  go_enter Tryz.func121, Tryz.ntmps121
  go_wp2_with fail
  refine HN.out.mono ?_
  rintro e w1 ⟨rfl, s', h1, h2, h3, h4⟩
  have K := hid (show RBx w1 g s' x y z ∧ s'.length ≤ 20000 ∧ Rst ts s' ∧ ByS w g w1 from ⟨h1, h2, h3, h4⟩)
  clear h1 h2 h3 h4
  go_wp2_with fail
  refine (HI.out _).mono ?_
  rintro e w2 ⟨rfl, hw⟩
  obtain rfl := hw.symm
  go_wp2_with fail
  refine (HM.out _).mono ?_
  rintro e w2 ⟨rfl, hw⟩
  obtain rfl := hw.symm
  go_wp2_with fail
  refine (HC.out _ K.out.2.2.2).mono ?_
  rintro e w2 ⟨rfl, hw⟩
  obtain rfl := hw.symm
  go_wp2_with fail
  refine (HG.out _ _).mono ?_
  rintro e w2 ⟨rfl, hw⟩
  obtain rfl := hw.symm
  go_wp2_with fail
  refine (HG.out _ _).mono ?_
  rintro e w2 ⟨rfl, hw⟩
  obtain rfl := hw.symm
  go_wp2_with fail
  refine (HCL.out _).mono ?_
  rintro e w2 ⟨rfl, hb⟩
  have K2 := hid (show RBx w2 g s' x y z ∧ s'.length ≤ 20000 ∧ Rst ts s' ∧ ByS w g w2 from ⟨K.out.1.below hb, K.out.2.1, K.out.2.2.1, K.out.2.2.2.step hb⟩)
  clear hb
  go_wp2
  go_ret
  exact ⟨rfl, s', K2.out⟩
set_option maxRecDepth 100000 in
set_option maxHeartbeats 400000 in
theorem known_tok (p : Option Addr) (a : Option Addr) (ca i : Nat) (l : List ByteArray) (t : ByteArray) (w : World) (h : StS w a l) (hl : l.length ≤ 1000) (hn : nameB t = true) (hp : placeS l t = (i : Int)) :
    Calls Tryz.prog 123 #[.pointer p, .slice a l.length ca, .string t] w fun e w' => e = .returned (.int .i64 i) ∧ w' = w := by
  have h12 := name_12 hn
  have HM := hid (fun U => must_yes p t U)
  have HG := hid (fun k U => giveUpIf_no p k U)
  have HI : Hid (∀ U : World, Calls Tryz.prog 66 #[.string t] U fun e w' => e = .returned (.bool true) ∧ w' = U) := fun U => by
    have := nName_any t U (by omega)
    rwa [hn] at this
  have HX : Hid (Calls Tryz.prog 102 #[.slice a l.length ca, .string t] w fun e w' => e = .returned (.int .i64 i) ∧ w' = w) := by
    have := slIndexS_any a ca l t w h (by omega)
    rwa [hp] at this
  have hi : i ≤ 1000 := by
    rw [placeS] at hp
    split at hp
    · rename_i j hj
      have := (List.findIdx?_eq_some_iff_getElem.1 hj).1
      omega
    · omega
  clear h hp
  go_enter Tryz.func123, Tryz.ntmps123
  go_wp2_with fail
  refine (HI.out _).mono ?_
  rintro e w2 ⟨rfl, hw⟩
  obtain rfl := hw.symm
  go_wp2_with fail
  refine (HM.out _).mono ?_
  rintro e w2 ⟨rfl, hw⟩
  obtain rfl := hw.symm
  go_wp2_with fail
  refine HX.out.mono ?_
  rintro e w2 ⟨rfl, hw⟩
  obtain rfl := hw.symm
  go_wp2_with fail
  refine (HG.out _ _).mono ?_
  rintro e w2 ⟨rfl, hw⟩
  obtain rfl := hw.symm
  go_wp2
  go_ret
  exact ⟨rfl, rfl⟩
theorem NmsOK.place {l : List ByteArray} (h : NmsOK l) {i : Nat} (hi : i < l.length) : placeS l l[i] = (i : Int) := by
  refine place_at hi rfl fun j hj hji e => ?_
  have h1 := (h i hi).2
  rw [memS, List.any_eq_false] at h1
  have hjt : j < (l.take i).length := by rw [List.length_take]; omega
  refine h1 ((l.take i)[j]'hjt) (List.getElem_mem hjt) ?_
  rw [List.getElem_take]
  exact decide_eq_true e
set_option maxRecDepth 100000 in
set_option maxHeartbeats 400000 in
theorem variable_tok (g v : Nat) (s : List UInt8) (x y z : Value) (Vs : List PV) (Ls : List PL) (Rs : List PR) (w : World) (h : RD w g s x y z Vs Ls Rs) (hv : NmsOK (namesV (vOf Vs))) (hl : Vs.length ≤ 1000) (hvl : v < Vs.length) :
    Calls Tryz.prog 87 #[.pointer (some ⟨g, 0, none⟩), .string Vs[v].1] w fun e w' => e = .returned (.int .i64 v) ∧ Below w.heap.size w w' := by
  obtain ⟨a, c, rfl, hvs⟩ := h.vs.vars
  have hlv : (vOf Vs).length = Vs.length := by simp [vOf]
  have hln : (namesV (vOf Vs)).length = (vOf Vs).length := namesV_length _
  have HN := hid (namesOf_any a c (vOf Vs) w hvs (by omega))
  have e1 : (namesV (vOf Vs))[v]'(by omega) = Vs[v].1 := by simp [namesV, vOf]
  have hp : placeS (namesV (vOf Vs)) Vs[v].1 = (v : Int) := by
    have h2 := hv.place (i := v) (by omega)
    rwa [e1] at h2
  have hnm : nameB Vs[v].1 = true := by
    have h2 := (hv v (by omega)).1
    rwa [e1] at h2
  have HK : Hid (∀ (G : Nat) (U : World), RowS U G (namesV (vOf Vs)) → Calls Tryz.prog 123 #[.pointer (some ⟨g, 0, none⟩), .slice (some ⟨G, 0, none⟩) (vOf Vs).length (vOf Vs).length, .string Vs[v].1] U fun e w' => e = .returned (.int .i64 v) ∧ w' = U) := fun G U hU => by
    have := known_tok (some ⟨g, 0, none⟩) (some ⟨G, 0, none⟩) (vOf Vs).length v (namesV (vOf Vs)) Vs[v].1 U hU.st (by omega) hnm hp
    rwa [hln] at this
  obtain ⟨-, c1, -, -⟩ := h.box.cells
  obtain ⟨n, hn⟩ : ∃ n, (vOf Vs).length = n := ⟨_, rfl⟩
  rw [hn] at HN HK c1
  clear h hvs hp hnm e1 hlv hln hn
  go_enter Tryz.func87, Tryz.ntmps87
  go_wp2_with fail
  refine HN.out.mono ?_
  rintro e w1 ⟨G, rfl, hR, hb⟩
  have HR := hid hR
  have HB := hid hb
  clear hR hb c1
  go_wp2_with fail
  refine (HK.out G _ HR.out).mono ?_
  rintro e w2 ⟨rfl, hw⟩
  obtain rfl := hw.symm
  go_wp2
  go_ret
  exact ⟨rfl, HB.out⟩
set_option maxRecDepth 100000 in
set_option maxHeartbeats 400000 in
theorem hasRows_any (g v : Nat) (s : List UInt8) (x y z : Value) (Vs : List PV) (Ls : List PL) (Rs : List PR) (w : World) (h : RD w g s x y z Vs Ls Rs) (hv : v < Rs.length) :
    Calls Tryz.prog 62 #[.pointer (some ⟨g, 0, none⟩), .int .i64 v] w fun e w' => e = .returned (.bool (decide (0 < Rs[v].2.length))) ∧ w' = w := by
  obtain ⟨-, -, -, c3⟩ := h.box.cells
  obtain ⟨a, c, rfl, -⟩ := owns_slice h.rs.1
  obtain ⟨gz, rfl, hgz, k0⟩ := owns_cell h.rs.1 (j := v) (by simpa using hv)
  obtain ⟨d, cd, e1, -⟩ := owns_slice (h.rs.2 Rs[v] (List.getElem_mem hv))
  rw [List.getElem_map, e1] at k0
  generalize Rs[v].2.length = n at *
  clear h e1
  go_enter Tryz.func62, Tryz.ntmps62
  go_wp2
  go_ret
  exact ⟨rfl, rfl⟩
end Go.Proofs.YtojidhnkpeiimaaGreatDoor

/- Package frac reads a text. -/
namespace Go.Proofs.YtojidhnkpeiimaaGreatDoor
open Go.RowKit Go.Lib
set_option maxRecDepth 100000 in
set_option maxHeartbeats 1000000 in
theorem parseQuotient_any (a b : ByteArray) (w : World) (ha : a.size ≤ 100000) (hb : b.size ≤ 100000) :
    Calls Tryz.prog 188 #[.string a, .string b] w fun e w' => ∃ x y : ByteArray, e = .returned (.tuple #[.string x, .string y, .int .i64 (pquo a b).1]) ∧ ((pquo a b).1 = 0 → val false x y = (pquo a b).2) ∧ x.size ≤ 100000 ∧ y.size ≤ 100000 ∧ Below w.heap.size w w' := by
  have HPA := hide (fun V => Parse_pres a V (by omega))
  have HPB := hide (fun V => Parse_pres b V (by omega))
  have sa := pres_size a
  have sb := pres_size b
  have HQ : Hid (pquo a b = if (pres a).2 ≠ 0 then ((pres a).2, 0) else if (pres b).2 ≠ 0 then ((pres b).2, 0) else if N (pres b).1 = 0 then (3, 0) else (0, val false (pres a).1 (pres b).1)) := rfl
  generalize pquo a b = r at *
  generalize pres a = pa at *
  generalize pres b = pb at *
  obtain ⟨xa, ea⟩ := pa
  obtain ⟨xb, eb⟩ := pb
  simp only at HPA HPB sa sb HQ
  have HN := hide (fun V => isNought_any xb V)
  clear ha hb
  go_enter Tryz.func188, Tryz.ntmps188
  go_wp2_with fail
  refine (HPA.out _).mono ?_
  rintro e w1 ⟨rfl, hb1⟩
  by_cases h1 : ea = 0
  · subst h1
    rw [if_neg (by decide)] at HQ
    go_wp2_with fail
    refine (HPB.out _).mono ?_
    rintro e w2 ⟨rfl, hb2⟩
    have hB2 := hb1.trans (hb2.mono hb1.size)
    by_cases h2 : eb = 0
    · subst h2
      rw [if_neg (by decide)] at HQ
      go_wp2_with fail
      refine (HN.out _).mono ?_
      rintro e w3 ⟨rfl, hw3⟩
      subst hw3
      by_cases h3 : N xb = 0
      · rw [if_pos h3] at HQ
        rw [decide_eq_true h3]
        go_wp2
        go_ret3
        rw [HQ.out]
        exact ⟨_, _, rfl, fun h => absurd h (by decide), by show 0 ≤ _; omega, by show 0 ≤ _; omega, hB2⟩
      · rw [if_neg h3] at HQ
        rw [decide_eq_false h3]
        go_wp2
        go_ret3
        rw [HQ.out]
        exact ⟨_, _, rfl, fun _ => rfl, by omega, by omega, hB2⟩
    · rw [if_pos h2] at HQ
      have h2b : (eb == 0) = false := beq_eq_false_iff_ne.2 h2
      go_wp2
      go_ret3
      rw [HQ.out]
      exact ⟨_, _, rfl, fun h => absurd h h2, by show 0 ≤ _; omega, by show 0 ≤ _; omega, hB2⟩
  · rw [if_pos h1] at HQ
    have h1b : (ea == 0) = false := beq_eq_false_iff_ne.2 h1
    go_wp2
    go_ret3
    rw [HQ.out]
    exact ⟨_, _, rfl, fun h => absurd h h1, by show 0 ≤ _; omega, by show 0 ≤ _; omega, hb1⟩
set_option maxRecDepth 100000 in
set_option maxHeartbeats 1000000 in
theorem parseDecimal_any (a b : ByteArray) (w : World) (ha : a.size ≤ 100000) (hb : b.size ≤ 100000) :
    Calls Tryz.prog 189 #[.string a, .string b] w fun e w' => ∃ x y : ByteArray, e = .returned (.tuple #[.string x, .string y, .int .i64 (pdec a b).1]) ∧ ((pdec a b).1 = 0 → val false x y = (pdec a b).2) ∧ x.size ≤ 100000 ∧ y.size ≤ 100000 ∧ Below w.heap.size w w' := by
  have h1s : (⟨#[49]⟩ : ByteArray).size = 1 := rfl
  have hcat : (⟨#[49]⟩ ++ b : ByteArray).size ≤ 140737488355328 := by rw [ByteArray.size_append, h1s]; omega
  have HPA := hide (fun V => Parse_pres a V (by omega))
  have HPM := hide (fun V => Parse_pres (⟨#[49]⟩ ++ b) V hcat)
  have sa := pres_size a
  have HQ : Hid (pdec a b = if (pres a).2 ≠ 0 then ((pres a).2, 0) else if allDig b.data.toList = false then (1, 0) else if 400 ≤ b.size then (2, 0) else (0, val false (B (N (pres a).1 * 10 ^ b.size + dval b.data.toList)) (B (10 ^ b.size)))) := rfl
  generalize pdec a b = r at *
  generalize pres a = pa at *
  obtain ⟨xa, ea⟩ := pa
  simp only at HPA sa HQ
  clear hcat
  go_enter Tryz.func189, Tryz.ntmps189
  go_wp2_with fail
  refine (HPA.out _).mono ?_
  rintro e w1 ⟨rfl, hb1⟩
  by_cases h1 : ea = 0
  · subst h1
    rw [if_neg (by decide)] at HQ
    by_cases h0 : b.size = 0
    · obtain rfl : b = ⟨#[]⟩ := by
        obtain ⟨⟨l⟩⟩ := b
        have : l = [] := List.eq_nil_of_length_eq_zero (by simpa [ByteArray.size] using h0)
        rw [this]
      rw [if_pos (show allDig (⟨#[]⟩ : ByteArray).data.toList = false from rfl)] at HQ
      clear HPM
      go_wp2
      go_ret3
      rw [HQ.out]
      exact ⟨_, _, rfl, fun h => absurd h (by decide), by show 0 ≤ _; omega, by show 0 ≤ _; omega, hb1⟩
    · have hm := pres_mark b (by omega)
      rw [hm] at HPM
      clear hm
      have hne : b.toList.isEmpty = false := by
        rw [toList_data]
        cases hl : b.data.toList with
        | nil => rw [← bytes_len, hl] at h0; exact absurd rfl h0
        | cons x r => rfl
      cases hd : allDig b.data.toList with
      | false =>
        rw [hd, if_pos rfl] at HQ HPM
        simp only at HPM
        clear hd
        go_wp2_with fail
        refine (HPM.out _).mono ?_
        rintro e w2 ⟨rfl, hb2⟩
        have hB2 := hb1.trans (hb2.mono hb1.size)
        go_wp2
        go_ret3
        rw [HQ.out]
        exact ⟨_, _, rfl, fun h => absurd h (by decide), by show 0 ≤ _; omega, by show 0 ≤ _; omega, hB2⟩
      | true =>
        have t0 := pres_size (⟨#[49]⟩ ++ b)
        rw [pres_mark b (by omega), hd, if_neg (by decide)] at t0
        rw [hd, if_neg (by decide)] at HQ HPM
        clear hd
        by_cases h4 : 400 ≤ b.size
        · rw [if_pos h4] at HQ HPM
          simp only at HPM
          go_wp2_with fail
          refine (HPM.out _).mono ?_
          rintro e w2 ⟨rfl, hb2⟩
          have hB2 := hb1.trans (hb2.mono hb1.size)
          go_wp2
          go_ret3
          rw [HQ.out]
          exact ⟨_, _, rfl, fun h => absurd h (by decide), by show 0 ≤ _; omega, by show 0 ≤ _; omega, hB2⟩
        · rw [if_neg h4] at HQ HPM
          simp only at HPM
          have hrep := fun V => Tryz.strings_Repeat ⟨#[48]⟩ b.size V (by omega) (by show 1 * _ ≤ _; omega)
          have hz : (repeatL (⟨#[48]⟩ : ByteArray).data.toList b.size) = List.replicate b.size 48 := repeat_zeros _
          rw [hz] at hrep
          have hzs : (⟨(List.replicate b.size (48 : UInt8)).toArray⟩ : ByteArray).size = b.size := by
            show (List.replicate b.size (48 : UInt8)).toArray.size = _
            simp
          have hten := pres_ten ⟨(List.replicate b.size (48 : UInt8)).toArray⟩ b.size rfl (by omega) (by omega)
          have HREP := hide hrep
          have HP2 := hide (fun V => Parse_pres (⟨#[49]⟩ ++ ⟨(List.replicate b.size (48 : UInt8)).toArray⟩) V (by rw [ByteArray.size_append, h1s, hzs]; omega))
          rw [hten] at HP2
          simp only at HP2
          clear hrep hz hten
          have t1 := ten_size b.size
          rw [if_neg h4] at t0
          simp only at t0
          generalize 10 ^ b.size = M at *
          generalize dval b.data.toList = D at *
          have m1 := sz_mul (N xa) M
          have m2 := sz_add (N xa * M) D
          have m3 := sz_mono (show D ≤ M + D by omega)
          have m4 := B_size_le xa
          go_wp2_with fail
          refine (HPM.out _).mono ?_
          rintro e w2 ⟨rfl, hb2⟩
          have hB2 := hb1.trans (hb2.mono hb1.size)
          go_wp2_with fail
          refine (HREP.out _).mono ?_
          rintro e w3 ⟨rfl, hb3⟩
          have hB3 := hB2.trans (hb3.mono hB2.size)
          go_wp2_with fail
          refine (HP2.out _).mono ?_
          rintro e w4 ⟨rfl, hb4⟩
          have hB4 := hB3.trans (hb4.mono hB3.size)
          go_wp2_with fail
          refine (Sub_to D hB4 (by rw [N_B, N_B]) (by omega) (by omega)).mono ?_
          rintro e w5 ⟨rfl, hB5⟩
          go_wp2_with fail
          refine (Mul_to (N xa * M) hB5 (by rw [N_B]) (by omega) (by omega)).mono ?_
          rintro e w6 ⟨rfl, hB6⟩
          go_wp2_with fail
          refine (Add_to (N xa * M + D) hB6 (by rw [N_B, N_B]) (by omega) (by omega)).mono ?_
          rintro e w7 ⟨rfl, hB7⟩
          go_wp2
          go_ret3
          rw [HQ.out]
          exact ⟨_, _, rfl, fun _ => rfl, by omega, by omega, hB7⟩
  · rw [if_pos h1] at HQ
    have h1b : (ea == 0) = false := beq_eq_false_iff_ne.2 h1
    clear HPM
    go_wp2
    go_ret3
    rw [HQ.out]
    exact ⟨_, _, rfl, fun h => absurd h h1, by show 0 ≤ _; omega, by show 0 ≤ _; omega, hb1⟩
set_option maxRecDepth 100000 in
set_option maxHeartbeats 1000000 in
theorem parseSize_any (s : ByteArray) (m : Int) (w : World) (hs : s.size ≤ 100000) (hm : w.cell? ⟨0, 0, none⟩ = some (.int .i64 m)) :
    Calls Tryz.prog 160 #[.string s] w fun e w' => ∃ x y : ByteArray, e = .returned (.tuple #[.string x, .string y, .int .i64 (psz s).1]) ∧ ((psz s).1 = 0 → val false x y = (psz s).2) ∧ x.size ≤ 100000 ∧ y.size ≤ 100000 ∧ Below w.heap.size w w' := by
  have HC1 := hide (Tryz.strings_Cut s ⟨#[47]⟩ m w (by omega) hm)
  have HC2 := hide (fun k => Tryz.strings_Cut s ⟨#[46]⟩ m (w.drewN k) (by omega) hm)
  have HQ : Hid (psz s = if 0 ≤ ix s 47 then pquo (s.extract 0 (ix s 47).toNat) (s.extract ((ix s 47).toNat + 1) s.size)
    else if 0 ≤ ix s 46 then pdec (s.extract 0 (ix s 46).toNat) (s.extract ((ix s 46).toNat + 1) s.size) else pone s) := rfl
  have hx : ∀ i j : Nat, (s.extract i j).size ≤ 100000 := fun i j => by rw [ByteArray.size_extract]; omega
  rcases ix_cases s 47 with h1 | ⟨i, h1, h1'⟩
  · obtain ⟨c1, c2, c3⟩ := cutB_miss s ⟨#[47]⟩ h1
    rw [c1, c2, c3] at HC1
    rw [if_neg (by omega)] at HQ
    clear c1 c2 c3 h1
    rcases ix_cases s 46 with h2 | ⟨i, h2, h2'⟩
    · obtain ⟨c1, c2, c3⟩ := cutB_miss s ⟨#[46]⟩ h2
      rw [c1, c2, c3] at HC2
      rw [if_neg (by omega), pone] at HQ
      clear c1 c2 c3 h2
      have HP := hide (fun V => Parse_pres s V (by omega))
      have sp := pres_size s
      have s1 := B_one_size
      generalize psz s = r at *
      generalize pres s = ps at *
      obtain ⟨xa, ea⟩ := ps
      simp only at HP HQ sp
      go_enter Tryz.func160, Tryz.ntmps160
      go_wp2_with fail
      refine (HC1.out).mono ?_
      rintro e w1 ⟨rfl, n1, hw1⟩
      subst hw1
      go_wp2_with fail
      refine (HC2.out _).mono ?_
      rintro e w2 ⟨rfl, n2, hw2⟩
      subst hw2
      have hB0 : Below w.heap.size w (w.drewN (n1 + n2)) := below_dr (Below.refl _ w) _
      go_wp2_with fail
      refine (under hB0 (HP.out _)).mono ?_
      rintro e w3 ⟨rfl, hB3⟩
      go_wp2_with fail
      refine (Of_to 1 hB3 rfl (by omega)).mono ?_
      rintro e w4 ⟨rfl, hB4⟩
      go_wp2
      go_ret3
      rw [HQ.out]
      by_cases h : ea = 0
      · subst h
        rw [if_neg (by decide)]
        exact ⟨_, _, rfl, fun _ => rfl, by omega, by omega, hB4⟩
      · rw [if_pos h]
        exact ⟨_, _, rfl, fun h' => absurd h' h, by omega, by omega, hB4⟩
    · obtain ⟨c1, c2, c3⟩ := cutB_hit s ⟨#[46]⟩ i h2
      rw [c1, c2, c3] at HC2
      rw [if_pos (by omega), h2, Int.toNat_natCast] at HQ
      rw [show (⟨#[46]⟩ : ByteArray).size = 1 from rfl] at HC2
      clear c1 c2 c3 h2
      have HP := hide (fun V => parseDecimal_any (s.extract 0 i) (s.extract (i + 1) s.size) V (hx _ _) (hx _ _))
      generalize s.extract 0 i = sa at *
      generalize s.extract (i + 1) s.size = sb at *
      rw [← HQ.out] at HP
      go_enter Tryz.func160, Tryz.ntmps160
      go_wp2_with fail
      refine (HC1.out).mono ?_
      rintro e w1 ⟨rfl, n1, hw1⟩
      subst hw1
      go_wp2_with fail
      refine (HC2.out _).mono ?_
      rintro e w2 ⟨rfl, n2, hw2⟩
      subst hw2
      have hB0 : Below w.heap.size w (w.drewN (n1 + n2)) := below_dr (Below.refl _ w) _
      go_wp2_with fail
      refine (HP.out _).mono ?_
      rintro e w3 ⟨x, y, rfl, hv, z1, z2, hb3⟩
      go_wp2
      go_ret3
      exact ⟨_, _, rfl, hv, z1, z2, hB0.trans (hb3.mono hB0.size)⟩
  · obtain ⟨c1, c2, c3⟩ := cutB_hit s ⟨#[47]⟩ i h1
    rw [c1, c2, c3] at HC1
    rw [if_pos (by omega), h1, Int.toNat_natCast] at HQ
    rw [show (⟨#[47]⟩ : ByteArray).size = 1 from rfl] at HC1
    clear c1 c2 c3 h1 HC2
    have HP := hide (fun V => parseQuotient_any (s.extract 0 i) (s.extract (i + 1) s.size) V (hx _ _) (hx _ _))
    generalize s.extract 0 i = sa at *
    generalize s.extract (i + 1) s.size = sb at *
    rw [← HQ.out] at HP
    go_enter Tryz.func160, Tryz.ntmps160
    go_wp2_with fail
    refine (HC1.out).mono ?_
    rintro e w1 ⟨rfl, n1, hw1⟩
    subst hw1
    have hB0 : Below w.heap.size w (w.drewN n1) := below_dr (Below.refl _ w) _
    go_wp2_with fail
    refine (HP.out _).mono ?_
    rintro e w3 ⟨x, y, rfl, hv, z1, z2, hb3⟩
    go_wp2
    go_ret3
    exact ⟨_, _, rfl, hv, z1, z2, hB0.trans (hb3.mono hB0.size)⟩
theorem prefix_cases (s : ByteArray) : (hasPrefix s.data.toList [45] = true ∧ (⟨(trimPrefix s.data.toList [45]).toArray⟩ : ByteArray) = s.extract 1 s.size) ∨ (hasPrefix s.data.toList [45] = false ∧ (⟨(trimPrefix s.data.toList [45]).toArray⟩ : ByteArray) = s) := by
  cases h : hasPrefix s.data.toList [45] with
  | true =>
    refine .inl ⟨rfl, ?_⟩
    rw [trimPrefix, if_pos h]
    apply ByteArray.ext
    apply Array.toList_inj.1
    rw [ByteArray.data_extract, Array.toList_extract]
    simp [List.take_of_length_le]
  | false =>
    refine .inr ⟨rfl, ?_⟩
    rw [trimPrefix, if_neg (by rw [h]; decide)]
set_option maxRecDepth 100000 in
set_option maxHeartbeats 1000000 in
theorem fParse_any (s : ByteArray) (m : Int) (w : World) (hs : s.size ≤ 100000) (hm : w.cell? ⟨0, 0, none⟩ = some (.int .i64 m)) :
    Calls Tryz.prog 125 #[.string s] w fun e w' => e = .returned (.tuple #[fval (fpar s), .int .i64 (fpar s).1]) ∧ Below w.heap.size w w' := by
  have hlt : 0 < w.heap.size := by
    rcases Nat.lt_or_ge 0 w.heap.size with h | h
    · exact h
    · simp [World.cell?, Array.getElem?_eq_none h] at hm
  have HCP := hide (fun V => Tryz.strings_CutPrefix s ⟨#[45]⟩ V)
  rw [show (⟨#[45]⟩ : ByteArray).data.toList = [45] from rfl] at HCP
  obtain ⟨t, neg, ht, HF, HC⟩ : ∃ (t : ByteArray) (neg : Bool), t.size ≤ 100000 ∧ Hid (fpar s = ((psz t).1, if neg = true then -(psz t).2 else (psz t).2)) ∧ Hid (∀ V : World, Calls Tryz.prog 159 #[.string s, .string ⟨#[45]⟩] V fun e w' => e = .returned (.tuple #[.string t, .bool neg]) ∧ w' = V) := by
    rcases prefix_cases s with ⟨h1, h2⟩ | ⟨h1, h2⟩
    · refine ⟨s.extract 1 s.size, true, by rw [ByteArray.size_extract]; omega, ?_, ?_⟩
      · show _ = _
        rw [fpar, if_pos h1]; rfl
      · rw [h1, h2] at HCP; exact HCP
    · refine ⟨s, false, hs, ?_, ?_⟩
      · show _ = _
        rw [fpar, if_neg (by rw [h1]; decide)]; rfl
      · rw [h1, h2] at HCP; exact HCP
  rw [HF.out]
  have HS := hide (fun (V : World) (h : V.cell? ⟨0, 0, none⟩ = some (.int .i64 m)) => parseSize_any t m V ht h)
  clear HF HCP
  generalize psz t = r at *
  obtain ⟨re, rq⟩ := r
  simp only at HS
  have HV : Hid (∀ q, fval (re, q) = if re = 0 then C q else .agg #[.bool false, .string ⟨#[]⟩, .string ⟨#[]⟩]) := fun q => rfl
  rw [HV.out]
  clear HV
  have HN : Hid (∀ x y, val false x y = rq → val neg x y = if neg = true then -rq else rq) := fun x y h => by
    cases neg
    · exact h
    · show val (!false) x y = _
      rw [val_not, h]; rfl
  generalize (if neg = true then -rq else rq) = q2 at *
  go_enter Tryz.func125, Tryz.ntmps125
  have hbx := Box.at (w := w) rfl false ⟨#[]⟩ ⟨#[]⟩
  have hB0 : Below w.heap.size w (w.alloc (FC false ⟨#[]⟩ ⟨#[]⟩)) := (Below.refl _ w).alloc (Nat.le_refl _) _
  have HM := hide ((hB0.cell (p := ⟨0, 0, none⟩) hlt).trans hm)
  clear hm
  go_wp2_with fail
  refine (HC.out _).mono ?_
  rintro e w1 ⟨rfl, hw1⟩
  subst hw1
  go_wp2_with fail
  refine (HS.out _ HM.out).mono ?_
  rintro e w2 ⟨x, y, rfl, hv, z1, z2, hb2⟩
  have hx2 := hbx.below hb2 hbx.lt
  have hB2 := hB0.trans (hb2.mono hB0.size)
  have HV := hide hv
  clear hv hbx hB0 hb2 HM
  by_cases h0 : re = 0
  · subst h0
    have HV2 := hide (HN.out x y (HV.out rfl))
    go_wp2_with fail
    refine (Make_any neg x y _ (by omega) (by omega)).mono ?_
    rintro e w3 ⟨rfl, hb3⟩
    have hx3 := hx2.below hb3 hx2.lt
    have hB3 := hB2.trans (hb3.mono hB2.size)
    obtain ⟨k0, k1, k2, f0, f1, f2⟩ := hx3.facts
    rw [HV2.out, C_eq]
    go_wp2
    refine bodyPost_ret ((hx3.put _ _ _).result2 rfl _ rfl) rfl ?_
    exact ⟨rfl, below_put hB3 (by omega) _ _ _⟩
  · have h0b : (re == 0) = false := beq_eq_false_iff_ne.2 h0
    obtain ⟨k0, k1, k2, f0, f1, f2⟩ := hx2.facts
    go_wp2
    refine bodyPost_ret ((hx2.put _ _ _).result2 rfl _ rfl) rfl ?_
    exact ⟨rfl, below_put hB2 (by omega) _ _ _⟩
end Go.Proofs.YtojidhnkpeiimaaGreatDoor
