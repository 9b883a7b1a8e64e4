/- The law's own connected (GraphTrees). -/
import Derived.Test.YtpjgnjdekepbdaaLnkAToTreG
import Derived.Test.YtpjgnjdekepbdaaOrdDToOrdE
import Derived.Test.YtpjgnjdekepbdaaAsgAToTabT
import Derived.Laws.EntriesVeiled
import Derived.Test.YtpjgnjdekepbdaaSliBToSetD
import Derived.Shelf.Slices.CompactI
namespace Go.Proofs.Ytpjgnjdekepbdaa
open Go.RowKit Go.Shelf

theorem nodup_len : ∀ {l m : List Nat}, l.Nodup → (∀ x ∈ l, x ∈ m) → l.length ≤ m.length
  | [], _, _, _ => Nat.zero_le _
  | a :: l, m, hn, hs => by
    have ha : a ∈ m := hs a (List.mem_cons_self ..)
    have h1 := List.nodup_cons.1 hn
    have := nodup_len (l := l) (m := m.erase a) h1.2 (fun x hx => (List.mem_erase_of_ne (fun e => h1.1 (by rw [← e]; exact hx))).2 (hs x (List.mem_cons_of_mem _ hx)))
    rw [List.length_erase_of_mem ha] at this
    have hp := List.length_pos_of_mem ha
    show l.length + 1 ≤ m.length
    omega
/-- The other end of a link at c. -/
def oth (c : Nat) (p : Nat × Nat × List Int) : Option Nat := if p.2.1 = c then some p.1 else if p.1 = c then some p.2.1 else none
/-- A clique that has v (where v is under 0, each one). -/
def hsV (K : List (List Int)) (v : Int) (k : Nat) : Bool := decide (v < 0) || inB v (K.getD k [])
def witL (K : List (List Int)) (v : Int) (k : Nat) : List Nat := (List.range k).filter (hsV K v)
theorem witL_yes {K : List (List Int)} {v : Int} {k : Nat} (h : hsV K v k = true) : witL K v (k + 1) = witL K v k ++ [k] := by rw [witL, List.range_succ, List.filter_append, witL]; simp [h]
theorem witL_no {K : List (List Int)} {v : Int} {k : Nat} (h : hsV K v k = false) : witL K v (k + 1) = witL K v k := by rw [witL, List.range_succ, List.filter_append, witL]; simp [h]
theorem witL_len (K : List (List Int)) (v : Int) (k : Nat) : (witL K v k).length ≤ k := by
  have := List.length_filter_le (hsV K v) (List.range k)
  rwa [List.length_range] at this
theorem witL_nodup (K : List (List Int)) (v : Int) (k : Nat) : (witL K v k).Nodup := List.Pairwise.filter _ List.nodup_range
structure CnI (wit : List Nat) (M : List (Nat × Nat × List Int)) (f : Nat) (l : List Nat) (i : Nat) : Prop where
  nd : l.Nodup
  sub : ∀ x ∈ l, x ∈ wit
  fst : f ∈ l
  done : ∀ j x, j < i → l[j]? = some x → ∀ p ∈ M, ∀ b, oth x p = some b → b ∈ wit → b ∈ l
structure CnK (wit : List Nat) (M : List (Nat × Nat × List Int)) (f : Nat) (l : List Nat) (i c k : Nat) : Prop where
  base : CnI wit M f l i
  here : l[i]? = some c
  sofar : ∀ k' p, k' < k → M[k']? = some p → ∀ b, oth c p = some b → b ∈ wit → b ∈ l
theorem CnI.len {wit : List Nat} {M : List (Nat × Nat × List Int)} {f : Nat} {l : List Nat} {i : Nat} (h : CnI wit M f l i) : l.length ≤ wit.length := nodup_len h.nd h.sub
theorem CnI.start {wit : List Nat} {M : List (Nat × Nat × List Int)} {f : Nat} (hf : f ∈ wit) : CnI wit M f [f] 0 := ⟨by simp, fun x hx => by rw [List.mem_singleton.1 hx]; exact hf, by simp, fun j _ hj => absurd hj (by omega)⟩
theorem CnK.start {wit : List Nat} {M : List (Nat × Nat × List Int)} {f : Nat} {l : List Nat} {i c : Nat} (h : CnI wit M f l i) (hc : l[i]? = some c) : CnK wit M f l i c 0 := ⟨h, hc, fun k' _ hk => absurd hk (by omega)⟩
theorem CnK.skip {wit : List Nat} {M : List (Nat × Nat × List Int)} {f : Nat} {l : List Nat} {i c k : Nat} (h : CnK wit M f l i c k) {p : Nat × Nat × List Int} (hp : M[k]? = some p) (hs : ∀ b, oth c p = some b → b ∈ wit → b ∈ l) : CnK wit M f l i c (k + 1) := ⟨h.base, h.here, fun k' p' hk hp' => by
  rcases Nat.lt_or_eq_of_le (Nat.le_of_lt_succ hk) with h1 | rfl
  · exact h.sofar k' p' h1 hp'
  · rw [hp] at hp'
    cases hp'
    exact hs⟩
theorem CnK.push {wit : List Nat} {M : List (Nat × Nat × List Int)} {f : Nat} {l : List Nat} {i c k : Nat} (h : CnK wit M f l i c k) {p : Nat × Nat × List Int} (hp : M[k]? = some p) {b : Nat} (hb : oth c p = some b) (hw : b ∈ wit) (hn : ¬ b ∈ l) : CnK wit M f (l ++ [b]) i c (k + 1) := by
  have hil : i < l.length := (List.getElem?_eq_some_iff.1 h.here).1
  refine ⟨⟨?_, ?_, List.mem_append_left _ h.base.fst, ?_⟩, ?_, ?_⟩
  · rw [List.nodup_append]
    exact ⟨h.base.nd, by simp, fun x hx y hy e => hn (by rw [List.mem_singleton.1 hy] at e; rw [← e]; exact hx)⟩
  · intro x hx
    rcases List.mem_append.1 hx with hx | hx
    · exact h.base.sub x hx
    · rw [List.mem_singleton.1 hx]; exact hw
  · intro j x hj hx p' hp' b' hb' hw'
    rw [List.getElem?_append_left (by omega)] at hx
    exact List.mem_append_left _ (h.base.done j x hj hx p' hp' b' hb' hw')
  · rw [List.getElem?_append_left hil]
    exact h.here
  · intro k' p' hk hp' b' hb' hw'
    rcases Nat.lt_or_eq_of_le (Nat.le_of_lt_succ hk) with h1 | rfl
    · exact List.mem_append_left _ (h.sofar k' p' h1 hp' b' hb' hw')
    · rw [hp] at hp'
      cases hp'
      rw [hb] at hb'
      cases hb'
      simp
theorem CnK.fin {wit : List Nat} {M : List (Nat × Nat × List Int)} {f : Nat} {l : List Nat} {i c : Nat} (h : CnK wit M f l i c M.length) : CnI wit M f l (i + 1) := ⟨h.base.nd, h.base.sub, h.base.fst, fun j x hj hx p hp b hb hw => by
  rcases Nat.lt_or_eq_of_le (Nat.le_of_lt_succ hj) with h1 | rfl
  · exact h.base.done j x h1 hx p hp b hb hw
  · rw [h.here] at hx
    cases hx
    obtain ⟨k, hk, rfl⟩ := List.getElem_of_mem hp
    exact h.sofar k _ hk (List.getElem?_eq_getElem hk) b hb hw⟩
theorem CnI.fin {wit : List Nat} {M : List (Nat × Nat × List Int)} {f : Nat} {l : List Nat} (h : CnI wit M f l l.length) (hd : wit.Nodup) (hcl : ∀ S : Nat → Prop, S f → (∀ x, S x → ∀ p ∈ M, ∀ b, oth x p = some b → b ∈ wit → S b) → ∀ x ∈ wit, S x) : l.length = wit.length :=
  Nat.le_antisymm h.len (nodup_len hd (hcl (· ∈ l) h.fst (fun x hx p hp b hb hw => by
    obtain ⟨j, hj, rfl⟩ := List.getElem_of_mem hx
    exact h.done j _ hj (List.getElem?_eq_getElem hj) p hp b hb hw)))

set_option maxRecDepth 100000 in
set_option maxHeartbeats 4000000 in
theorem connected_any (a : Option Addr) (ca : Nat) (K : List (List Int)) (d : Option Addr) (cd : Nat) (M : List (Nat × Nat × List Int)) (v : Int) (w : World) (hK : LsS w a K) (hK8 : K.length ≤ 8) (hKl : ∀ l ∈ K, l.length ≤ 1000) (hM : LnS w d M) (hM8 : M.length ≤ 8)
    (hw : 0 < (witL K v K.length).length) (hcl : ∀ S : Nat → Prop, S ((witL K v K.length).getD 0 0) → (∀ x, S x → ∀ p ∈ M, ∀ b, oth x p = some b → b ∈ witL K v K.length → S b) → ∀ x ∈ witL K v K.length, S x) :
    Calls Try.prog 26 #[.slice a K.length ca, .slice d M.length cd, .int .i64 v] w fun e w' => e = .returned (.bool true) ∧ Below w.heap.size w w' := by
  have HK := hid hK
  have HM := hid hM
  have HKL := hid hKl
  have HW := hid hw
  have HCL := hid hcl
  have HIN := hid (fun (x : Int) (a' : Option Addr) (c' : Nat) (l : List Int) (U : World) (hi : IntS U a' l) (hn : l.length ≤ 1000) => rIn_any x a' c' l U hi (by omega))
  have HYS := hid (fun k h => witL_yes (K := K) (v := v) (k := k) h)
  have HNO := hid (fun k h => witL_no (K := K) (v := v) (k := k) h)
  have HLN := hid (fun k => witL_len K v k)
  have HND := hid (witL_nodup K v K.length)
  have hW0 : witL K v 0 = [] := rfl
  have HHS : Hid (∀ k, hsV K v k = (decide (v < 0) || inB v (K.getD k []))) := fun _ => rfl
  generalize witL K v = F at *
  generalize hsV K v = hs at *
  clear hK hM hKl hw hcl
  go_enter Try.func26, Try.ntmps26
  go_wp2_with fail
  go_loopw [7, 8] (fun wv kv wr => ∃ k : Nat, k ≤ K.length ∧ kv = .int .i64 k ∧ (∃ dw cw, wv = .slice dw (F k).length cw) ∧ Hid (RwI wr w.heap.size wv (iL (F k))) ∧ Hid (Below w.heap.size w wr)) (fun _ kv _ => K.length - (intOf kv).toNat)
  case atStart => exact ⟨0, Nat.zero_le _, rfl, ⟨none, 0, by rw [hW0]; rfl⟩, by rw [hW0]; exact ⟨rfl, .inl ⟨rfl, rfl⟩⟩, Below.refl _ _⟩
  case round =>
    obtain ⟨k, hk, rfl, ⟨dw, cw, rfl⟩, HR, HB⟩ := hrel
    by_cases hlt : k < K.length
    · obtain ⟨g, o, bk, ck, rfl, hg, c0, hI⟩ := (HK.out.below HB.out) k hlt
      have hkl := HKL.out _ (List.getElem_mem hlt)
      have HHk := hid (HHS.out k)
      have HIK := hid (HIN.out v bk ck _ wr hI hkl)
      have HYk := hid (HYS.out k)
      have HNk := hid (HNO.out k)
      have hln := HLN.out k
      rw [List.getD_eq_getElem?_getD, List.getElem?_eq_getElem hlt, Option.getD_some] at HHk
      have HOWN := hid HR.out.own
      have HRA : Hid (RwI (wr.alloc (.cells #[.int .i64 (k : Nat)] 3)) w.heap.size _ (iL (F k))) := World.ownsRow.alloc HR.out _
      have HBA := hid (HB.out.alloc HB.out.size (.cells #[.int .i64 (k : Nat)] 3))
      have HIA := hid (one_int wr (k : Nat))
      have HLE : Hid ((iL (F k)).length ≤ 8) := by show (iL (F k)).length ≤ 8; rw [iL_length]; omega
      generalize K[k] = lk at *
      generalize hqi : inB v lk = qi at *
      clear hI hqi hW0
      by_cases hv : v < 0
      · have hvd : decide (v < 0) = true := decide_eq_true hv
        have hS := HYk.out (by rw [HHk.out]; rw [hvd]; rfl)
        have HIL : Hid (iL (F (k + 1)) = iL (F k) ++ [(k : Int)]) := by show _ = _; rw [hS, iL_append]; rfl
        clear HHk HYk HNk hS
        go_wp2_with (first | (go_at_call 25; refine HIK.out.mono ?_; rintro e w' ⟨rfl, hw'⟩; have hw2 := hw'.symm; subst hw2) | (at_builtin; refine wpList_append_ints rfl _ _ rfl w.heap.size _ (iL (F k)) [((k : Nat) : Int)] rfl HRA.out (some ⟨wr.heap.size, 0, none⟩) 1 rfl HIA.out (fun e => by cases e) (by have := HLE.out; simp; omega) HBA.out.size ?_; intro v' w5 hr5 hg5))
        have hr6 := hr5
        rw [← HIL.out] at hr6
        obtain ⟨d5, cd5, rfl, _⟩ := hr6.ints
        rw [iL_length]
        rw [iL_length] at hr6
        have HR5 := hid hr6
        have HB5 := hid (HBA.out.grown hg5 HBA.out.size HOWN.out)
        clear hr5 hr6 hg5
        go_wp2
        go_roundw
        case rel => exact ⟨k + 1, by omega, by go_num, ⟨d5, cd5, rfl⟩, HR5, HB5⟩
        case measure => simp [intOf]; omega
      · have hvd : decide (v < 0) = false := decide_eq_false hv
        cases qi
        · have hS := HNk.out (by rw [HHk.out, hvd]; rfl)
          clear HHk HYk HNk HRA HBA HIA
          go_wp2_with (go_at_call 25; refine HIK.out.mono ?_; rintro e w' ⟨rfl, hw'⟩; have hw2 := hw'.symm; subst hw2)
          go_wp2
          go_roundw
          case rel => exact ⟨k + 1, by omega, by go_num, ⟨dw, cw, by rw [hS]⟩, by rw [hS]; exact HR, HB⟩
          case measure => simp [intOf]; omega
        · have hS := HYk.out (by rw [HHk.out]; rw [hvd]; rfl)
          have HIL : Hid (iL (F (k + 1)) = iL (F k) ++ [(k : Int)]) := by show _ = _; rw [hS, iL_append]; rfl
          clear HHk HYk HNk hS
          go_wp2_with (first | (go_at_call 25; refine HIK.out.mono ?_; rintro e w' ⟨rfl, hw'⟩; have hw2 := hw'.symm; subst hw2) | (at_builtin; refine wpList_append_ints rfl _ _ rfl w.heap.size _ (iL (F k)) [((k : Nat) : Int)] rfl HRA.out (some ⟨wr.heap.size, 0, none⟩) 1 rfl HIA.out (fun e => by cases e) (by have := HLE.out; simp; omega) HBA.out.size ?_; intro v' w5 hr5 hg5))
          have hr6 := hr5
          rw [← HIL.out] at hr6
          obtain ⟨d5, cd5, rfl, _⟩ := hr6.ints
          rw [iL_length]
          rw [iL_length] at hr6
          have HR5 := hid hr6
          have HB5 := hid (HBA.out.grown hg5 HBA.out.size HOWN.out)
          clear hr5 hr6 hg5
          go_wp2
          go_roundw
          case rel => exact ⟨k + 1, by omega, by go_num, ⟨d5, cd5, rfl⟩, HR5, HB5⟩
          case measure => simp [intOf]; omega
    · obtain rfl : k = K.length := by omega
      have hwl := HW.out
      have hw8 := HLN.out K.length
      obtain ⟨dw', cw', e', hIW⟩ := HR.out.ints
      obtain ⟨rfl, -, rfl⟩ : dw = dw' ∧ (F K.length).length = (iL (F K.length)).length ∧ cw = cw' := by injection e' with e1 e2 e3; exact ⟨e1, e2, e3⟩
      clear e'
      have HIW : Hid (∀ (x : Nat) (V : World), Below wr.heap.size wr V → Calls Try.prog 25 #[.int .i64 (x : Nat), .slice dw (F K.length).length cw] V fun e w' => e = .returned (.bool (decide (x ∈ F K.length))) ∧ w' = V) := fun x V hb => by
        have := HIN.out (x : Nat) dw cw (iL (F K.length)) V (hIW.below hb) (by rw [iL_length]; omega)
        rwa [iL_length, inB_iL _ (by omega), Int.toNat_natCast] at this
      have HIL : Hid (∀ (x : Nat) (l : List Nat) (dl : Option Addr) (cl : Nat) (V : World), IntS V dl (iL l) → l.length ≤ 8 → Calls Try.prog 25 #[.int .i64 (x : Nat), .slice dl l.length cl] V fun e w' => e = .returned (.bool (decide (x ∈ l))) ∧ w' = V) := fun x l dl cl V hi h8 => by
        have := HIN.out (x : Nat) dl cl (iL l) V hi (by rw [iL_length]; omega)
        rwa [iL_length, inB_iL _ (by omega), Int.toNat_natCast] at this
      obtain ⟨g0, o0, hd0, hg0, c0⟩ := hIW 0 (by rw [iL_length]; exact hwl)
      have ef : (iL (F K.length))[0]'(by rw [iL_length]; exact hwl) = (((F K.length).getD 0 0 : Nat) : Int) := by
        rw [List.getD_eq_getElem?_getD, List.getElem?_eq_getElem hwl]
        simp [iL]
      rw [ef, Nat.add_zero] at c0
      have HFI : Hid ((F K.length).getD 0 0 ∈ F K.length) := by
        show (F K.length).getD 0 0 ∈ F K.length
        rw [List.getD_eq_getElem?_getD, List.getElem?_eq_getElem hwl]
        exact List.getElem_mem hwl
      have HC := HCL
      have HST := hid (CnI.start (M := M) HFI.out)
      generalize (F K.length).getD 0 0 = f at *
      have HIW2 := hid hIW
      have HWN := hid HND.out
      generalize F K.length = wit at *
      have HR1 : Hid (RwI (wr.alloc (.cells #[.int .i64 (f : Nat)] 3)) wr.heap.size (.slice (some ⟨wr.heap.size, 0, none⟩) 1 1) (iL [f])) := ⟨rfl, .inr ⟨wr.heap.size, 1, #[.int .i64 (f : Nat)], rfl, Nat.le_refl _, heap_alloc_new wr _, Nat.le_refl _, by unfold maxLen; omega, by simp, by simp [iL]⟩⟩
      have HB1 : Hid (Below wr.heap.size wr (wr.alloc (.cells #[.int .i64 (f : Nat)] 3))) := (Below.refl _ wr).alloc (Nat.le_refl _) _
      have hz : ((((wit.length : Nat) : Int)) == 0) = false := beq_eq_false_iff_ne.2 (by omega)
      subst hd0
      clear hIW ef HCL HYS HNO HLN HHS HND HFI HR hW0 HIN HK HKL HW
      generalize wr = W1 at *
      go_wp2_with fail
      go_loopw [9, 10] (fun lv iv wq => ∃ (l : List Nat) (i : Nat), i ≤ l.length ∧ iv = .int .i64 i ∧ (∃ dl cl, lv = .slice dl l.length cl) ∧ Hid (RwI wq W1.heap.size lv (iL l)) ∧ Hid (Below W1.heap.size W1 wq) ∧ Hid (CnI wit M f l i)) (fun _ iv _ => wit.length - (intOf iv).toNat)
      case atStart => exact ⟨[f], 0, Nat.zero_le _, rfl, ⟨_, _, rfl⟩, HR1, HB1, HST⟩
      case round =>
        obtain ⟨l, i, hi, rfl, ⟨dl, cl, rfl⟩, HR, HBq, HC0⟩ := hrel
        have hll := HC0.out.len
        clear HR1 HB1 HST
        by_cases hil : i < l.length
        · obtain ⟨c, hc⟩ : ∃ c, l[i]? = some c := ⟨_, List.getElem?_eq_getElem hil⟩
          have HS0 := hid (CnK.start HC0.out hc)
          clear hc HC0
          go_wp2_with fail
          go_loopw [9, 11] (fun lv kv wq => ∃ (l : List Nat) (k : Nat), k ≤ M.length ∧ i < l.length ∧ kv = .int .i64 k ∧ (∃ dl cl, lv = .slice dl l.length cl) ∧ Hid (RwI wq W1.heap.size lv (iL l)) ∧ Hid (Below W1.heap.size W1 wq) ∧ Hid (CnK wit M f l i c k)) (fun _ kv _ => M.length - (intOf kv).toNat)
          case atStart => exact ⟨l, 0, Nat.zero_le _, hil, rfl, ⟨_, _, rfl⟩, HR, HBq, HS0⟩
          case round =>
            clear HR HBq HS0 hil hll
            obtain ⟨l, k, hk, hil, rfl, ⟨dl, cl, rfl⟩, HR, HBq, HCK⟩ := hrel
            by_cases hlk : k < M.length
            · obtain ⟨g, dd, cdd, hdd, hg, m0, m1, -, -⟩ := (HM.out.below (HB.out.trans (HBq.out.mono HB.out.size))) k hlk
              have hp : M[k]? = some M[k] := List.getElem?_eq_getElem hlk
              have HSK := hid (HCK.out.skip hp)
              have HPU := hid (fun b h1 h2 h3 => HCK.out.push (b := b) hp h1 h2 h3)
              have HOT : Hid (oth c M[k] = if M[k].2.1 = c then some M[k].1 else if M[k].1 = c then some M[k].2.1 else none) := rfl
              have hlw := HCK.out.base.len
              have hIl : IntS wr dl (iL l) := by
                obtain ⟨d', cd', e, hi⟩ := HR.out.ints
                injection e with e1 e2 e3
                subst e1
                exact hi
              obtain ⟨gl, ol, hdl, hgl, cl0⟩ := hIl i (by rw [iL_length]; exact hil)
              have ec : (iL l)[i]'(by rw [iL_length]; exact hil) = (c : Int) := by
                have h1 := HCK.out.here
                rw [List.getElem?_eq_getElem hil] at h1
                have h2 := Option.some.inj h1
                simp [iL, h2]
              rw [ec] at cl0
              have HIB := hid (fun b : Nat => HIL.out b l dl cl wr hIl (by omega))
              have HWB := hid (fun b : Nat => HIW.out b wr HBq.out)
              generalize M[k] = p at *
              generalize p.1 = A at *
              generalize p.2.1 = Bq at *
              subst hdd hdl
              clear hp ec HCK hIl HIL HIW HC HIW2
              by_cases hb : Bq = c
              · subst hb
                have hot : oth Bq p = some A := by rw [HOT.out, if_pos rfl]
                have HI1 := hid (HWB.out A)
                have HI2 := hid (HIB.out A)
                clear HWB HIB HOT
                by_cases hin : A ∈ wit
                · rw [decide_eq_true hin] at HI1
                  by_cases hil2 : A ∈ l
                  · rw [decide_eq_true hil2] at HI2
                    have HN := hid (HSK.out (fun b' hb' hw' => by rw [hot] at hb'; cases hb'; exact hil2))
                    clear HSK HPU
                    go_wp2_with (go_at_call 25; first | (refine HI1.out.mono ?_; clear HI1; rintro e w' ⟨rfl, hw'⟩; have hw2 := hw'.symm; subst hw2) | (refine HI2.out.mono ?_; rintro e w' ⟨rfl, hw'⟩; have hw2 := hw'.symm; subst hw2))
                    go_wp2
                    go_roundw
                    case rel => exact ⟨l, k + 1, by omega, hil, by go_num, ⟨_, _, rfl⟩, HR, HBq, HN⟩
                    case measure => simp [intOf]; omega
                  · rw [decide_eq_false hil2] at HI2
                    have HN := hid (HPU.out A hot hin hil2)
                    have HIL2 : Hid (iL (l ++ [A]) = iL l ++ [(A : Int)]) := by show _ = _; rw [iL_append]; rfl
                    have HOWN := hid HR.out.own
                    have HRA : Hid (RwI (wr.alloc (.cells #[.int .i64 (A : Nat)] 3)) W1.heap.size _ (iL l)) := World.ownsRow.alloc HR.out _
                    have HBA := hid (HBq.out.alloc HBq.out.size (.cells #[.int .i64 (A : Nat)] 3))
                    have HIA := hid (one_int wr (A : Nat))
                    clear HSK HPU hin hil2
                    go_wp2_with (first | (go_at_call 25; first | (refine HI1.out.mono ?_; clear HI1; rintro e w' ⟨rfl, hw'⟩; have hw2 := hw'.symm; subst hw2) | (refine HI2.out.mono ?_; rintro e w' ⟨rfl, hw'⟩; have hw2 := hw'.symm; subst hw2)) | (at_builtin; refine wpList_append_ints rfl _ _ rfl W1.heap.size _ (iL l) [((A : Nat) : Int)] rfl HRA.out (some ⟨wr.heap.size, 0, none⟩) 1 rfl HIA.out (fun e => by cases e) (by rw [iL_length]; simp; omega) HBA.out.size ?_; intro v' w5 hr5 hg5))
                    have hr6 := hr5
                    rw [← HIL2.out] at hr6
                    obtain ⟨d5, cd5, rfl, _⟩ := hr6.ints
                    rw [iL_length]
                    rw [iL_length] at hr6
                    have HR5 := hid hr6
                    have HB5 := hid (HBA.out.grown hg5 HBA.out.size HOWN.out)
                    clear hr5 hr6 hg5
                    go_wp2
                    go_roundw
                    case rel => exact ⟨l ++ [A], k + 1, by omega, by rw [List.length_append]; omega, by go_num, ⟨d5, cd5, rfl⟩, HR5, HB5, HN⟩
                    case measure => simp [intOf]; omega
                · rw [decide_eq_false hin] at HI1
                  have HN := hid (HSK.out (fun b' hb' hw' => by rw [hot] at hb'; cases hb'; exact absurd hw' hin))
                  clear HSK HPU
                  go_wp2_with (go_at_call 25; first | (refine HI1.out.mono ?_; clear HI1; rintro e w' ⟨rfl, hw'⟩; have hw2 := hw'.symm; subst hw2) | (refine HI2.out.mono ?_; rintro e w' ⟨rfl, hw'⟩; have hw2 := hw'.symm; subst hw2))
                  go_wp2
                  go_roundw
                  case rel => exact ⟨l, k + 1, by omega, hil, by go_num, ⟨_, _, rfl⟩, HR, HBq, HN⟩
                  case measure => simp [intOf]; omega
              · have hbi : (((Bq : Nat) : Int) == ((c : Nat) : Int)) = false := beq_eq_false_iff_ne.2 (by omega)
                by_cases ha : A = c
                · subst ha
                  have hot : oth A p = some Bq := by rw [HOT.out, if_neg hb, if_pos rfl]
                  have HI1 := hid (HWB.out Bq)
                  have HI2 := hid (HIB.out Bq)
                  clear HWB HIB HOT
                  by_cases hin : Bq ∈ wit
                  · rw [decide_eq_true hin] at HI1
                    by_cases hil2 : Bq ∈ l
                    · rw [decide_eq_true hil2] at HI2
                      have HN := hid (HSK.out (fun b' hb' hw' => by rw [hot] at hb'; cases hb'; exact hil2))
                      clear HSK HPU
                      go_wp2_with (go_at_call 25; first | (refine HI1.out.mono ?_; clear HI1; rintro e w' ⟨rfl, hw'⟩; have hw2 := hw'.symm; subst hw2) | (refine HI2.out.mono ?_; rintro e w' ⟨rfl, hw'⟩; have hw2 := hw'.symm; subst hw2))
                      go_wp2
                      go_roundw
                      case rel => exact ⟨l, k + 1, by omega, hil, by go_num, ⟨_, _, rfl⟩, HR, HBq, HN⟩
                      case measure => simp [intOf]; omega
                    · rw [decide_eq_false hil2] at HI2
                      have HN := hid (HPU.out Bq hot hin hil2)
                      have HIL2 : Hid (iL (l ++ [Bq]) = iL l ++ [(Bq : Int)]) := by show _ = _; rw [iL_append]; rfl
                      have HOWN := hid HR.out.own
                      have HRA : Hid (RwI (wr.alloc (.cells #[.int .i64 (Bq : Nat)] 3)) W1.heap.size _ (iL l)) := World.ownsRow.alloc HR.out _
                      have HBA := hid (HBq.out.alloc HBq.out.size (.cells #[.int .i64 (Bq : Nat)] 3))
                      have HIA := hid (one_int wr (Bq : Nat))
                      clear HSK HPU hin hil2
                      go_wp2_with (first | (go_at_call 25; first | (refine HI1.out.mono ?_; clear HI1; rintro e w' ⟨rfl, hw'⟩; have hw2 := hw'.symm; subst hw2) | (refine HI2.out.mono ?_; rintro e w' ⟨rfl, hw'⟩; have hw2 := hw'.symm; subst hw2)) | (at_builtin; refine wpList_append_ints rfl _ _ rfl W1.heap.size _ (iL l) [((Bq : Nat) : Int)] rfl HRA.out (some ⟨wr.heap.size, 0, none⟩) 1 rfl HIA.out (fun e => by cases e) (by rw [iL_length]; simp; omega) HBA.out.size ?_; intro v' w5 hr5 hg5))
                      have hr6 := hr5
                      rw [← HIL2.out] at hr6
                      obtain ⟨d5, cd5, rfl, _⟩ := hr6.ints
                      rw [iL_length]
                      rw [iL_length] at hr6
                      have HR5 := hid hr6
                      have HB5 := hid (HBA.out.grown hg5 HBA.out.size HOWN.out)
                      clear hr5 hr6 hg5
                      go_wp2
                      go_roundw
                      case rel => exact ⟨l ++ [Bq], k + 1, by omega, by rw [List.length_append]; omega, by go_num, ⟨d5, cd5, rfl⟩, HR5, HB5, HN⟩
                      case measure => simp [intOf]; omega
                  · rw [decide_eq_false hin] at HI1
                    have HN := hid (HSK.out (fun b' hb' hw' => by rw [hot] at hb'; cases hb'; exact absurd hw' hin))
                    clear HSK HPU
                    go_wp2_with (go_at_call 25; first | (refine HI1.out.mono ?_; clear HI1; rintro e w' ⟨rfl, hw'⟩; have hw2 := hw'.symm; subst hw2) | (refine HI2.out.mono ?_; rintro e w' ⟨rfl, hw'⟩; have hw2 := hw'.symm; subst hw2))
                    go_wp2
                    go_roundw
                    case rel => exact ⟨l, k + 1, by omega, hil, by go_num, ⟨_, _, rfl⟩, HR, HBq, HN⟩
                    case measure => simp [intOf]; omega
                · have hai : (((A : Nat) : Int) == ((c : Nat) : Int)) = false := beq_eq_false_iff_ne.2 (by omega)
                  have hot : oth c p = none := by rw [HOT.out, if_neg hb, if_neg ha]
                  have HI1 := hid (HWB.out Bq)
                  have HI2 := hid (HIB.out Bq)
                  clear HWB HIB HOT
                  have HN := hid (HSK.out (fun b' hb' hw' => by rw [hot] at hb'; cases hb'))
                  clear HSK HPU
                  go_wp2_with (go_at_call 25; first | (refine HI1.out.mono ?_; clear HI1; rintro e w' ⟨rfl, hw'⟩; have hw2 := hw'.symm; subst hw2) | (refine HI2.out.mono ?_; rintro e w' ⟨rfl, hw'⟩; have hw2 := hw'.symm; subst hw2))
                  go_wp2
                  go_roundw
                  case rel => exact ⟨l, k + 1, by omega, hil, by go_num, ⟨_, _, rfl⟩, HR, HBq, HN⟩
                  case measure => simp [intOf]; omega
            · obtain rfl : k = M.length := by omega
              have HFI := hid HCK.out.fin
              have hlw := HCK.out.base.len
              clear HCK
              go_wp2
              go_roundw
              case rel => exact ⟨l, i + 1, by omega, by go_num, ⟨dl, cl, rfl⟩, HR, HBq, HFI⟩
              case measure => simp [intOf]; omega
        · obtain rfl : i = l.length := by omega
          have hE := HC0.out.fin HWN.out HC.out
          rw [hE]
          clear hE HC0
          go_wp2
          go_ret
          exact ⟨by simp, HB.out.trans (HBq.out.mono HB.out.size)⟩
end Go.Proofs.Ytpjgnjdekepbdaa


/- Package table: the closures of Fix and Out. -/
namespace Go.Proofs.Ytpjgnjdekepbdaa
open Go.RowKit Go.Shelf

end Go.Proofs.Ytpjgnjdekepbdaa


/- Package table: Fix. -/
namespace Go.Proofs.Ytpjgnjdekepbdaa
open Go.RowKit Go.Shelf

theorem up_iff {l : List Int} {n : Nat} : Up l n ↔ (∀ x ∈ l, 0 ≤ x ∧ x < n) ∧ l.Pairwise (· < ·) := by
  constructor
  · intro h
    refine ⟨fun x hx => ?_, List.pairwise_iff_getElem.2 fun i j hi hj hij => h.lt i j hj hij⟩
    obtain ⟨i, hi, rfl⟩ := List.getElem_of_mem hx
    exact h.each i hi
  · rintro ⟨h1, h2⟩
    exact ⟨fun i hi => h1 _ (List.getElem_mem hi), fun i j hj hi => List.pairwise_iff_getElem.1 h2 i j (by omega) hj hi⟩
theorem lessN_up {vars : List Int} {n : Nat} (h : Up vars n) (v : Int) : Up (lessN vars v) n := by
  rw [up_iff] at h ⊢
  exact ⟨fun x hx => h.1 x (List.mem_filter.1 hx).1, h.2.filter _⟩
theorem lessN_out {vars : List Int} {n v : Nat} (h : Up vars n) : ¬ v ∈ toN (lessN vars (v : Int)) := fun hm => by
  obtain ⟨x, hx, e⟩ := List.mem_map.1 hm
  have h1 := (up_iff.1 (lessN_up h v)).1 x hx
  have h2 := (List.mem_filter.1 hx).2
  simp at h2
  omega
theorem fixL_length (S vars rest : List Nat) (v x : Nat) (l : List Fr) : (fixL S vars rest v x l).length = cnt S rest := by simp [fixL]
theorem fixL_get (S vars rest : List Nat) (v x : Nat) (l : List Fr) {k : Nat} (h : k < (fixL S vars rest v x l).length) : (fixL S vars rest v x l)[k] = qF (frQ (celF l (pos S (withV (asg S rest k) v x) vars))) := by simp [fixL]
/-- The place of an assignment with one more value is a place. -/
theorem with_lt {sizes vars rest : List Int} {v x K m : Nat} (hk : checkA sizes vars m = 0) (hK : K < cnt (toN sizes) (toN rest)) (hx : x < sz (toN sizes) v) : pos (toN sizes) (withV (asg (toN sizes) (toN rest) K) v x) (toN vars) < m := by
  obtain ⟨h1, h2, h3⟩ := checkA_parts hk
  rw [h3]
  exact pos_lt _ (withV_lt (fun u => asg_lt h1.pos _ _ u hK) hx) _
end Go.Proofs.Ytpjgnjdekepbdaa


/- Package table: the closure of Out. -/
namespace Go.Proofs.Ytpjgnjdekepbdaa
open Go.RowKit Go.Shelf

theorem fits_mono {m n : Nat} {q : Rat} (h : Fits m q) (hm : m ≤ n) : Fits n q := by
  obtain ⟨A, D, h1, h2, h3, h4⟩ := h
  exact ⟨A, D, h1, h2, Nat.lt_of_lt_of_le h3 (pow_mono hm), Nat.lt_of_lt_of_le h4 (pow_mono hm)⟩
theorem great_one (f g : Fr) : great f g = f ∨ great f g = g := by
  rw [great]
  by_cases h : cmpQ (frQ f) (frQ g) < 0
  · rw [if_pos h]; exact .inr rfl
  · rw [if_neg h]; exact .inl rfl
theorem qF_size (q : Rat) : (qF q).2.1.size + (qF q).2.2.size = qw q := rfl
theorem outN_fits (most : Bool) (T : Nat → Fr) : ∀ k, (∀ x, x ≤ k → (T x).2.1.size + (T x).2.2.size + 2 ≤ 8192) → Fits ((k + 1) * 8192) (frQ (outN most T k))
  | 0, h => fits_mono (fits_val _ _ _) (by have := h 0 (Nat.le_refl _); show (T 0).2.1.size + (T 0).2.2.size + 1 ≤ _; omega)
  | k + 1, h => by
    have h1 := outN_fits most T k fun x hx => h x (by omega)
    have h2 : Fits 8191 (frQ (T (k + 1))) := fits_mono (fits_val _ _ _) (by have := h (k + 1) (Nat.le_refl _); omega)
    rw [outN]
    cases most with
    | true =>
      rw [if_pos rfl]
      rcases great_one (outN true T k) (T (k + 1)) with e | e
      · rw [e]; exact fits_mono h1 (by omega)
      · rw [e]; exact fits_mono h2 (by omega)
    | false =>
      rw [if_neg (by decide), frQ_qF]
      exact fits_mono (fits_add h1 h2) (by omega)
theorem out_ar1 (k : Nat) : 2 * ((k + 1) * 8192) ≤ 2 * ((k + 1 + 1) * 8192) := by omega
theorem out_ar2 (k : Nat) : 8192 ≤ 2 * ((k + 1 + 1) * 8192) := by omega
theorem great_size {f g : Fr} {A : Nat} (h1 : f.2.1.size + f.2.2.size ≤ A) (h2 : g.2.1.size + g.2.2.size ≤ A) : (great f g).2.1.size + (great f g).2.2.size ≤ A := by
  rcases great_one f g with e | e
  · rw [e]; exact h1
  · rw [e]; exact h2
theorem outN_size (most : Bool) (T : Nat → Fr) : ∀ k, (∀ x, x ≤ k → (T x).2.1.size + (T x).2.2.size + 2 ≤ 8192) → (outN most T k).2.1.size + (outN most T k).2.2.size ≤ 2 * ((k + 1) * 8192)
  | 0, h => by have := h 0 (Nat.le_refl _); rw [outN]; omega
  | k + 1, h => by
    have h1 := outN_size most T k fun x hx => h x (by omega)
    have h2 := h (k + 1) (Nat.le_refl _)
    have h3 := outN_fits most T (k + 1) h
    rw [outN] at h3 ⊢
    cases most with
    | true =>
      rw [if_pos rfl]
      exact great_size (Nat.le_trans h1 (out_ar1 k)) (Nat.le_trans (Nat.le_trans (Nat.le_add_right _ 2) h2) (out_ar2 k))
    | false =>
      rw [if_neg (by decide)] at h3 ⊢
      rw [frQ_qF] at h3
      have h4 := fits_qw h3
      rw [qF_size]
      exact h4
/-- A way to make two fractions one. -/
def Pairs (most : Bool) (pf : Nat) : Prop := (∀ args w, (callFunc pf args).run Try.prog w = .ok (.enter pf args) w) ∧ ∀ (f g : Fr) (V : World), f.2.1.size + f.2.2.size ≤ 100000 → g.2.1.size + g.2.2.size ≤ 100000 → Calls Try.prog pf #[frV f, frV g] V fun e w' => e = .returned (frV (if most then great f g else qF (frQ f + frQ g))) ∧ Below V.heap.size V w'
end Go.Proofs.Ytpjgnjdekepbdaa


/- Package table: Out. -/
namespace Go.Proofs.Ytpjgnjdekepbdaa
open Go.RowKit Go.Shelf

theorem outL_length (S vars rest : List Nat) (v : Nat) (most : Bool) (l : List Fr) : (outL S vars rest v most l).length = cnt S rest := by simp [outL]
theorem outL_get (S vars rest : List Nat) (v : Nat) (most : Bool) (l : List Fr) {k : Nat} (h : k < (outL S vars rest v most l).length) : (outL S vars rest v most l)[k] = qF (frQ (outN most (fun x => celF l (pos S (withV (asg S rest k) v x) vars)) (sz S v - 1))) := by simp [outL]

end Go.Proofs.Ytpjgnjdekepbdaa


/- The variables of two tables together. -/
namespace Go.Proofs.Ytpjgnjdekepbdaa
open Go.RowKit Go.Shelf Go.Sort Go.Lib

theorem rise_extI : ∀ {a b : List Int}, a.Pairwise (· < ·) → b.Pairwise (· < ·) → (∀ x, x ∈ a ↔ x ∈ b) → a = b
  | [], [], _, _, _ => rfl
  | [], y :: b, _, _, h => absurd ((h y).2 List.mem_cons_self) (by simp)
  | x :: a, [], _, _, h => absurd ((h x).1 List.mem_cons_self) (by simp)
  | x :: a, y :: b, ha, hb, h => by
    rw [List.pairwise_cons] at ha hb
    have e : x = y := by
      have h1 := (h x).1 List.mem_cons_self
      have h2 := (h y).2 List.mem_cons_self
      rw [List.mem_cons] at h1 h2
      rcases h1 with h1 | h1
      · exact h1
      · rcases h2 with h2 | h2
        · exact h2.symm
        · have := hb.1 x h1
          have := ha.1 y h2
          omega
    subst e
    rw [rise_extI ha.2 hb.2 fun z => ?_]
    constructor
    · intro hz
      have h1 := (h z).1 (List.mem_cons_of_mem _ hz)
      have := ha.1 z hz
      rw [List.mem_cons] at h1
      rcases h1 with h1 | h1
      · omega
      · exact h1
    · intro hz
      have h1 := (h z).2 (List.mem_cons_of_mem _ hz)
      have := hb.1 z hz
      rw [List.mem_cons] at h1
      rcases h1 with h1 | h1
      · omega
      · exact h1
theorem compact_upto {d : Array Int} (hs : ∀ i j, i ≤ j → j < d.size → d[i]! ≤ d[j]!) : ∀ m, m ≤ d.size → (compactUpTo d m).Pairwise (· < ·) ∧ ∀ x, x ∈ compactUpTo d m ↔ ∃ j, j < m ∧ d[j]! = x
  | 0, _ => ⟨by simp [compactUpTo], fun x => by simp [compactUpTo]⟩
  | m + 1, hm => by
    obtain ⟨h1, h2⟩ := compact_upto hs m (by omega)
    rw [compactUpTo_succ]
    by_cases hk : keeps d m = true
    · rw [if_pos hk]
      constructor
      · rw [List.pairwise_append]
        refine ⟨h1, by simp, fun x hx y hy => ?_⟩
        obtain ⟨j, hj, rfl⟩ := (h2 x).1 hx
        rw [List.mem_singleton] at hy
        subst hy
        rw [keeps, decide_eq_true_iff] at hk
        rcases hk with hk | hk
        · omega
        · have e1 := hs j (m - 1) (by omega) (by omega)
          have e2 := hs (m - 1) m (by omega) (by omega)
          omega
      · intro x
        rw [List.mem_append, h2, List.mem_singleton]
        constructor
        · rintro (⟨j, hj, rfl⟩ | rfl)
          · exact ⟨j, by omega, rfl⟩
          · exact ⟨m, by omega, rfl⟩
        · rintro ⟨j, hj, rfl⟩
          by_cases e : j = m
          · exact .inr (by rw [e])
          · exact .inl ⟨j, by omega, rfl⟩
    · rw [if_neg hk, List.append_nil]
      refine ⟨h1, fun x => ?_⟩
      rw [h2]
      have hk' : ¬ (m = 0 ∨ d[m]! ≠ d[m - 1]!) := fun h => hk (by rw [keeps, decide_eq_true_iff]; exact h)
      have hm0 : m ≠ 0 := fun h => hk' (.inl h)
      have hmm : d[m]! = d[m - 1]! := Classical.byContradiction fun h => hk' (.inr h)
      constructor
      · rintro ⟨j, hj, rfl⟩
        exact ⟨j, by omega, rfl⟩
      · rintro ⟨j, hj, rfl⟩
        by_cases e : j = m
        · exact ⟨m - 1, by omega, by rw [e, hmm]⟩
        · exact ⟨j, by omega, rfl⟩
/-- What together answers. -/
def togL (la lb : List Int) : List Int := Lib.compact ((la ++ lb).mergeSort fun x y => decide (x ≤ y))
theorem togL_rise (la lb : List Int) : (togL la lb).Pairwise (· < ·) ∧ ∀ x, x ∈ togL la lb ↔ x ∈ la ∨ x ∈ lb := by
  have hp : ((la ++ lb).mergeSort fun x y => decide (x ≤ y)).Pairwise (fun x y => decide (x ≤ y) = true) := List.pairwise_mergeSort (fun a b c h1 h2 => by simp at h1 h2 ⊢; omega) (fun a b => by simp; omega) _
  have hm : ∀ x, x ∈ ((la ++ lb).mergeSort fun x y => decide (x ≤ y)) ↔ x ∈ la ∨ x ∈ lb := fun x => by rw [List.mem_mergeSort, List.mem_append]
  rw [togL]
  generalize ((la ++ lb).mergeSort fun x y => decide (x ≤ y)) = zs at hp hm
  have hs : ∀ i j, i ≤ j → j < zs.toArray.size → zs.toArray[i]! ≤ zs.toArray[j]! := fun i j hij hj => by
    have hj' : j < zs.length := by simpa using hj
    rw [getElem!_pos zs.toArray i (by omega), getElem!_pos zs.toArray j hj]
    by_cases e : i = j
    · subst e; exact Int.le_refl _
    · have := List.pairwise_iff_getElem.1 hp i j (by omega) hj' (by omega)
      simpa using this
  obtain ⟨h1, h2⟩ := compact_upto hs zs.toArray.size (Nat.le_refl _)
  have e : Lib.compact zs = compactUpTo zs.toArray zs.toArray.size := by rw [Lib.compact]; simp
  rw [e]
  refine ⟨h1, fun x => ?_⟩
  rw [h2, ← hm]
  constructor
  · rintro ⟨j, hj, rfl⟩
    rw [getElem!_pos zs.toArray j hj]
    simp
  · intro hx
    obtain ⟨j, hj, rfl⟩ := List.getElem_of_mem hx
    exact ⟨j, by simpa using hj, by rw [getElem!_pos zs.toArray j (by simpa using hj)]; simp⟩
theorem togL_nil : togL [] [] = [] := List.eq_nil_iff_forall_not_mem.2 fun x hx => by have := ((togL_rise [] []).2 x).1 hx; simp at this
theorem inB_iff {k : Int} {l : List Int} : inB k l = true ↔ k ∈ l := by simp [inB]
theorem togL_both {la lb : List Int} {n : Nat} (ha : Up la n) (hb : Up lb n) : togL la lb = iL (bothN n la lb) := by
  obtain ⟨h1, h2⟩ := togL_rise la lb
  have ha' := (up_iff.1 ha).1
  have hb' := (up_iff.1 hb).1
  refine rise_extI h1 ?_ fun x => ?_
  · rw [iL, List.pairwise_map]
    exact ((range_rise n).filter _).imp fun h => by omega
  · rw [h2, iL, List.mem_map]
    constructor
    · intro hx
      have hr : 0 ≤ x ∧ x < n := hx.elim (ha' x) (hb' x)
      refine ⟨x.toNat, List.mem_filter.2 ⟨List.mem_range.2 (by omega), ?_⟩, by omega⟩
      rw [Bool.or_eq_true, inB_iff, inB_iff, Int.toNat_of_nonneg hr.1]
      exact hx
    · rintro ⟨v, hv, rfl⟩
      have := (List.mem_filter.1 hv).2
      rw [Bool.or_eq_true, inB_iff, inB_iff] at this
      exact this
theorem togL_up {la lb : List Int} {n : Nat} (ha : Up la n) (hb : Up lb n) : Up (togL la lb) n := by
  obtain ⟨h1, h2⟩ := togL_rise la lb
  exact up_iff.2 ⟨fun x hx => ((h2 x).1 hx).elim ((up_iff.1 ha).1 x) ((up_iff.1 hb).1 x), h1⟩
end Go.Proofs.Ytpjgnjdekepbdaa


/- Package table: together. -/
namespace Go.Proofs.Ytpjgnjdekepbdaa
open Go.RowKit Go.Shelf Go.Sort Go.Lib

end Go.Proofs.Ytpjgnjdekepbdaa


/- Package table: the closure of Product. -/
namespace Go.Proofs.Ytpjgnjdekepbdaa
open Go.RowKit Go.Shelf

end Go.Proofs.Ytpjgnjdekepbdaa


/- Package table: Product. -/
namespace Go.Proofs.Ytpjgnjdekepbdaa
open Go.RowKit Go.Shelf

/-- What is no nil function lies elsewhere. -/
theorem nil_far {V : World} {B b j : Nat} {t : TypeId} {x : Value} (h : Boxed V B t .nilFunc) (hx : V.cell? ⟨b, j, none⟩ = some x) (hn : x ≠ .nilFunc) : b ≠ B := fun e => by
  subst e
  rw [cell_of_row V b j _ _ (0, 0) h] at hx
  match j with
  | 0 => simp at hx; exact hn hx.symm
  | j + 1 => simp at hx
theorem intS_nil {V : World} {B : Nat} {t : TypeId} {c : Option Addr} {l : List Int} (h : Boxed V B t .nilFunc) (hi : IntS V c l) (y : Value) : IntS (V.setCell ⟨B, 0, none⟩ y) c l := fun k hk => by
  obtain ⟨g, o, rfl, hlt, hc⟩ := hi k hk
  have hne := nil_far h hc (by simp)
  exact ⟨g, o, rfl, Nat.lt_of_lt_of_le hlt (KeepsOthers.setCell V _ _).size, (World.cell?_setCell_other _ _ _ _ (fun e => hne (congrArg Addr.block e).symm)).trans hc⟩
theorem prodL_length (S va vb U : List Nat) (la lb : List Fr) : (prodL S va vb U la lb).length = cnt S U := by simp [prodL]
theorem prodL_get (S va vb U : List Nat) (la lb : List Fr) {k : Nat} (h : k < (prodL S va vb U la lb).length) : (prodL S va vb U la lb)[k] = qF (frQ (celF la (pos S (asg S U k) va)) * frQ (celF lb (pos S (asg S U k) vb))) := by simp [prodL]
theorem stand_lt {sizes vars U : List Int} {K m : Nat} (hk : checkA sizes vars m = 0) (hK : K < cnt (toN sizes) (toN U)) : pos (toN sizes) (asg (toN sizes) (toN U) K) (toN vars) < m := by
  obtain ⟨h1, h2, h3⟩ := checkA_parts hk
  rw [h3]
  exact pos_lt _ (fun u => asg_lt h1.pos _ _ u hK) _

end Go.Proofs.Ytpjgnjdekepbdaa

