/- The law's own connected (GraphTrees). -/
import Derived.Test.YtockhhleapbpiaaTreGToOrdD
import Derived.Test.YtockhhleapbpiaaOrdEOwn
import Derived.Test.YtockhhleapbpiaaFillAToTabT
import Derived.Laws.EntriesVeiled
namespace Go.Proofs.Ytockhhleapbpiaa
open Go.RowKit Go.Shelf

theorem nodup_len : ∀ {l m : List Nat}, l.Nodup → (∀ x ∈ l, x ∈ m) → l.length ≤ m.length
  | [], _, _, _ => Nat.zero_le _
  | a :: l, m, hn, hs => by
    have ha : a ∈ m := hs a (List.mem_cons_self ..)
    have h1 := List.nodup_cons.1 hn
    have := nodup_len (l := l) (m := m.erase a) h1.2 (fun x hx => (List.mem_erase_of_ne (fun e => h1.1 (by rw [← e]; exact hx))).2 (hs x (List.mem_cons_of_mem _ hx)))
    rw [List.length_erase_of_mem ha] at this
    have hp := List.length_pos_of_mem ha
    show l.length + 1 ≤ m.length
    omega
/-- The other end of a link at c. -/
def oth (c : Nat) (p : Nat × Nat × List Int) : Option Nat := if p.2.1 = c then some p.1 else if p.1 = c then some p.2.1 else none
/-- A clique that has v (where v is under 0, each one). -/
def hsV (K : List (List Int)) (v : Int) (k : Nat) : Bool := decide (v < 0) || inB v (K.getD k [])
def witL (K : List (List Int)) (v : Int) (k : Nat) : List Nat := (List.range k).filter (hsV K v)
theorem witL_yes {K : List (List Int)} {v : Int} {k : Nat} (h : hsV K v k = true) : witL K v (k + 1) = witL K v k ++ [k] := by rw [witL, List.range_succ, List.filter_append, witL]; simp [h]
theorem witL_no {K : List (List Int)} {v : Int} {k : Nat} (h : hsV K v k = false) : witL K v (k + 1) = witL K v k := by rw [witL, List.range_succ, List.filter_append, witL]; simp [h]
theorem witL_len (K : List (List Int)) (v : Int) (k : Nat) : (witL K v k).length ≤ k := by
  have := List.length_filter_le (hsV K v) (List.range k)
  rwa [List.length_range] at this
theorem witL_nodup (K : List (List Int)) (v : Int) (k : Nat) : (witL K v k).Nodup := List.Pairwise.filter _ List.nodup_range
structure CnI (wit : List Nat) (M : List (Nat × Nat × List Int)) (f : Nat) (l : List Nat) (i : Nat) : Prop where
  nd : l.Nodup
  sub : ∀ x ∈ l, x ∈ wit
  fst : f ∈ l
  done : ∀ j x, j < i → l[j]? = some x → ∀ p ∈ M, ∀ b, oth x p = some b → b ∈ wit → b ∈ l
structure CnK (wit : List Nat) (M : List (Nat × Nat × List Int)) (f : Nat) (l : List Nat) (i c k : Nat) : Prop where
  base : CnI wit M f l i
  here : l[i]? = some c
  sofar : ∀ k' p, k' < k → M[k']? = some p → ∀ b, oth c p = some b → b ∈ wit → b ∈ l
theorem CnI.len {wit : List Nat} {M : List (Nat × Nat × List Int)} {f : Nat} {l : List Nat} {i : Nat} (h : CnI wit M f l i) : l.length ≤ wit.length := nodup_len h.nd h.sub
theorem CnI.start {wit : List Nat} {M : List (Nat × Nat × List Int)} {f : Nat} (hf : f ∈ wit) : CnI wit M f [f] 0 := ⟨by simp, fun x hx => by rw [List.mem_singleton.1 hx]; exact hf, by simp, fun j _ hj => absurd hj (by omega)⟩
theorem CnK.start {wit : List Nat} {M : List (Nat × Nat × List Int)} {f : Nat} {l : List Nat} {i c : Nat} (h : CnI wit M f l i) (hc : l[i]? = some c) : CnK wit M f l i c 0 := ⟨h, hc, fun k' _ hk => absurd hk (by omega)⟩
theorem CnK.skip {wit : List Nat} {M : List (Nat × Nat × List Int)} {f : Nat} {l : List Nat} {i c k : Nat} (h : CnK wit M f l i c k) {p : Nat × Nat × List Int} (hp : M[k]? = some p) (hs : ∀ b, oth c p = some b → b ∈ wit → b ∈ l) : CnK wit M f l i c (k + 1) := ⟨h.base, h.here, fun k' p' hk hp' => by
  rcases Nat.lt_or_eq_of_le (Nat.le_of_lt_succ hk) with h1 | rfl
  · exact h.sofar k' p' h1 hp'
  · rw [hp] at hp'
    cases hp'
    exact hs⟩
theorem CnK.push {wit : List Nat} {M : List (Nat × Nat × List Int)} {f : Nat} {l : List Nat} {i c k : Nat} (h : CnK wit M f l i c k) {p : Nat × Nat × List Int} (hp : M[k]? = some p) {b : Nat} (hb : oth c p = some b) (hw : b ∈ wit) (hn : ¬ b ∈ l) : CnK wit M f (l ++ [b]) i c (k + 1) := by
  have hil : i < l.length := (List.getElem?_eq_some_iff.1 h.here).1
  refine ⟨⟨?_, ?_, List.mem_append_left _ h.base.fst, ?_⟩, ?_, ?_⟩
  · rw [List.nodup_append]
    exact ⟨h.base.nd, by simp, fun x hx y hy e => hn (by rw [List.mem_singleton.1 hy] at e; rw [← e]; exact hx)⟩
  · intro x hx
    rcases List.mem_append.1 hx with hx | hx
    · exact h.base.sub x hx
    · rw [List.mem_singleton.1 hx]; exact hw
  · intro j x hj hx p' hp' b' hb' hw'
    rw [List.getElem?_append_left (by omega)] at hx
    exact List.mem_append_left _ (h.base.done j x hj hx p' hp' b' hb' hw')
  · rw [List.getElem?_append_left hil]
    exact h.here
  · intro k' p' hk hp' b' hb' hw'
    rcases Nat.lt_or_eq_of_le (Nat.le_of_lt_succ hk) with h1 | rfl
    · exact List.mem_append_left _ (h.sofar k' p' h1 hp' b' hb' hw')
    · rw [hp] at hp'
      cases hp'
      rw [hb] at hb'
      cases hb'
      simp
theorem CnK.fin {wit : List Nat} {M : List (Nat × Nat × List Int)} {f : Nat} {l : List Nat} {i c : Nat} (h : CnK wit M f l i c M.length) : CnI wit M f l (i + 1) := ⟨h.base.nd, h.base.sub, h.base.fst, fun j x hj hx p hp b hb hw => by
  rcases Nat.lt_or_eq_of_le (Nat.le_of_lt_succ hj) with h1 | rfl
  · exact h.base.done j x h1 hx p hp b hb hw
  · rw [h.here] at hx
    cases hx
    obtain ⟨k, hk, rfl⟩ := List.getElem_of_mem hp
    exact h.sofar k _ hk (List.getElem?_eq_getElem hk) b hb hw⟩
theorem CnI.fin {wit : List Nat} {M : List (Nat × Nat × List Int)} {f : Nat} {l : List Nat} (h : CnI wit M f l l.length) (hd : wit.Nodup) (hcl : ∀ S : Nat → Prop, S f → (∀ x, S x → ∀ p ∈ M, ∀ b, oth x p = some b → b ∈ wit → S b) → ∀ x ∈ wit, S x) : l.length = wit.length :=
  Nat.le_antisymm h.len (nodup_len hd (hcl (· ∈ l) h.fst (fun x hx p hp b hb hw => by
    obtain ⟨j, hj, rfl⟩ := List.getElem_of_mem hx
    exact h.done j _ hj (List.getElem?_eq_getElem hj) p hp b hb hw)))

set_option maxRecDepth 100000 in
set_option maxHeartbeats 4000000 in
theorem connected_any (a : Option Addr) (ca : Nat) (K : List (List Int)) (d : Option Addr) (cd : Nat) (M : List (Nat × Nat × List Int)) (v : Int) (w : World) (hK : LsS w a K) (hK8 : K.length ≤ 8) (hKl : ∀ l ∈ K, l.length ≤ 1000) (hM : LnS w d M) (hM8 : M.length ≤ 8)
    (hw : 0 < (witL K v K.length).length) (hcl : ∀ S : Nat → Prop, S ((witL K v K.length).getD 0 0) → (∀ x, S x → ∀ p ∈ M, ∀ b, oth x p = some b → b ∈ witL K v K.length → S b) → ∀ x ∈ witL K v K.length, S x) :
    Calls Try.prog 27 #[.slice a K.length ca, .slice d M.length cd, .int .i64 v] w fun e w' => e = .returned (.bool true) ∧ Below w.heap.size w w' := by
  have HK := hid hK
  have HM := hid hM
  have HKL := hid hKl
  have HW := hid hw
  have HCL := hid hcl
  have HIN := hid (fun (x : Int) (a' : Option Addr) (c' : Nat) (l : List Int) (U : World) (hi : IntS U a' l) (hn : l.length ≤ 1000) => rIn_any x a' c' l U hi (by omega))
  have HYS := hid (fun k h => witL_yes (K := K) (v := v) (k := k) h)
  have HNO := hid (fun k h => witL_no (K := K) (v := v) (k := k) h)
  have HLN := hid (fun k => witL_len K v k)
  have HND := hid (witL_nodup K v K.length)
  have hW0 : witL K v 0 = [] := rfl
  have HHS : Hid (∀ k, hsV K v k = (decide (v < 0) || inB v (K.getD k []))) := fun _ => rfl
  generalize witL K v = F at *
  generalize hsV K v = hs at *
  clear hK hM hKl hw hcl
  go_enter Try.func27, Try.ntmps27
  go_wp2_with fail
  go_loopw [7, 8] (fun wv kv wr => ∃ k : Nat, k ≤ K.length ∧ kv = .int .i64 k ∧ (∃ dw cw, wv = .slice dw (F k).length cw) ∧ Hid (RwI wr w.heap.size wv (iL (F k))) ∧ Hid (Below w.heap.size w wr)) (fun _ kv _ => K.length - (intOf kv).toNat)
  case atStart => exact ⟨0, Nat.zero_le _, rfl, ⟨none, 0, by rw [hW0]; rfl⟩, by rw [hW0]; exact ⟨rfl, .inl ⟨rfl, rfl⟩⟩, Below.refl _ _⟩
  case round =>
    obtain ⟨k, hk, rfl, ⟨dw, cw, rfl⟩, HR, HB⟩ := hrel
    by_cases hlt : k < K.length
    · obtain ⟨g, o, bk, ck, rfl, hg, c0, hI⟩ := (HK.out.below HB.out) k hlt
      have hkl := HKL.out _ (List.getElem_mem hlt)
      have HHk := hid (HHS.out k)
      have HIK := hid (HIN.out v bk ck _ wr hI hkl)
      have HYk := hid (HYS.out k)
      have HNk := hid (HNO.out k)
      have hln := HLN.out k
      rw [List.getD_eq_getElem?_getD, List.getElem?_eq_getElem hlt, Option.getD_some] at HHk
      have HOWN := hid HR.out.own
      have HRA : Hid (RwI (wr.alloc (.cells #[.int .i64 (k : Nat)] 3)) w.heap.size _ (iL (F k))) := World.ownsRow.alloc HR.out _
      have HBA := hid (HB.out.alloc HB.out.size (.cells #[.int .i64 (k : Nat)] 3))
      have HIA := hid (one_int wr (k : Nat))
      have HLE : Hid ((iL (F k)).length ≤ 8) := by show (iL (F k)).length ≤ 8; rw [iL_length]; omega
      generalize K[k] = lk at *
      generalize hqi : inB v lk = qi at *
      clear hI hqi hW0
      by_cases hv : v < 0
      · have hvd : decide (v < 0) = true := decide_eq_true hv
        have hS := HYk.out (by rw [HHk.out]; rw [hvd]; rfl)
        have HIL : Hid (iL (F (k + 1)) = iL (F k) ++ [(k : Int)]) := by show _ = _; rw [hS, iL_append]; rfl
        clear HHk HYk HNk hS
        go_wp2_with (first | (go_at_call 26; refine HIK.out.mono ?_; rintro e w' ⟨rfl, hw'⟩; have hw2 := hw'.symm; subst hw2) | (at_builtin; refine wpList_append_ints rfl _ _ rfl w.heap.size _ (iL (F k)) [((k : Nat) : Int)] rfl HRA.out (some ⟨wr.heap.size, 0, none⟩) 1 rfl HIA.out (fun e => by cases e) (by have := HLE.out; simp; omega) HBA.out.size ?_; intro v' w5 hr5 hg5))
        have hr6 := hr5
        rw [← HIL.out] at hr6
        obtain ⟨d5, cd5, rfl, _⟩ := hr6.ints
        rw [iL_length]
        rw [iL_length] at hr6
        have HR5 := hid hr6
        have HB5 := hid (HBA.out.grown hg5 HBA.out.size HOWN.out)
        clear hr5 hr6 hg5
        go_wp2
        go_roundw
        case rel => exact ⟨k + 1, by omega, by go_num, ⟨d5, cd5, rfl⟩, HR5, HB5⟩
        case measure => simp [intOf]; omega
      · have hvd : decide (v < 0) = false := decide_eq_false hv
        cases qi
        · have hS := HNk.out (by rw [HHk.out, hvd]; rfl)
          clear HHk HYk HNk HRA HBA HIA
          go_wp2_with (go_at_call 26; refine HIK.out.mono ?_; rintro e w' ⟨rfl, hw'⟩; have hw2 := hw'.symm; subst hw2)
          go_wp2
          go_roundw
          case rel => exact ⟨k + 1, by omega, by go_num, ⟨dw, cw, by rw [hS]⟩, by rw [hS]; exact HR, HB⟩
          case measure => simp [intOf]; omega
        · have hS := HYk.out (by rw [HHk.out]; rw [hvd]; rfl)
          have HIL : Hid (iL (F (k + 1)) = iL (F k) ++ [(k : Int)]) := by show _ = _; rw [hS, iL_append]; rfl
          clear HHk HYk HNk hS
          go_wp2_with (first | (go_at_call 26; refine HIK.out.mono ?_; rintro e w' ⟨rfl, hw'⟩; have hw2 := hw'.symm; subst hw2) | (at_builtin; refine wpList_append_ints rfl _ _ rfl w.heap.size _ (iL (F k)) [((k : Nat) : Int)] rfl HRA.out (some ⟨wr.heap.size, 0, none⟩) 1 rfl HIA.out (fun e => by cases e) (by have := HLE.out; simp; omega) HBA.out.size ?_; intro v' w5 hr5 hg5))
          have hr6 := hr5
          rw [← HIL.out] at hr6
          obtain ⟨d5, cd5, rfl, _⟩ := hr6.ints
          rw [iL_length]
          rw [iL_length] at hr6
          have HR5 := hid hr6
          have HB5 := hid (HBA.out.grown hg5 HBA.out.size HOWN.out)
          clear hr5 hr6 hg5
          go_wp2
          go_roundw
          case rel => exact ⟨k + 1, by omega, by go_num, ⟨d5, cd5, rfl⟩, HR5, HB5⟩
          case measure => simp [intOf]; omega
    · obtain rfl : k = K.length := by omega
      have hwl := HW.out
      have hw8 := HLN.out K.length
      obtain ⟨dw', cw', e', hIW⟩ := HR.out.ints
      obtain ⟨rfl, -, rfl⟩ : dw = dw' ∧ (F K.length).length = (iL (F K.length)).length ∧ cw = cw' := by injection e' with e1 e2 e3; exact ⟨e1, e2, e3⟩
      clear e'
      have HIW : Hid (∀ (x : Nat) (V : World), Below wr.heap.size wr V → Calls Try.prog 26 #[.int .i64 (x : Nat), .slice dw (F K.length).length cw] V fun e w' => e = .returned (.bool (decide (x ∈ F K.length))) ∧ w' = V) := fun x V hb => by
        have := HIN.out (x : Nat) dw cw (iL (F K.length)) V (hIW.below hb) (by rw [iL_length]; omega)
        rwa [iL_length, inB_iL _ (by omega), Int.toNat_natCast] at this
      have HIL : Hid (∀ (x : Nat) (l : List Nat) (dl : Option Addr) (cl : Nat) (V : World), IntS V dl (iL l) → l.length ≤ 8 → Calls Try.prog 26 #[.int .i64 (x : Nat), .slice dl l.length cl] V fun e w' => e = .returned (.bool (decide (x ∈ l))) ∧ w' = V) := fun x l dl cl V hi h8 => by
        have := HIN.out (x : Nat) dl cl (iL l) V hi (by rw [iL_length]; omega)
        rwa [iL_length, inB_iL _ (by omega), Int.toNat_natCast] at this
      obtain ⟨g0, o0, hd0, hg0, c0⟩ := hIW 0 (by rw [iL_length]; exact hwl)
      have ef : (iL (F K.length))[0]'(by rw [iL_length]; exact hwl) = (((F K.length).getD 0 0 : Nat) : Int) := by
        rw [List.getD_eq_getElem?_getD, List.getElem?_eq_getElem hwl]
        simp [iL]
      rw [ef, Nat.add_zero] at c0
      have HFI : Hid ((F K.length).getD 0 0 ∈ F K.length) := by
        show (F K.length).getD 0 0 ∈ F K.length
        rw [List.getD_eq_getElem?_getD, List.getElem?_eq_getElem hwl]
        exact List.getElem_mem hwl
      have HC := HCL
      have HST := hid (CnI.start (M := M) HFI.out)
      generalize (F K.length).getD 0 0 = f at *
      have HIW2 := hid hIW
      have HWN := hid HND.out
      generalize F K.length = wit at *
      have HR1 : Hid (RwI (wr.alloc (.cells #[.int .i64 (f : Nat)] 3)) wr.heap.size (.slice (some ⟨wr.heap.size, 0, none⟩) 1 1) (iL [f])) := ⟨rfl, .inr ⟨wr.heap.size, 1, #[.int .i64 (f : Nat)], rfl, Nat.le_refl _, heap_alloc_new wr _, Nat.le_refl _, by unfold maxLen; omega, by simp, by simp [iL]⟩⟩
      have HB1 : Hid (Below wr.heap.size wr (wr.alloc (.cells #[.int .i64 (f : Nat)] 3))) := (Below.refl _ wr).alloc (Nat.le_refl _) _
      have hz : ((((wit.length : Nat) : Int)) == 0) = false := beq_eq_false_iff_ne.2 (by omega)
      subst hd0
      clear hIW ef HCL HYS HNO HLN HHS HND HFI HR hW0 HIN HK HKL HW
      generalize wr = W1 at *
      go_wp2_with fail
      go_loopw [9, 10] (fun lv iv wq => ∃ (l : List Nat) (i : Nat), i ≤ l.length ∧ iv = .int .i64 i ∧ (∃ dl cl, lv = .slice dl l.length cl) ∧ Hid (RwI wq W1.heap.size lv (iL l)) ∧ Hid (Below W1.heap.size W1 wq) ∧ Hid (CnI wit M f l i)) (fun _ iv _ => wit.length - (intOf iv).toNat)
      case atStart => exact ⟨[f], 0, Nat.zero_le _, rfl, ⟨_, _, rfl⟩, HR1, HB1, HST⟩
      case round =>
        obtain ⟨l, i, hi, rfl, ⟨dl, cl, rfl⟩, HR, HBq, HC0⟩ := hrel
        have hll := HC0.out.len
        clear HR1 HB1 HST
        by_cases hil : i < l.length
        · obtain ⟨c, hc⟩ : ∃ c, l[i]? = some c := ⟨_, List.getElem?_eq_getElem hil⟩
          have HS0 := hid (CnK.start HC0.out hc)
          clear hc HC0
          go_wp2_with fail
          go_loopw [9, 11] (fun lv kv wq => ∃ (l : List Nat) (k : Nat), k ≤ M.length ∧ i < l.length ∧ kv = .int .i64 k ∧ (∃ dl cl, lv = .slice dl l.length cl) ∧ Hid (RwI wq W1.heap.size lv (iL l)) ∧ Hid (Below W1.heap.size W1 wq) ∧ Hid (CnK wit M f l i c k)) (fun _ kv _ => M.length - (intOf kv).toNat)
          case atStart => exact ⟨l, 0, Nat.zero_le _, hil, rfl, ⟨_, _, rfl⟩, HR, HBq, HS0⟩
          case round =>
            clear HR HBq HS0 hil hll
            obtain ⟨l, k, hk, hil, rfl, ⟨dl, cl, rfl⟩, HR, HBq, HCK⟩ := hrel
            by_cases hlk : k < M.length
            · obtain ⟨g, dd, cdd, hdd, hg, m0, m1, -, -⟩ := (HM.out.below (HB.out.trans (HBq.out.mono HB.out.size))) k hlk
              have hp : M[k]? = some M[k] := List.getElem?_eq_getElem hlk
              have HSK := hid (HCK.out.skip hp)
              have HPU := hid (fun b h1 h2 h3 => HCK.out.push (b := b) hp h1 h2 h3)
              have HOT : Hid (oth c M[k] = if M[k].2.1 = c then some M[k].1 else if M[k].1 = c then some M[k].2.1 else none) := rfl
              have hlw := HCK.out.base.len
              have hIl : IntS wr dl (iL l) := by
                obtain ⟨d', cd', e, hi⟩ := HR.out.ints
                injection e with e1 e2 e3
                subst e1
                exact hi
              obtain ⟨gl, ol, hdl, hgl, cl0⟩ := hIl i (by rw [iL_length]; exact hil)
              have ec : (iL l)[i]'(by rw [iL_length]; exact hil) = (c : Int) := by
                have h1 := HCK.out.here
                rw [List.getElem?_eq_getElem hil] at h1
                have h2 := Option.some.inj h1
                simp [iL, h2]
              rw [ec] at cl0
              have HIB := hid (fun b : Nat => HIL.out b l dl cl wr hIl (by omega))
              have HWB := hid (fun b : Nat => HIW.out b wr HBq.out)
              generalize M[k] = p at *
              generalize p.1 = A at *
              generalize p.2.1 = Bq at *
              subst hdd hdl
              clear hp ec HCK hIl HIL HIW HC HIW2
              by_cases hb : Bq = c
              · subst hb
                have hot : oth Bq p = some A := by rw [HOT.out, if_pos rfl]
                have HI1 := hid (HWB.out A)
                have HI2 := hid (HIB.out A)
                clear HWB HIB HOT
                by_cases hin : A ∈ wit
                · rw [decide_eq_true hin] at HI1
                  by_cases hil2 : A ∈ l
                  · rw [decide_eq_true hil2] at HI2
                    have HN := hid (HSK.out (fun b' hb' hw' => by rw [hot] at hb'; cases hb'; exact hil2))
                    clear HSK HPU
                    go_wp2_with (go_at_call 26; first | (refine HI1.out.mono ?_; clear HI1; rintro e w' ⟨rfl, hw'⟩; have hw2 := hw'.symm; subst hw2) | (refine HI2.out.mono ?_; rintro e w' ⟨rfl, hw'⟩; have hw2 := hw'.symm; subst hw2))
                    go_wp2
                    go_roundw
                    case rel => exact ⟨l, k + 1, by omega, hil, by go_num, ⟨_, _, rfl⟩, HR, HBq, HN⟩
                    case measure => simp [intOf]; omega
                  · rw [decide_eq_false hil2] at HI2
                    have HN := hid (HPU.out A hot hin hil2)
                    have HIL2 : Hid (iL (l ++ [A]) = iL l ++ [(A : Int)]) := by show _ = _; rw [iL_append]; rfl
                    have HOWN := hid HR.out.own
                    have HRA : Hid (RwI (wr.alloc (.cells #[.int .i64 (A : Nat)] 3)) W1.heap.size _ (iL l)) := World.ownsRow.alloc HR.out _
                    have HBA := hid (HBq.out.alloc HBq.out.size (.cells #[.int .i64 (A : Nat)] 3))
                    have HIA := hid (one_int wr (A : Nat))
                    clear HSK HPU hin hil2
                    go_wp2_with (first | (go_at_call 26; first | (refine HI1.out.mono ?_; clear HI1; rintro e w' ⟨rfl, hw'⟩; have hw2 := hw'.symm; subst hw2) | (refine HI2.out.mono ?_; rintro e w' ⟨rfl, hw'⟩; have hw2 := hw'.symm; subst hw2)) | (at_builtin; refine wpList_append_ints rfl _ _ rfl W1.heap.size _ (iL l) [((A : Nat) : Int)] rfl HRA.out (some ⟨wr.heap.size, 0, none⟩) 1 rfl HIA.out (fun e => by cases e) (by rw [iL_length]; simp; omega) HBA.out.size ?_; intro v' w5 hr5 hg5))
                    have hr6 := hr5
                    rw [← HIL2.out] at hr6
                    obtain ⟨d5, cd5, rfl, _⟩ := hr6.ints
                    rw [iL_length]
                    rw [iL_length] at hr6
                    have HR5 := hid hr6
                    have HB5 := hid (HBA.out.grown hg5 HBA.out.size HOWN.out)
                    clear hr5 hr6 hg5
                    go_wp2
                    go_roundw
                    case rel => exact ⟨l ++ [A], k + 1, by omega, by rw [List.length_append]; omega, by go_num, ⟨d5, cd5, rfl⟩, HR5, HB5, HN⟩
                    case measure => simp [intOf]; omega
                · rw [decide_eq_false hin] at HI1
                  have HN := hid (HSK.out (fun b' hb' hw' => by rw [hot] at hb'; cases hb'; exact absurd hw' hin))
                  clear HSK HPU
                  go_wp2_with (go_at_call 26; first | (refine HI1.out.mono ?_; clear HI1; rintro e w' ⟨rfl, hw'⟩; have hw2 := hw'.symm; subst hw2) | (refine HI2.out.mono ?_; rintro e w' ⟨rfl, hw'⟩; have hw2 := hw'.symm; subst hw2))
                  go_wp2
                  go_roundw
                  case rel => exact ⟨l, k + 1, by omega, hil, by go_num, ⟨_, _, rfl⟩, HR, HBq, HN⟩
                  case measure => simp [intOf]; omega
              · have hbi : (((Bq : Nat) : Int) == ((c : Nat) : Int)) = false := beq_eq_false_iff_ne.2 (by omega)
                by_cases ha : A = c
                · subst ha
                  have hot : oth A p = some Bq := by rw [HOT.out, if_neg hb, if_pos rfl]
                  have HI1 := hid (HWB.out Bq)
                  have HI2 := hid (HIB.out Bq)
                  clear HWB HIB HOT
                  by_cases hin : Bq ∈ wit
                  · rw [decide_eq_true hin] at HI1
                    by_cases hil2 : Bq ∈ l
                    · rw [decide_eq_true hil2] at HI2
                      have HN := hid (HSK.out (fun b' hb' hw' => by rw [hot] at hb'; cases hb'; exact hil2))
                      clear HSK HPU
                      go_wp2_with (go_at_call 26; first | (refine HI1.out.mono ?_; clear HI1; rintro e w' ⟨rfl, hw'⟩; have hw2 := hw'.symm; subst hw2) | (refine HI2.out.mono ?_; rintro e w' ⟨rfl, hw'⟩; have hw2 := hw'.symm; subst hw2))
                      go_wp2
                      go_roundw
                      case rel => exact ⟨l, k + 1, by omega, hil, by go_num, ⟨_, _, rfl⟩, HR, HBq, HN⟩
                      case measure => simp [intOf]; omega
                    · rw [decide_eq_false hil2] at HI2
                      have HN := hid (HPU.out Bq hot hin hil2)
                      have HIL2 : Hid (iL (l ++ [Bq]) = iL l ++ [(Bq : Int)]) := by show _ = _; rw [iL_append]; rfl
                      have HOWN := hid HR.out.own
                      have HRA : Hid (RwI (wr.alloc (.cells #[.int .i64 (Bq : Nat)] 3)) W1.heap.size _ (iL l)) := World.ownsRow.alloc HR.out _
                      have HBA := hid (HBq.out.alloc HBq.out.size (.cells #[.int .i64 (Bq : Nat)] 3))
                      have HIA := hid (one_int wr (Bq : Nat))
                      clear HSK HPU hin hil2
                      go_wp2_with (first | (go_at_call 26; first | (refine HI1.out.mono ?_; clear HI1; rintro e w' ⟨rfl, hw'⟩; have hw2 := hw'.symm; subst hw2) | (refine HI2.out.mono ?_; rintro e w' ⟨rfl, hw'⟩; have hw2 := hw'.symm; subst hw2)) | (at_builtin; refine wpList_append_ints rfl _ _ rfl W1.heap.size _ (iL l) [((Bq : Nat) : Int)] rfl HRA.out (some ⟨wr.heap.size, 0, none⟩) 1 rfl HIA.out (fun e => by cases e) (by rw [iL_length]; simp; omega) HBA.out.size ?_; intro v' w5 hr5 hg5))
                      have hr6 := hr5
                      rw [← HIL2.out] at hr6
                      obtain ⟨d5, cd5, rfl, _⟩ := hr6.ints
                      rw [iL_length]
                      rw [iL_length] at hr6
                      have HR5 := hid hr6
                      have HB5 := hid (HBA.out.grown hg5 HBA.out.size HOWN.out)
                      clear hr5 hr6 hg5
                      go_wp2
                      go_roundw
                      case rel => exact ⟨l ++ [Bq], k + 1, by omega, by rw [List.length_append]; omega, by go_num, ⟨d5, cd5, rfl⟩, HR5, HB5, HN⟩
                      case measure => simp [intOf]; omega
                  · rw [decide_eq_false hin] at HI1
                    have HN := hid (HSK.out (fun b' hb' hw' => by rw [hot] at hb'; cases hb'; exact absurd hw' hin))
                    clear HSK HPU
                    go_wp2_with (go_at_call 26; first | (refine HI1.out.mono ?_; clear HI1; rintro e w' ⟨rfl, hw'⟩; have hw2 := hw'.symm; subst hw2) | (refine HI2.out.mono ?_; rintro e w' ⟨rfl, hw'⟩; have hw2 := hw'.symm; subst hw2))
                    go_wp2
                    go_roundw
                    case rel => exact ⟨l, k + 1, by omega, hil, by go_num, ⟨_, _, rfl⟩, HR, HBq, HN⟩
                    case measure => simp [intOf]; omega
                · have hai : (((A : Nat) : Int) == ((c : Nat) : Int)) = false := beq_eq_false_iff_ne.2 (by omega)
                  have hot : oth c p = none := by rw [HOT.out, if_neg hb, if_neg ha]
                  have HI1 := hid (HWB.out Bq)
                  have HI2 := hid (HIB.out Bq)
                  clear HWB HIB HOT
                  have HN := hid (HSK.out (fun b' hb' hw' => by rw [hot] at hb'; cases hb'))
                  clear HSK HPU
                  go_wp2_with (go_at_call 26; first | (refine HI1.out.mono ?_; clear HI1; rintro e w' ⟨rfl, hw'⟩; have hw2 := hw'.symm; subst hw2) | (refine HI2.out.mono ?_; rintro e w' ⟨rfl, hw'⟩; have hw2 := hw'.symm; subst hw2))
                  go_wp2
                  go_roundw
                  case rel => exact ⟨l, k + 1, by omega, hil, by go_num, ⟨_, _, rfl⟩, HR, HBq, HN⟩
                  case measure => simp [intOf]; omega
            · obtain rfl : k = M.length := by omega
              have HFI := hid HCK.out.fin
              have hlw := HCK.out.base.len
              clear HCK
              go_wp2
              go_roundw
              case rel => exact ⟨l, i + 1, by omega, by go_num, ⟨dl, cl, rfl⟩, HR, HBq, HFI⟩
              case measure => simp [intOf]; omega
        · obtain rfl : i = l.length := by omega
          have hE := HC0.out.fin HWN.out HC.out
          rw [hE]
          clear hE HC0
          go_wp2
          go_ret
          exact ⟨by simp, HB.out.trans (HBq.out.mono HB.out.size)⟩
end Go.Proofs.Ytockhhleapbpiaa


/- Package table: the closures of Fix and Out. -/
namespace Go.Proofs.Ytockhhleapbpiaa
open Go.RowKit Go.Shelf

end Go.Proofs.Ytockhhleapbpiaa

