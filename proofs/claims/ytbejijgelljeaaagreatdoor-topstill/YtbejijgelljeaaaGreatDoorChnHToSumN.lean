/- The law's comes: all states that are come to from one. -/
import Derived.Test.YtbejijgelljeaaaGreatDoorChnGToStlA
import Derived.Test.YtbejijgelljeaaaGreatDoorNormBToMadC
import Derived.Test.YtbejijgelljeaaaGreatDoorFillBToHidQ
import Derived.Test.YtbejijgelljeaaaGreatDoorHidBToNormA
namespace Go.Proofs.YtbejijgelljeaaaGreatDoor
open Go.RowKit Go.Shelf

theorem rMulQ (p q : Rat) (U : World) (hp : qw p ≤ 50000) (hq : qw q ≤ 50000) : Calls Tryz.prog 14 #[.agg #[.bool (qF p).1, .string (qF p).2.1, .string (qF p).2.2], .agg #[.bool (qF q).1, .string (qF q).2.1, .string (qF q).2.2]] U fun e w' => e = .returned (.agg #[.bool (qF (p * q)).1, .string (qF (p * q)).2.1, .string (qF (p * q)).2.2]) ∧ Below U.heap.size U w' := by
  have h := rMulF_any (sgn p) (sgn q) (nu p) (de p) (nu q) (de q) U (by rw [own_size]; exact hp) (by rw [own_size]; exact hq)
  rw [val_own, val_own] at h
  exact h
theorem rAddQ (p q : Rat) (U : World) (hp : qw p ≤ 50000) (hq : qw q ≤ 50000) : Calls Tryz.prog 13 #[.agg #[.bool (qF p).1, .string (qF p).2.1, .string (qF p).2.2], .agg #[.bool (qF q).1, .string (qF q).2.1, .string (qF q).2.2]] U fun e w' => e = .returned (.agg #[.bool (qF (p + q)).1, .string (qF (p + q)).2.1, .string (qF (p + q)).2.2]) ∧ Below U.heap.size U w' := by
  have h := rAddF_any (sgn p) (sgn q) (nu p) (de p) (nu q) (de q) U (by rw [own_size]; exact hp) (by rw [own_size]; exact hq)
  rw [val_own, val_own] at h
  exact h
theorem rCmpQ (p q : Rat) (U : World) (hp : qw p ≤ 50000) (hq : qw q ≤ 50000) : Calls Tryz.prog 15 #[.agg #[.bool (qF p).1, .string (qF p).2.1, .string (qF p).2.2], .agg #[.bool (qF q).1, .string (qF q).2.1, .string (qF q).2.2]] U fun e w' => e = .returned (.int .i64 (cmpQ p q)) ∧ Below U.heap.size U w' := by
  have h := rCmpF_any (sgn p) (sgn q) (nu p) (de p) (nu q) (de q) U (by rw [own_size]; exact hp) (by rw [own_size]; exact hq)
  rw [val_own, val_own] at h
  exact h
/-- What the walk has come to, of which the first k are done, of the next one all ways ahead of j. -/
structure BfS (n : Nat) (P : Nat → Nat → Rat) (i : Nat) (S : List Nat) (L : List Nat) (k j : Nat) : Prop where
  nd : L.Nodup
  lt : ∀ x ∈ L, x < n
  cm : ∀ x ∈ L, cmsB n P i x = true
  me : i ∈ L
  off : ∀ t (h : t < L.length), t < k → L[t] ∉ S
  shut : ∀ t (h : t < L.length), t < k → ∀ y, y < n → 0 < P L[t] y → y ∈ L
  cur : ∀ (h : k < L.length) (y : Nat), y < j → y < n → 0 < P L[k] y → y ∈ L
theorem BfS.start {n : Nat} {P : Nat → Nat → Rat} {i : Nat} (S : List Nat) (hi : i < n) : BfS n P i S [i] 0 0 := ⟨by simp, fun x hx => by rw [List.mem_singleton.1 hx]; exact hi, fun x hx => by rw [List.mem_singleton.1 hx]; exact cms_self _ _ _, List.mem_singleton.2 rfl, fun t _ h => absurd h (by omega), fun t _ h => absurd h (by omega), fun _ y h => absurd h (by omega)⟩
theorem BfS.push {n : Nat} {P : Nat → Nat → Rat} {i : Nat} {S L : List Nat} {k j : Nat} (h : BfS n P i S L k j) (hk : k < L.length) (hj : j < n) (hp : 0 < P L[k] j) (hn : j ∉ L) : BfS n P i S (L ++ [j]) k (j + 1) := by
  refine ⟨?_, fun x hx => ?_, fun x hx => ?_, List.mem_append_left _ h.me, fun t ht htk => ?_, fun t ht htk y hy hpy => ?_, fun hk' y hy hyn hpy => ?_⟩
  · rw [List.nodup_append]
    exact ⟨h.nd, by simp, fun x hx y hy e => hn (by rw [← List.mem_singleton.1 hy, ← e]; exact hx)⟩
  · rcases List.mem_append.1 hx with hx | hx
    · exact h.lt x hx
    · rw [List.mem_singleton.1 hx]; exact hj
  · rcases List.mem_append.1 hx with hx | hx
    · exact h.cm x hx
    · rw [List.mem_singleton.1 hx]
      exact cms_trans (h.lt _ (List.getElem_mem hk)) (h.cm _ (List.getElem_mem hk)) (cms_step n P hp)
  · rw [List.getElem_append_left (by omega)]
    exact h.off t (by omega) htk
  · rw [List.getElem_append_left (by omega)] at hpy
    exact List.mem_append_left _ (h.shut t (by omega) htk y hy hpy)
  · rw [List.getElem_append_left hk] at hpy
    by_cases e : y = j
    · subst e; exact List.mem_append_right _ (List.mem_singleton.2 rfl)
    · exact List.mem_append_left _ (h.cur hk y (by omega) hyn hpy)
theorem BfS.pass {n : Nat} {P : Nat → Nat → Rat} {i : Nat} {S L : List Nat} {k j : Nat} (h : BfS n P i S L k j) (hn : ∀ (hk : k < L.length), 0 < P L[k] j → j ∈ L) : BfS n P i S L k (j + 1) := ⟨h.nd, h.lt, h.cm, h.me, h.off, h.shut, fun hk y hy hyn hp => by
  by_cases e : y = j
  · subst e; exact hn hk hp
  · exact h.cur hk y (by omega) hyn hp⟩
theorem BfS.next {n : Nat} {P : Nat → Nat → Rat} {i : Nat} {S L : List Nat} {k : Nat} (h : BfS n P i S L k n) (hk : k < L.length) (hs : L[k] ∉ S) : BfS n P i S L (k + 1) 0 := ⟨h.nd, h.lt, h.cm, h.me, fun t ht htk => by
  by_cases e : t = k
  · subst e; exact hs
  · exact h.off t ht (by omega), fun t ht htk y hy hp => by
  by_cases e : t = k
  · subst e; exact h.cur hk y hy hy hp
  · exact h.shut t ht (by omega) y hy hp, fun _ y hy => absurd hy (by omega)⟩
theorem BfS.none {n : Nat} {P : Nat → Nat → Rat} {i : Nat} {S L : List Nat} (h : BfS n P i S L L.length 0) (hi : i < n) (hS : ∀ x ∈ S, x < n) : S.any (cmsB n P i) = false := by
  rw [List.any_eq_false]
  intro x hx hc
  have hm := cms_shut (S := fun y => y ∈ L) (fun a b _ hb ha hp => by
    obtain ⟨t, ht, e⟩ := List.mem_iff_getElem.1 ha
    exact h.shut t ht ht b hb (by rw [e]; exact hp)) hi (hS x hx) h.me hc
  obtain ⟨t, ht, e⟩ := List.mem_iff_getElem.1 hm
  exact h.off t ht ht (by rw [e]; exact hx)
theorem BfS.yes {n : Nat} {P : Nat → Nat → Rat} {i : Nat} {S L : List Nat} {k j : Nat} (h : BfS n P i S L k j) (hk : k < L.length) (hs : L[k] ∈ S) : S.any (cmsB n P i) = true := List.any_eq_true.2 ⟨_, hs, h.cm _ (List.getElem_mem hk)⟩
theorem inB_chn (x : Nat) (L : List Nat) : inB (x : Int) (iL L) = decide (x ∈ L) := (inB_iL L (by omega)).trans (by simp)

set_option maxRecDepth 100000 in
set_option maxHeartbeats 4000000 in
theorem lwComes_any (a b : Option Addr) (ca cb n i : Nat) (P : Nat → Nat → Rat) (S : List Nat) (w : World) (hR : FsS w a (mR n P)) (hS : IntS w b (iL S)) (hm : ChM n P) (hs : ∀ x ∈ S, x < n) (hl : S.length ≤ 1000) (hi : i < n) :
    Calls Tryz.prog 16 #[.slice a n ca, .int .i64 (i : Nat), .slice b S.length cb] w fun e w' => e = .returned (.bool (S.any (cmsB n P i))) ∧ Below w.heap.size w w' := by
  have h5 := hm.five
  have HR := hid hR
  have HV := hid hS
  have HSN := hid hs
  have HFIT := hid hm.fit
  have HO0 := hid (fun V : World => rOf_zero V)
  clear hR hS hm hs
  have HI0 : Hid (RwI (w.alloc (.cells #[.int .i64 (i : Nat)] 3)) w.heap.size (.slice (some ⟨w.heap.size, 0, none⟩) 1 1) (iL [i])) := World.ownsRow_lit w #[.int .i64 (i : Nat)] 1 (Nat.le_refl _) (by decide) rfl
  have HB0 := hid ((Below.refl w.heap.size w).alloc (Nat.le_refl _) (.cells #[.int .i64 (i : Nat)] 3))
  go_enter Tryz.func16, Tryz.ntmps16
  go_wp2_with fail
  generalize (w.alloc (.cells #[.int .i64 (i : Nat)] 3)) = w1 at *
  go_loopw [7, 8] (fun lv kv wr => ∃ (k : Nat) (L : List Nat), kv = .int .i64 k ∧ k ≤ L.length ∧ Hid (BfS n P i S L k 0) ∧ Hid (RwI wr w.heap.size lv (iL L)) ∧ Hid (Below w.heap.size w wr)) (fun _ kv _ => n - (intOf kv).toNat)
  case atStart => exact ⟨0, [i], rfl, Nat.zero_le _, BfS.start S hi, HI0, HB0⟩
  case round =>
    obtain ⟨k, L, rfl, hkl, HF, HRI, HB⟩ := hrel
    clear HI0 HB0
    obtain ⟨dl, cl, rfl, hii⟩ := RwI.ints HRI.out
    rw [iL_length] at HRI ⊢
    by_cases hkL : k < L.length
    · have hki : k < (iL L).length := by rw [iL_length]; exact hkL
      obtain ⟨gl, ol, rfl, hgl, c0⟩ := hii k hki
      rw [iL_get hkL] at c0
      have hlkn := HF.out.lt _ (List.getElem_mem hkL)
      have hLn := nod_most HF.out.nd HF.out.lt
      have HINK := hid (rIn_any ((L[k] : Nat) : Int) b cb (iL S) wr (HV.out.below HB.out) (by rw [iL_length]; omega))
      rw [inB_chn, iL_length] at HINK
      obtain ⟨lk, hlk⟩ : ∃ x, L[k] = x := ⟨_, rfl⟩
      have HLK0 := hid hlk
      rw [hlk] at c0 HINK hlkn
      clear hlk hii
      go_wp2_with fail
      refine HINK.out.mono ?_
      rintro e w2 ⟨rfl, rfl⟩
      by_cases hin : lk ∈ S
      · have HY := hid (HF.out.yes hkL (by rw [HLK0.out]; exact hin))
        rw [decide_eq_true hin]
        go_wp2
        go_ret
        exact ⟨by rw [HY.out]; rfl, HB.out⟩
      · have HNI : Hid (lk ∉ S) := hin
        rw [decide_eq_false hin]
        clear hin c0 hgl
        have HLQ0 : Hid (L[k]? = some lk) := by show _ = _; rw [List.getElem?_eq_getElem hkL, HLK0.out]
        go_wp2_with fail
        go_loopw [7, 9] (fun lv jv wr => ∃ (j : Nat) (L : List Nat), j ≤ n ∧ jv = .int .i64 j ∧ Hid (BfS n P i S L k j) ∧ Hid (L[k]? = some lk) ∧ Hid (RwI wr w.heap.size lv (iL L)) ∧ Hid (Below w.heap.size w wr)) (fun _ jv _ => n - (intOf jv).toNat)
        case atStart => exact ⟨0, L, Nat.zero_le _, rfl, HF, HLQ0, HRI, HB⟩
        case round =>
          clear HF HRI HB HINK HLK0 hkL hLn hkl hki HLQ0
          obtain ⟨j, L, hj, rfl, HF, HLL, HRI, HB⟩ := hrel
          obtain ⟨hkL, hLKe⟩ := List.getElem?_eq_some_iff.1 HLL.out
          obtain ⟨dl, cl, rfl, hii⟩ := RwI.ints HRI.out
          rw [iL_length] at HRI ⊢
          have hLn := nod_most HF.out.nd HF.out.lt
          have HLK := hid hLKe
          by_cases hlj : j < n
          · have hki : k < (iL L).length := by rw [iL_length]; exact hkL
            obtain ⟨gl, ol, rfl, hgl, c0⟩ := hii k hki
            rw [iL_get hkL, hLKe] at c0
            obtain ⟨g, o, gr, or_, cr, hae, hg, hgr, x0, x1, x2, x3⟩ := (HR.out.below HB.out).at hlkn hlj
            subst hae
            have hpl : qw (P lk j) ≤ 50000 := by have := fits_qw (HFIT.out lk j hlkn hlj); omega
            have HCM : Hid (∀ U : World, Calls Tryz.prog 15 #[.agg #[.bool (qF (P lk j)).1, .string (qF (P lk j)).2.1, .string (qF (P lk j)).2.2], .agg #[.bool (sgn 0), .string (nu 0), .string (de 0)]] U fun e w' => e = .returned (.int .i64 (cmpQ (P lk j) 0)) ∧ Below U.heap.size U w') := fun U => rCmpQ (P lk j) 0 U hpl (by have := qw_zero; omega)
            have HIN : Hid (∀ U : World, Below wr.heap.size wr U → Calls Tryz.prog 12 #[.int .i64 (j : Nat), .slice (some ⟨gl, ol, none⟩) L.length cl] U fun e w' => e = .returned (.bool (decide (j ∈ L))) ∧ w' = U) := fun U hU => by
              have h := rIn_any ((j : Nat) : Int) (some ⟨gl, ol, none⟩) cl (iL L) U (hii.below hU) (by rw [iL_length]; omega)
              rw [inB_chn, iL_length] at h
              exact h
            obtain ⟨bv, hbv⟩ : ∃ b, decide (0 < cmpQ (P lk j) 0) = b := ⟨_, rfl⟩
            have HNO : Hid (bv = false → ¬ 0 < P lk j) := fun e hp => by rw [e] at hbv; exact of_decide_eq_false hbv (cmpQ_pos.2 hp)
            have HYE : Hid (bv = true → 0 < P lk j) := fun e => by rw [e] at hbv; exact cmpQ_pos.1 (of_decide_eq_true hbv)
            have HBV := hid hbv
            clear hbv hpl
            generalize cmpQ (P lk j) 0 = cv at *
            generalize hzz : qF (P lk j) = zz at *
            obtain ⟨an, ax, ay⟩ := zz
            simp only at x1 x2 x3 HCM
            obtain ⟨iv, hiv⟩ : ∃ b, decide (j ∈ L) = b := ⟨_, rfl⟩
            have HIV := hid hiv
            rw [hiv] at HIN
            clear hiv hii hzz hLKe
            obtain ⟨m, hme⟩ : ∃ m, L.length = m := ⟨_, rfl⟩
            have HME := hid hme
            rw [hme] at hLn
            simp only [hme] at HIN HRI ⊢
            clear hme
            have hkm : k < m := by rw [← HME.out]; exact hkL
            generalize sgn 0 = zn at *
            generalize nu 0 = zx at *
            generalize de 0 = zy at *
            go_upto_region 10 with fail
            have HELD : Hid (∀ u, Below wr.heap.size wr u → u.cell? ⟨gl, ol + k, none⟩ = some (.int .i64 (lk : Nat)) ∧ u.cell? ⟨g, o + lk, none⟩ = some (.slice (some ⟨gr, or_, none⟩) n cr) ∧ u.cell? ⟨gr, or_ + j * 3, none⟩ = some (.bool an) ∧ u.cell? ⟨gr, or_ + j * 3 + 1, none⟩ = some (.string ax) ∧ u.cell? ⟨gr, or_ + j * 3 + 2, none⟩ = some (.string ay)) := fun u h => ⟨(h.cell (p := ⟨gl, _, none⟩) hgl).trans c0, (h.cell (p := ⟨g, _, none⟩) hg).trans x0, (h.cell (p := ⟨gr, _, none⟩) hgr).trans x1, (h.cell (p := ⟨gr, _, none⟩) hgr).trans x2, (h.cell (p := ⟨gr, _, none⟩) hgr).trans x3⟩
            have HU : Hid (Below wr.heap.size wr wr.drew) := (Below.refl _ _).drew
            clear c0 x0 x1 x2 x3
            refine wp_region_held_drew (S := fun u => u.cell? ⟨gl, ol + k, none⟩ = some (.int .i64 (lk : Nat)) ∧ u.cell? ⟨g, o + lk, none⟩ = some (.slice (some ⟨gr, or_, none⟩) n cr) ∧ u.cell? ⟨gr, or_ + j * 3, none⟩ = some (.bool an) ∧ u.cell? ⟨gr, or_ + j * 3 + 1, none⟩ = some (.string ax) ∧ u.cell? ⟨gr, or_ + j * 3 + 2, none⟩ = some (.string ay)) (by kernel_rfl) (HELD.out _ HU.out) (fun hSd => ?_)
            generalize wr.drew = u0 at *
            refine wpAnyH_take (i := 0) (oi := _) (v := .slice (some ⟨g, o, none⟩) n ca) rfl (by kernel_rfl) (by kernel_rfl) (by kernel_rfl) (fun _ _ _ h => h) (Or.inl ⟨by rfl, ?_⟩) (by assumption) ?_
            · intro u' hSu
              (try simp only [List.getElem_toArray, List.getElem_cons_zero])
              go_simp
            (try simp only [List.getElem_toArray, List.getElem_cons_zero])
            (try simp only [Act.put, List.setIfInBounds_toArray, List.set_cons_zero, List.set_cons_succ])
            refine wpAnyH_take (i := 1) (oi := _) (v := .slice (some ⟨gl, ol, none⟩) m cl) rfl (by kernel_rfl) (by kernel_rfl) (by kernel_rfl) (fun _ _ _ h => h) (Or.inl ⟨by rfl, ?_⟩) (by assumption) ?_
            · intro u' hSu
              (try simp only [List.getElem_toArray, List.getElem_cons_zero, List.getElem_cons_succ])
              go_simp
            (try simp only [List.getElem_toArray, List.getElem_cons_zero, List.getElem_cons_succ])
            (try simp only [Act.put, List.setIfInBounds_toArray, List.set_cons_zero, List.set_cons_succ])
            refine wpAnyH_take (i := 2) (oi := _) (v := .int .i64 (k : Nat)) rfl (by kernel_rfl) (by kernel_rfl) (by kernel_rfl) (fun _ _ _ h => h) (Or.inl ⟨by rfl, ?_⟩) (by assumption) ?_
            · intro u' hSu
              (try simp only [List.getElem_toArray, List.getElem_cons_zero, List.getElem_cons_succ])
              go_simp
            (try simp only [List.getElem_toArray, List.getElem_cons_zero, List.getElem_cons_succ])
            (try simp only [Act.put, List.setIfInBounds_toArray, List.set_cons_zero, List.set_cons_succ])
            refine wpAnyH_take (i := 3) (oi := _) (v := .pointer (some ⟨gl, ol + k, none⟩)) rfl (by kernel_rfl) (by kernel_rfl) (by kernel_rfl) (fun _ _ _ h => h) (Or.inl ⟨by rfl, ?_⟩) (by assumption) ?_
            · intro u' hSu
              (try simp only [List.getElem_toArray, List.getElem_cons_zero, List.getElem_cons_succ])
              go_simp
            (try simp only [List.getElem_toArray, List.getElem_cons_zero, List.getElem_cons_succ])
            (try simp only [Act.put, List.setIfInBounds_toArray, List.set_cons_zero, List.set_cons_succ])
            refine wpAnyH_take (i := 4) (oi := _) (v := .int .i64 (lk : Nat)) rfl (by kernel_rfl) (by kernel_rfl) (by kernel_rfl) (fun _ _ _ h => h) (Or.inl ⟨by rfl, ?_⟩) (by assumption) ?_
            · intro u' hSu
              (try simp only [List.getElem_toArray, List.getElem_cons_zero, List.getElem_cons_succ])
              obtain ⟨s0, s1, s2, s3, s4⟩ := hSu
              go_simp
            (try simp only [List.getElem_toArray, List.getElem_cons_zero, List.getElem_cons_succ])
            (try simp only [Act.put, List.setIfInBounds_toArray, List.set_cons_zero, List.set_cons_succ])
            refine wpAnyH_take (i := 5) (oi := _) (v := .pointer (some ⟨g, o + lk, none⟩)) rfl (by kernel_rfl) (by kernel_rfl) (by kernel_rfl) (fun _ _ _ h => h) (Or.inl ⟨by rfl, ?_⟩) (by assumption) ?_
            · intro u' hSu
              (try simp only [List.getElem_toArray, List.getElem_cons_zero, List.getElem_cons_succ])
              go_simp
            (try simp only [List.getElem_toArray, List.getElem_cons_zero, List.getElem_cons_succ])
            (try simp only [Act.put, List.setIfInBounds_toArray, List.set_cons_zero, List.set_cons_succ])
            refine wpAnyH_take (i := 6) (oi := _) (v := .slice (some ⟨gr, or_, none⟩) n cr) rfl (by kernel_rfl) (by kernel_rfl) (by kernel_rfl) (fun _ _ _ h => h) (Or.inl ⟨by rfl, ?_⟩) (by assumption) ?_
            · intro u' hSu
              (try simp only [List.getElem_toArray, List.getElem_cons_zero, List.getElem_cons_succ])
              obtain ⟨s0, s1, s2, s3, s4⟩ := hSu
              go_simp
            (try simp only [List.getElem_toArray, List.getElem_cons_zero, List.getElem_cons_succ])
            (try simp only [Act.put, List.setIfInBounds_toArray, List.set_cons_zero, List.set_cons_succ])
            refine wpAnyH_take (i := 7) (oi := _) (v := .int .i64 (j : Nat)) rfl (by kernel_rfl) (by kernel_rfl) (by kernel_rfl) (fun _ _ _ h => h) (Or.inl ⟨by rfl, ?_⟩) (by assumption) ?_
            · intro u' hSu
              (try simp only [List.getElem_toArray, List.getElem_cons_zero, List.getElem_cons_succ])
              go_simp
            (try simp only [List.getElem_toArray, List.getElem_cons_zero, List.getElem_cons_succ])
            (try simp only [Act.put, List.setIfInBounds_toArray, List.set_cons_zero, List.set_cons_succ])
            refine wpAnyH_take (i := 8) (oi := _) (v := .pointer (some ⟨gr, or_ + j * 3, none⟩)) rfl (by kernel_rfl) (by kernel_rfl) (by kernel_rfl) (fun _ _ _ h => h) (Or.inl ⟨by rfl, ?_⟩) (by assumption) ?_
            · intro u' hSu
              (try simp only [List.getElem_toArray, List.getElem_cons_zero, List.getElem_cons_succ])
              go_simp
            (try simp only [List.getElem_toArray, List.getElem_cons_zero, List.getElem_cons_succ])
            (try simp only [Act.put, List.setIfInBounds_toArray, List.set_cons_zero, List.set_cons_succ])
            refine wpAnyH_take (i := 9) (oi := _) (v := .agg #[.bool an, .string ax, .string ay]) rfl (by kernel_rfl) (by kernel_rfl) (by kernel_rfl) (fun _ _ _ h => h) (Or.inl ⟨by rfl, ?_⟩) (by assumption) ?_
            · intro u' hSu
              (try simp only [List.getElem_toArray, List.getElem_cons_zero, List.getElem_cons_succ])
              obtain ⟨s0, s1, s2, s3, s4⟩ := hSu
              go_simp
            (try simp only [List.getElem_toArray, List.getElem_cons_zero, List.getElem_cons_succ])
            (try simp only [Act.put, List.setIfInBounds_toArray, List.set_cons_zero, List.set_cons_succ])
            refine wpAnyH_ready (rs := [10]) (by kernel_rfl) (by simp) (AllReadyH.cons rfl ?_ (AllReadyH.nil))
            · intro K' hK'
              (try simp only [List.getElem_toArray, List.getElem_cons_zero, List.getElem_cons_succ])
              go_simp
              refine (HO0.out _).mono ?_
              rintro e u1 ⟨rfl, hb⟩
              replace HU := hid (HU.out.trans (hb.mono HU.out.size))
              refine hK'.out _ _ (HELD.out _ HU.out) (fun hSe => ?_)
              clear hK' K' hSd hb
              have hSd := hSe
              clear hSe
              (try simp only [List.getElem_toArray, List.getElem_cons_zero, List.getElem_cons_succ])
              (try simp only [Act.put, List.setIfInBounds_toArray, List.set_cons_zero, List.set_cons_succ])
              refine wpAnyH_ready (rs := [11]) (by kernel_rfl) (by simp) (AllReadyH.cons rfl ?_ (AllReadyH.nil))
              · intro K' hK'
                (try simp only [List.getElem_toArray, List.getElem_cons_zero, List.getElem_cons_succ])
                go_simp
                refine (HCM.out _).mono ?_
                rintro e u2 ⟨rfl, hb⟩
                replace HU := hid (HU.out.trans (hb.mono HU.out.size))
                refine hK'.out _ _ (HELD.out _ HU.out) (fun hSe => ?_)
                clear hK' K' hSd hb
                have hSd := hSe
                clear hSe
                (try simp only [List.getElem_toArray, List.getElem_cons_zero, List.getElem_cons_succ])
                (try simp only [Act.put, List.setIfInBounds_toArray, List.set_cons_zero, List.set_cons_succ])
                cases bv with
                | false =>
                  refine wpAnyH_take (i := 12) (oi := _) (v := .bool false) rfl (by kernel_rfl) (by kernel_rfl) (by kernel_rfl) (fun _ _ _ h => h) (Or.inl ⟨by rfl, ?_⟩) (by assumption) ?_
                  · intro u' hSu
                    (try simp only [List.getElem_toArray, List.getElem_cons_zero, List.getElem_cons_succ])
                    go_simp
                    exact Int.not_lt.1 (of_decide_eq_false HBV.out)
                  (try simp only [List.getElem_toArray, List.getElem_cons_zero, List.getElem_cons_succ])
                  (try simp only [Act.put, List.setIfInBounds_toArray, List.set_cons_zero, List.set_cons_succ])
                  refine wpAnyH_take (i := 13) (oi := _) (v := .bool false) rfl (by kernel_rfl) (by kernel_rfl) (by kernel_rfl) (fun _ _ _ h => h) (Or.inl ⟨by rfl, ?_⟩) (by assumption) ?_
                  · intro u' hSu
                    (try simp only [List.getElem_toArray, List.getElem_cons_zero, List.getElem_cons_succ])
                    go_simp
                  (try simp only [List.getElem_toArray, List.getElem_cons_zero, List.getElem_cons_succ])
                  (try simp only [Act.put, List.setIfInBounds_toArray, List.set_cons_zero, List.set_cons_succ])
                  refine wpAnyH_take (i := 14) (oi := _) (v := undef) rfl (by kernel_rfl) (by kernel_rfl) (by kernel_rfl) (fun _ _ _ h => h) (Or.inr ⟨by rfl, rfl⟩) (by assumption) ?_
                  (try simp only [List.getElem_toArray, List.getElem_cons_zero, List.getElem_cons_succ])
                  (try simp only [Act.put, List.setIfInBounds_toArray, List.set_cons_zero, List.set_cons_succ])
                  refine wpAnyH_take (i := 15) (oi := _) (v := undef) rfl (by kernel_rfl) (by kernel_rfl) (by kernel_rfl) (fun _ _ _ h => h) (Or.inr ⟨by rfl, rfl⟩) (by assumption) ?_
                  (try simp only [List.getElem_toArray, List.getElem_cons_zero, List.getElem_cons_succ])
                  (try simp only [Act.put, List.setIfInBounds_toArray, List.set_cons_zero, List.set_cons_succ])
                  refine wpAnyH_take (i := 16) (oi := _) (v := undef) rfl (by kernel_rfl) (by kernel_rfl) (by kernel_rfl) (fun _ _ _ h => h) (Or.inr ⟨by rfl, rfl⟩) (by assumption) ?_
                  (try simp only [List.getElem_toArray, List.getElem_cons_zero, List.getElem_cons_succ])
                  (try simp only [Act.put, List.setIfInBounds_toArray, List.set_cons_zero, List.set_cons_succ])
                  refine wpAnyH_take (i := 17) (oi := _) (v := undef) rfl (by kernel_rfl) (by kernel_rfl) (by kernel_rfl) (fun _ _ _ h => h) (Or.inr ⟨by rfl, rfl⟩) (by assumption) ?_
                  (try simp only [List.getElem_toArray, List.getElem_cons_zero, List.getElem_cons_succ])
                  (try simp only [Act.put, List.setIfInBounds_toArray, List.set_cons_zero, List.set_cons_succ])
                  refine wpAnyH_take (i := 18) (oi := _) (v := .bool false) rfl (by kernel_rfl) (by kernel_rfl) (by kernel_rfl) (fun _ _ _ h => h) (Or.inl ⟨by rfl, ?_⟩) (by assumption) ?_
                  · intro u' hSu
                    (try simp only [List.getElem_toArray, List.getElem_cons_zero, List.getElem_cons_succ])
                    go_simp
                  (try simp only [List.getElem_toArray, List.getElem_cons_zero, List.getElem_cons_succ])
                  (try simp only [Act.put, List.setIfInBounds_toArray, List.set_cons_zero, List.set_cons_succ])
                  refine wpAnyH_done (by kernel_rfl) ?_ _
                  clear hSd
                  have HRN := hid (HRI.out.below HU.out)
                  have HBN := hid (HB.out.trans (HU.out.mono HB.out.size))
                  have HFN := hid (HF.out.pass fun _ hp => absurd (by rw [HLK.out] at hp; exact hp) (HNO.out rfl))
                  go_wp2
                  go_roundw
                  case rel => exact ⟨j + 1, L, by omega, by go_num, HFN, HLL, HRN, HBN⟩
                  case measure => simp [intOf]; omega
                | true =>
                  refine wpAnyH_take (i := 12) (oi := _) (v := .bool true) rfl (by kernel_rfl) (by kernel_rfl) (by kernel_rfl) (fun _ _ _ h => h) (Or.inl ⟨by rfl, ?_⟩) (by assumption) ?_
                  · intro u' hSu
                    (try simp only [List.getElem_toArray, List.getElem_cons_zero, List.getElem_cons_succ])
                    go_simp
                    exact of_decide_eq_true HBV.out
                  (try simp only [List.getElem_toArray, List.getElem_cons_zero, List.getElem_cons_succ])
                  (try simp only [Act.put, List.setIfInBounds_toArray, List.set_cons_zero, List.set_cons_succ])
                  refine wpAnyH_take (i := 13) (oi := _) (v := .bool true) rfl (by kernel_rfl) (by kernel_rfl) (by kernel_rfl) (fun _ _ _ h => h) (Or.inl ⟨by rfl, ?_⟩) (by assumption) ?_
                  · intro u' hSu
                    (try simp only [List.getElem_toArray, List.getElem_cons_zero, List.getElem_cons_succ])
                    go_simp
                  (try simp only [List.getElem_toArray, List.getElem_cons_zero, List.getElem_cons_succ])
                  (try simp only [Act.put, List.setIfInBounds_toArray, List.set_cons_zero, List.set_cons_succ])
                  refine wpAnyH_take (i := 14) (oi := _) (v := .int .i64 (j : Nat)) rfl (by kernel_rfl) (by kernel_rfl) (by kernel_rfl) (fun _ _ _ h => h) (Or.inl ⟨by rfl, ?_⟩) (by assumption) ?_
                  · intro u' hSu
                    (try simp only [List.getElem_toArray, List.getElem_cons_zero, List.getElem_cons_succ])
                    go_simp
                  (try simp only [List.getElem_toArray, List.getElem_cons_zero, List.getElem_cons_succ])
                  (try simp only [Act.put, List.setIfInBounds_toArray, List.set_cons_zero, List.set_cons_succ])
                  refine wpAnyH_take (i := 15) (oi := _) (v := .slice (some ⟨gl, ol, none⟩) m cl) rfl (by kernel_rfl) (by kernel_rfl) (by kernel_rfl) (fun _ _ _ h => h) (Or.inl ⟨by rfl, ?_⟩) (by assumption) ?_
                  · intro u' hSu
                    (try simp only [List.getElem_toArray, List.getElem_cons_zero, List.getElem_cons_succ])
                    go_simp
                  (try simp only [List.getElem_toArray, List.getElem_cons_zero, List.getElem_cons_succ])
                  (try simp only [Act.put, List.setIfInBounds_toArray, List.set_cons_zero, List.set_cons_succ])
                  refine wpAnyH_ready (rs := [16]) (by kernel_rfl) (by simp) (AllReadyH.cons rfl ?_ (AllReadyH.nil))
                  · intro K' hK'
                    (try simp only [List.getElem_toArray, List.getElem_cons_zero, List.getElem_cons_succ])
                    go_simp
                    refine (HIN.out _ HU.out).mono ?_
                    rintro e u3 ⟨rfl, rfl⟩
                    refine hK'.out _ _ (HELD.out _ HU.out) (fun hSe => ?_)
                    clear hK' K' hSd
                    have hSd := hSe
                    clear hSe
                    cases iv with
                    | true =>
                      (try simp only [List.getElem_toArray, List.getElem_cons_zero, List.getElem_cons_succ])
                      (try simp only [Act.put, List.setIfInBounds_toArray, List.set_cons_zero, List.set_cons_succ])
                      refine wpAnyH_take (i := 17) (oi := _) (v := .bool false) rfl (by kernel_rfl) (by kernel_rfl) (by kernel_rfl) (fun _ _ _ h => h) (Or.inl ⟨by rfl, ?_⟩) (by assumption) ?_
                      · intro u' hSu
                        (try simp only [List.getElem_toArray, List.getElem_cons_zero, List.getElem_cons_succ])
                        go_simp
                      (try simp only [List.getElem_toArray, List.getElem_cons_zero, List.getElem_cons_succ])
                      (try simp only [Act.put, List.setIfInBounds_toArray, List.set_cons_zero, List.set_cons_succ])
                      refine wpAnyH_take (i := 18) (oi := _) (v := .bool false) rfl (by kernel_rfl) (by kernel_rfl) (by kernel_rfl) (fun _ _ _ h => h) (Or.inl ⟨by rfl, ?_⟩) (by assumption) ?_
                      · intro u' hSu
                        (try simp only [List.getElem_toArray, List.getElem_cons_zero, List.getElem_cons_succ])
                        go_simp
                      (try simp only [List.getElem_toArray, List.getElem_cons_zero, List.getElem_cons_succ])
                      (try simp only [Act.put, List.setIfInBounds_toArray, List.set_cons_zero, List.set_cons_succ])
                      refine wpAnyH_done (by kernel_rfl) ?_ _
                      clear hSd
                      have HRN := hid (HRI.out.below HU.out)
                      have HBN := hid (HB.out.trans (HU.out.mono HB.out.size))
                      have HFN := hid (HF.out.pass fun _ _ => of_decide_eq_true HIV.out)
                      go_wp2
                      go_roundw
                      case rel => exact ⟨j + 1, L, by omega, by go_num, HFN, HLL, HRN, HBN⟩
                      case measure => simp [intOf]; omega
                    | false =>
                      (try simp only [List.getElem_toArray, List.getElem_cons_zero, List.getElem_cons_succ])
                      (try simp only [Act.put, List.setIfInBounds_toArray, List.set_cons_zero, List.set_cons_succ])
                      refine wpAnyH_take (i := 17) (oi := _) (v := .bool true) rfl (by kernel_rfl) (by kernel_rfl) (by kernel_rfl) (fun _ _ _ h => h) (Or.inl ⟨by rfl, ?_⟩) (by assumption) ?_
                      · intro u' hSu
                        (try simp only [List.getElem_toArray, List.getElem_cons_zero, List.getElem_cons_succ])
                        go_simp
                      (try simp only [List.getElem_toArray, List.getElem_cons_zero, List.getElem_cons_succ])
                      (try simp only [Act.put, List.setIfInBounds_toArray, List.set_cons_zero, List.set_cons_succ])
                      refine wpAnyH_take (i := 18) (oi := _) (v := .bool true) rfl (by kernel_rfl) (by kernel_rfl) (by kernel_rfl) (fun _ _ _ h => h) (Or.inl ⟨by rfl, ?_⟩) (by assumption) ?_
                      · intro u' hSu
                        (try simp only [List.getElem_toArray, List.getElem_cons_zero, List.getElem_cons_succ])
                        go_simp
                      (try simp only [List.getElem_toArray, List.getElem_cons_zero, List.getElem_cons_succ])
                      (try simp only [Act.put, List.setIfInBounds_toArray, List.set_cons_zero, List.set_cons_succ])
                      refine wpAnyH_done (by kernel_rfl) ?_ _
                      clear hSd
                      have HRN := hid (HRI.out.below HU.out)
                      have HBN := hid (HB.out.trans (HU.out.mono HB.out.size))
                      have HFN := hid (HF.out.push hkL hlj (by rw [HLK.out]; exact HYE.out rfl) (of_decide_eq_false HIV.out))
                      have HOWN := hid HRN.out.own
                      have HRA : Hid (RwI (u3.alloc (.cells #[.int .i64 (j : Nat)] 3)) w.heap.size _ (iL L)) := World.ownsRow.alloc HRN.out _
                      have HBA := hid (HBN.out.alloc HBN.out.size (.cells #[.int .i64 (j : Nat)] 3))
                      have HIA := hid (new_int u3 (j : Nat))
                      have HLA : Hid (iL (L ++ [j]) = iL L ++ [((j : Nat) : Int)]) := by show _ = _; rw [iL_append]; rfl
                      go_wp2_with (at_builtin; refine wpList_append_ints rfl _ _ rfl w.heap.size _ (iL L) [((j : Nat) : Int)] rfl HRA.out (some ⟨u3.heap.size, 0, none⟩) 1 rfl HIA.out (fun e => by cases e) (by rw [iL_length, HME.out]; simp; omega) HBA.out.size ?_; intro v' w3 hr3 hg3; have HB3 := hid (HBA.out.grown hg3 HBA.out.size HOWN.out); have HR3 : Hid (RwI w3 w.heap.size v' (iL (L ++ [j]))) := (by rw [HLA.out]; exact hr3))
                      go_roundw
                      case rel => exact ⟨j + 1, L ++ [j], by omega, by go_num, HFN, by show _ = _; rw [List.getElem?_append_left hkL]; exact HLL.out, HR3, HB3⟩
                      case measure => simp [intOf]; omega
          · obtain rfl : n = j := by omega
            have HFN := hid (HF.out.next hkL (by rw [HLK.out]; exact HNI.out))
            clear hii hLKe
            go_wp2
            go_roundw
            case rel => exact ⟨k + 1, L, by go_num, by omega, HFN, HRI, HB⟩
            case measure => simp [intOf]; omega
    · obtain rfl : k = L.length := by omega
      have HNN := hid (HF.out.none hi HSN.out)
      go_wp2
      go_ret
      exact ⟨by rw [HNN.out]; rfl, HB.out⟩
end Go.Proofs.YtbejijgelljeaaaGreatDoor


/- Nets: the number that a net has for a variable's value: likely of package net, rowAt of the document's answer. -/
namespace Go.Proofs.YtbejijgelljeaaaGreatDoor
open Go.RowKit Go.Shelf

theorem cnt_le_all {S : List Nat} (h : ∀ v, sz S v ≤ 4) {vs : List Nat} (hl : vs.length ≤ 8) : cnt S vs ≤ 65536 := cnt_small h hl
theorem pos_take_le {S : List Nat} (hp : ∀ v, sz S v ≤ 4) (f : Nat → Nat) (hf : ∀ u, f u < sz S u) {P : List Nat} (hl : P.length ≤ 8) (i : Nat) : pos S f (P.take i) ≤ 65536 := by
  have h1 := pos_lt f hf (P.take i)
  have h2 := cnt_small hp (vs := P.take i) (by rw [List.length_take]; omega)
  omega
/-- Where the number stands. -/
def likT (S : List Nat) (P : List Nat) (f : Nat → Nat) (v : Nat) : Nat := pos S f P * sz S v + f v
theorem likT_lt {S P : List Nat} {f : Nat → Nat} (hf : ∀ u, f u < sz S u) (v : Nat) : likT S P f v < cnt S P * sz S v := by
  have h1 := pos_lt f hf P
  have h2 := hf v
  rw [likT]
  calc pos S f P * sz S v + f v < pos S f P * sz S v + sz S v := by omega
    _ = (pos S f P + 1) * sz S v := by rw [Nat.add_mul, Nat.one_mul]
    _ ≤ cnt S P * sz S v := Nat.mul_le_mul_right _ h1

end Go.Proofs.YtbejijgelljeaaaGreatDoor


/- Nets: how likely all values are: joint of the document's answer. -/
namespace Go.Proofs.YtbejijgelljeaaaGreatDoor
open Go.RowKit Go.Shelf

/-- A net that may be. -/
structure NOK (V : List Vr) (L : List (List Int)) (R : List (List Fr)) : Prop where
  len : L.length = V.length
  lenR : R.length = V.length
  n8 : V.length ≤ 8
  fine : Fine (iL (sizesN V))
  up : ∀ v (h : v < L.length), Up L[v] V.length
  rows : ∀ v (h : v < L.length) (h' : v < R.length), R[v].length = cnt (sizesN V) (toN L[v]) * sz (sizesN V) v
theorem firstE_zero {f : Nat → Int} : ∀ {n : Nat}, firstE f n = 0 → ∀ j, j < n → f j = 0
  | 0, _, j, hj => by omega
  | n + 1, hz, j, hj => by
    rw [firstE] at hz
    by_cases e : firstE f n = 0
    · rw [if_pos e] at hz
      rcases Nat.lt_or_ge j n with h2 | h2
      · exact firstE_zero e j h2
      · obtain rfl : j = n := by omega
        exact hz
    · rw [if_neg e] at hz; exact absurd hz e
theorem netE_ok {V : List Vr} {L : List (List Int)} {R : List (List Fr)} (h : netE V L R = 0) : NOK V L R := by
  rw [netE] at h
  by_cases h1 : L.length = V.length ∧ R.length = V.length
  · rw [if_pos h1] at h
    by_cases h2 : gcE L = 0
    · rw [if_pos h2] at h
      by_cases h3 : varsE V = 0
      · rw [if_pos h3] at h
        obtain ⟨hf, h8, hu⟩ := fine_sizes h1.1 h2 h3
        refine ⟨h1.1, h1.2, by omega, hf, fun v hv => by rw [← h1.1]; exact hu v hv, fun v hv hr => ?_⟩
        have h4 := firstE_zero h v (by omega)
        rw [rowE, List.getD_eq_getElem?_getD, List.getElem?_eq_getElem hr, List.getD_eq_getElem?_getD, List.getElem?_eq_getElem hv] at h4
        by_cases h5 : R[v].length = cnt (sizesN V) (toN L[v]) * sz (sizesN V) v
        · exact h5
        · simp only [Option.getD_some] at h4
          rw [if_neg h5] at h4
          exact absurd h4 (by decide)
      · rw [if_neg h3] at h; exact absurd h h3
    · rw [if_neg h2] at h; exact absurd h h2
  · rw [if_neg h1] at h; exact absurd h (by decide)
/-- The number of a variable. -/
def likF (V : List Vr) (L : List (List Int)) (R : List (List Fr)) (f : Nat → Nat) (v : Nat) : Fr := celF (R.getD v []) (likT (sizesN V) (toN (L.getD v [])) f v)
/-- The product of the first. -/
def prodV (V : List Vr) (L : List (List Int)) (R : List (List Fr)) (f : Nat → Nat) : Nat → Rat
  | 0 => 1
  | k + 1 => prodV V L R f k * frQ (likF V L R f k)
theorem likF_eq {V : List Vr} {L : List (List Int)} {R : List (List Fr)} {f : Nat → Nat} {v : Nat} (hL : v < L.length) (hR : v < R.length) : likF V L R f v = celF R[v] (likT (sizesN V) (toN L[v]) f v) := by
  rw [likF, List.getD_eq_getElem?_getD, List.getElem?_eq_getElem hR, List.getD_eq_getElem?_getD, List.getElem?_eq_getElem hL]
  rfl
theorem prodV_zero {V : List Vr} {L : List (List Int)} {R : List (List Fr)} {f : Nat → Nat} {v : Nat} (h : frQ (likF V L R f v) = 0) : ∀ n, v < n → prodV V L R f n = 0
  | 0, hn => by omega
  | n + 1, hn => by
    rw [prodV]
    rcases Nat.lt_or_ge v n with h1 | h1
    · rw [prodV_zero h n h1, Rat.zero_mul]
    · obtain rfl : v = n := by omega
      rw [h, Rat.mul_zero]
theorem likF_size {V : List Vr} {L : List (List Int)} {R : List (List Fr)} {f : Nat → Nat} (hok : NOK V L R) (hf : ∀ u, f u < sz (sizesN V) u) (hw : ∀ l ∈ R, fw l ≤ 4200) {v : Nat} (hv : v < V.length) : (likF V L R f v).2.1.size + (likF V L R f v).2.2.size ≤ 4200 := by
  have hL : v < L.length := by rw [hok.len]; exact hv
  have hR : v < R.length := by rw [hok.lenR]; exact hv
  rw [likF_eq hL hR]
  have h1 := likT_lt (S := sizesN V) (P := toN L[v]) hf v
  rw [← hok.rows v hL hR] at h1
  have h2 := celF_size h1
  have h3 := hw R[v] (List.getElem_mem hR)
  omega
theorem prodV_size {V : List Vr} {L : List (List Int)} {R : List (List Fr)} {f : Nat → Nat} (hok : NOK V L R) (hf : ∀ u, f u < sz (sizesN V) u) (hw : ∀ l ∈ R, fw l ≤ 4200) : ∀ k, k ≤ V.length → qw (prodV V L R f k) ≤ 2 + k * 4201
  | 0, _ => qw_one2
  | k + 1, hk => by
    have h1 := prodV_size hok hf hw k (by omega)
    have h2 := likF_size hok hf hw (v := k) (by omega)
    have h3 := qw_val (likF V L R f k).1 (likF V L R f k).2.1 (likF V L R f k).2.2
    have h4 := qw_mul (prodV V L R f k) (frQ (likF V L R f k))
    rw [prodV, Nat.add_mul, Nat.one_mul]
    have h5 : qw (frQ (likF V L R f k)) ≤ 4201 := by
      show qw (val _ _ _) ≤ 4201
      omega
    omega
theorem C_flds (q : Rat) : C q = .agg #[.bool (sgn q), .string (nu q), .string (de q)] := rfl
end Go.Proofs.YtbejijgelljeaaaGreatDoor


/- Nets: Joint of the document's answer. -/
namespace Go.Proofs.YtbejijgelljeaaaGreatDoor
open Go.RowKit Go.Shelf

def allI (n : Nat) : List Int := iL (List.range n)
theorem allI_length (n : Nat) : (allI n).length = n := by simp [allI, iL]
/-- What Joint answers: the error. -/
def jE (V : List Vr) (L : List (List Int)) (R : List (List Fr)) (at_ : List Int) : Int := if netE V L R = 0 then (indexA (iL (sizesN V)) (allI V.length) at_).2 else netE V L R
/-- What Joint answers: the number. -/
def jF (V : List Vr) (L : List (List Int)) (R : List (List Fr)) (at_ : List Int) : Fr := if jE V L R at_ = 0 then qF (prodV V L R (fun u => (toN at_).getD u 0) V.length) else (false, ⟨#[]⟩, ⟨#[]⟩)
theorem index_zero {sizes vars l : List Int} (h : (indexA sizes vars l).2 = 0) : l.length = vars.length ∧ ∀ i, i < vars.length → valB (toN sizes) (toN vars) l i = true := by
  rw [indexA] at h
  by_cases h1 : countB sizes vars = true
  · rw [if_pos h1] at h
    by_cases h2 : l.length = vars.length
    · rw [if_pos h2] at h
      by_cases h3 : (List.range vars.length).all (valB (toN sizes) (toN vars) l) = true
      · exact ⟨h2, fun i hi => List.all_eq_true.1 h3 i (List.mem_range.2 hi)⟩
      · rw [if_neg h3] at h; exact absurd h (by decide)
    · rw [if_neg h2] at h; exact absurd h (by decide)
  · rw [if_neg h1] at h; exact absurd h (by decide)
/-- Values that Index takes are values. -/
theorem at_fit {V : List Vr} {at_ : List Int} (hS : Fine (iL (sizesN V))) (h : (indexA (iL (sizesN V)) (allI V.length) at_).2 = 0) :
    at_.length = V.length ∧ iL (toN at_) = at_ ∧ (∀ u, (toN at_).getD u 0 < sz (sizesN V) u) ∧ ∀ u, u < V.length → (toN at_)[u]? = some ((toN at_).getD u 0) := by
  obtain ⟨h1, h2⟩ := index_zero h
  rw [allI_length] at h1 h2
  have hp := hS.pos
  rw [toN_iL] at hp
  have hv : ∀ i (hi : i < at_.length), 0 ≤ at_[i] ∧ at_[i] < (sz (sizesN V) i : Int) := fun i hi => by
    have := h2 i (by omega)
    rw [valB, decide_eq_true_iff, toN_iL, allI, toN_iL, getD_eq hi, List.getD_eq_getElem?_getD, List.getElem?_range (by omega)] at this
    exact this
  refine ⟨h1, ?_, fun u => ?_, fun u hu => ?_⟩
  · apply List.ext_getElem
    · simp [iL, toN]
    · intro i h3 h4
      have := hv i h4
      simp only [iL, toN, List.getElem_map]
      omega
  · by_cases hu : u < at_.length
    · rw [List.getD_eq_getElem?_getD, List.getElem?_eq_getElem (by rw [toN_length]; exact hu), Option.getD_some, toN_get hu]
      have := hv u hu
      omega
    · rw [List.getD_eq_getElem?_getD, List.getElem?_eq_none (by rw [toN_length]; omega)]
      exact sz_pos hp u
  · rw [List.getD_eq_getElem?_getD, List.getElem?_eq_getElem (by rw [toN_length]; omega)]
    rfl

end Go.Proofs.YtbejijgelljeaaaGreatDoor


/- Nets: Given of the document's answer. -/
namespace Go.Proofs.YtbejijgelljeaaaGreatDoor
open Go.RowKit Go.Shelf

/-- A variable and what it hangs on. -/
def gU (L : List (List Int)) (v : Nat) : List Int := togL (L.getD v []) [(v : Int)]
/-- Given's cells. -/
def gL (V : List Vr) (L : List (List Int)) (R : List (List Fr)) (v : Nat) : List Fr := (List.range (cnt (sizesN V) (toN (gU L v)))).map fun K => qF (frQ (likF V L R (asg (sizesN V) (toN (gU L v)) K) v))
theorem up_one {v n : Nat} (h : v < n) : Up [(v : Int)] n := up_iff.2 ⟨fun x hx => by have := List.mem_singleton.1 hx; omega, List.pairwise_singleton _ _⟩
theorem inB_one (i v : Nat) : inB (i : Int) [(v : Int)] = ((i : Int) == (v : Int)) := by
  rw [Bool.eq_iff_iff, inB_mem, beq_iff_eq]
  simp
end Go.Proofs.YtbejijgelljeaaaGreatDoor


/- Nets: what Given of package net stands on. -/
namespace Go.Proofs.YtbejijgelljeaaaGreatDoor
open Go.RowKit Go.Shelf

theorem cnt_perm {S : List Nat} {a b : List Nat} (h : a.Perm b) : cnt S a = cnt S b := by
  induction h with
  | nil => rfl
  | cons x _ ih => simp only [cnt, ih]
  | swap x y l => simp only [cnt]; rw [Nat.mul_left_comm]
  | trans _ _ h1 h2 => exact h1.trans h2
theorem noSelf_of {L : List (List Int)} {V : List Vr} {R : List (List Fr)} (h : netE V L R = 0) {v : Nat} (hv : v < L.length) : ¬ v ∈ toN L[v] := by
  rw [netE] at h
  by_cases h1 : L.length = V.length ∧ R.length = V.length
  · rw [if_pos h1] at h
    by_cases h2 : gcE L = 0
    · rw [gcE] at h2
      by_cases h3 : gB L = true
      · rw [gB, Bool.and_eq_true, Bool.and_eq_true, noSelf, List.all_eq_true] at h3
        have := h3.2 v (List.mem_range.2 hv)
        rw [List.getD_eq_getElem?_getD, List.getElem?_eq_getElem hv] at this
        simpa using this
      · rw [if_neg h3] at h2; cases h2
    · rw [if_neg h2] at h; exact absurd h h2
  · rw [if_neg h1] at h; cases h
/-- The variable and what it hangs on, put in order. -/
theorem sort_gU {L : List (List Int)} {v n : Nat} (hvL : v < L.length) (hup : Up L[v] n) (hno : ¬ v ∈ toN L[v]) : (([(v : Int)] ++ L[v]).mergeSort fun x y => decide (x ≤ y)) = gU L v := by
  have eLv : L.getD v [] = L[v] := by rw [List.getD_eq_getElem?_getD, List.getElem?_eq_getElem hvL]; rfl
  obtain ⟨h1, h2⟩ := togL_rise L[v] [(v : Int)]
  rw [gU, eLv]
  have hnv : ¬ (v : Int) ∈ L[v] := fun h => hno (by rw [toN]; exact List.mem_map.2 ⟨_, h, Int.toNat_natCast v⟩)
  have hp : (([(v : Int)] ++ L[v]).mergeSort fun x y => decide (x ≤ y)).Pairwise (fun x y => decide (x ≤ y) = true) := List.pairwise_mergeSort (fun a b c h1 h2 => by simp at h1 h2 ⊢; omega) (fun a b => by simp; omega) _
  have hn0 : ([(v : Int)] ++ L[v]).Nodup := by
    rw [List.singleton_append, List.nodup_cons]
    exact ⟨hnv, (up_iff.1 hup).2.imp fun h => by omega⟩
  have hn : (([(v : Int)] ++ L[v]).mergeSort fun x y => decide (x ≤ y)).Nodup := (List.mergeSort_perm _ _).nodup_iff.2 hn0
  refine rise_extI ?_ h1 fun x => ?_
  · rw [List.pairwise_iff_getElem]
    intro i j hi hj hij
    have q1 := List.pairwise_iff_getElem.1 hp i j hi hj hij
    have q2 := List.pairwise_iff_getElem.1 hn i j hi hj hij
    have q1' := of_decide_eq_true q1
    omega
  · rw [List.mem_mergeSort, h2, List.mem_append]
    exact Or.comm
theorem cnt_gU {L : List (List Int)} {v n : Nat} (S : List Nat) (hvL : v < L.length) (hup : Up L[v] n) (hno : ¬ v ∈ toN L[v]) : cnt S (toN (gU L v)) = cnt S (toN L[v]) * sz S v := by
  rw [← sort_gU hvL hup hno]
  have h : (([(v : Int)] ++ L[v]).mergeSort fun x y => decide (x ≤ y)).Perm ([(v : Int)] ++ L[v]) := List.mergeSort_perm _ _
  have h2 := cnt_perm (S := S) (h.map Int.toNat)
  rw [toN, h2, List.map_append, List.map_cons, List.map_nil, List.singleton_append, cnt, Int.toNat_natCast, Nat.mul_comm]
  rfl
/-- Values are written over others, one by one. -/
def mixF (A f : Nat → Nat) (vs : List Nat) (i : Nat) : Nat → Nat := fun u => if u ∈ vs.take i then f u else A u
theorem mixF_zero (A f : Nat → Nat) (vs : List Nat) : mixF A f vs 0 = A := by funext u; simp [mixF]
theorem mixF_succ (A f : Nat → Nat) {vs : List Nat} (n : Nat) {i : Nat} (h : i < vs.length) : (spr n (mixF A f vs i)).set vs[i] (f vs[i]) = spr n (mixF A f vs (i + 1)) := by
  rw [spr_set]
  refine spr_congr fun u _ => ?_
  rw [withV, mixF, mixF, List.take_succ_eq_append_getElem h]
  by_cases e : u = vs[i]
  · rw [if_pos e, if_pos (List.mem_append.2 (.inr (List.mem_singleton.2 e))), e]
  · rw [if_neg e]
    by_cases e2 : u ∈ vs.take i
    · rw [if_pos e2, if_pos (List.mem_append.2 (.inl e2))]
    · rw [if_neg e2, if_neg (fun hh => by rcases List.mem_append.1 hh with hh | hh; exact e2 hh; exact e (List.mem_singleton.1 hh))]
theorem mixF_all {A f : Nat → Nat} {vs : List Nat} (hA : ∀ u, ¬ u ∈ vs → A u = 0) (hf : ∀ u, ¬ u ∈ vs → f u = 0) : mixF A f vs vs.length = f := by
  funext u
  rw [mixF, List.take_length]
  by_cases e : u ∈ vs
  · rw [if_pos e]
  · rw [if_neg e, hA u e, hf u e]
end Go.Proofs.YtbejijgelljeaaaGreatDoor


/- Plain: all assignments of a net together are as likely as 1; what is given of a variable is 1 for each assignment of its parents. -/
namespace Go.Proofs.YtbejijgelljeaaaGreatDoor
open Go.RowKit Go.Shelf

/-- So many numbers together. -/
def sumQ (g : Nat → Rat) : Nat → Rat
  | 0 => 0
  | n + 1 => sumQ g n + g n
theorem sumQ_congr {g h : Nat → Rat} : ∀ {n : Nat}, (∀ x, x < n → g x = h x) → sumQ g n = sumQ h n
  | 0, _ => rfl
  | n + 1, e => by rw [sumQ, sumQ, sumQ_congr fun x hx => e x (by omega), e n (by omega)]
theorem sumQ_zero : ∀ n, sumQ (fun _ => 0) n = 0
  | 0 => rfl
  | n + 1 => by rw [sumQ, sumQ_zero n, Rat.add_zero]
theorem sumQ_add (g h : Nat → Rat) : ∀ n, sumQ (fun x => g x + h x) n = sumQ g n + sumQ h n
  | 0 => by simp [sumQ, Rat.add_zero]
  | n + 1 => by
    rw [sumQ, sumQ, sumQ, sumQ_add g h n]
    rw [Rat.add_assoc, Rat.add_assoc, ← Rat.add_assoc (sumQ h n), Rat.add_comm (sumQ h n) (g n), Rat.add_assoc]
theorem sumQ_mul (c : Rat) (g : Nat → Rat) : ∀ n, sumQ (fun x => c * g x) n = c * sumQ g n
  | 0 => by simp [sumQ, Rat.mul_zero]
  | n + 1 => by rw [sumQ, sumQ, sumQ_mul c g n, Rat.mul_add]
theorem sumQ_swap (g : Nat → Nat → Rat) (m : Nat) : ∀ n, sumQ (fun x => sumQ (fun y => g x y) m) n = sumQ (fun y => sumQ (fun x => g x y) n) m
  | 0 => by simp only [sumQ]; rw [sumQ_zero]
  | n + 1 => by
    rw [sumQ, sumQ_swap g m n, ← sumQ_add]
    rfl
theorem sumQ_split (g : Nat → Rat) (m : Nat) : ∀ n, sumQ g (m + n) = sumQ g m + sumQ (fun y => g (m + y)) n
  | 0 => by simp [sumQ, Rat.add_zero]
  | n + 1 => by rw [← Nat.add_assoc, sumQ, sumQ_split g m n, sumQ, Rat.add_assoc]
theorem sumQ_prod (g : Nat → Rat) (b : Nat) : ∀ a, sumQ g (a * b) = sumQ (fun x => sumQ (fun y => g (x * b + y)) b) a
  | 0 => by rw [Nat.zero_mul]; rfl
  | a + 1 => by rw [Nat.add_mul, Nat.one_mul, sumQ_split, sumQ_prod g b a, sumQ]
/-- Sums within sums, the first variable outermost. -/
def nsum (S : List Nat) : List Nat → ((Nat → Nat) → Rat) → (Nat → Nat) → Rat
  | [], F, f => F f
  | v :: vs, F, f => sumQ (fun x => nsum S vs F (withV f v x)) (sz S v)
/-- One over another, where it speaks. -/
def over (vs : List Nat) (f g : Nat → Nat) : Nat → Nat := fun u => if u ∈ vs then g u else f u
theorem over_nil (f g : Nat → Nat) : over [] f g = f := by funext u; simp [over]
theorem nsum_all {S : List Nat} (F : (Nat → Nat) → Rat) : ∀ (vs : List Nat) (f : Nat → Nat), vs.Nodup → sumQ (fun k => F (over vs f (asg S vs k))) (cnt S vs) = nsum S vs F f
  | [], f, _ => by
    show 0 + F (over [] f _) = F f
    rw [over_nil, Rat.zero_add]
  | v :: vs, f, hn => by
    rw [List.nodup_cons] at hn
    rw [cnt, sumQ_prod, nsum]
    refine sumQ_congr fun x hx => ?_
    rw [← nsum_all F vs (withV f v x) hn.2]
    refine sumQ_congr fun y hy => ?_
    congr 1
    funext u
    have h1 : (x * cnt S vs + y) / cnt S vs = x := by rw [Nat.mul_comm, Nat.mul_add_div (by omega), Nat.div_eq_of_lt hy, Nat.add_zero]
    have h2 : (x * cnt S vs + y) % cnt S vs = y := by rw [Nat.mul_comm, Nat.mul_add_mod, Nat.mod_eq_of_lt hy]
    simp only [over, asg, h1, h2, withV, List.mem_cons]
    by_cases e : u = v
    · subst e
      rw [if_pos (.inl rfl), if_pos rfl, if_neg hn.1, if_pos rfl]
    · rw [if_neg e]
      by_cases e2 : u ∈ vs
      · rw [if_pos (.inr e2), if_pos e2]
      · rw [if_neg (fun h => h.elim e e2), if_neg e2, if_neg e]
theorem nsum_congr {S : List Nat} {F G : (Nat → Nat) → Rat} (h : ∀ g, (∀ u, g u < sz S u) → F g = G g) : ∀ (vs : List Nat) (f : Nat → Nat), (∀ u, f u < sz S u) → nsum S vs F f = nsum S vs G f
  | [], f, hf => h f hf
  | v :: vs, f, hf => by
    rw [nsum, nsum]
    refine sumQ_congr fun x hx => nsum_congr h vs _ fun u => ?_
    rw [withV]
    by_cases e : u = v
    · rw [if_pos e, e]; exact hx
    · rw [if_neg e]; exact hf u
theorem nsum_snoc {S : List Nat} (F : (Nat → Nat) → Rat) (v : Nat) : ∀ (vs : List Nat) (f : Nat → Nat), nsum S (vs ++ [v]) F f = nsum S vs (fun g => sumQ (fun x => F (withV g v x)) (sz S v)) f
  | [], f => rfl
  | u :: vs, f => by
    rw [List.cons_append, nsum, nsum]
    exact sumQ_congr fun x _ => nsum_snoc F v vs _
theorem nsum_perm {S : List Nat} (F : (Nat → Nat) → Rat) {a b : List Nat} (h : a.Perm b) : a.Nodup → ∀ f, nsum S a F f = nsum S b F f := by
  induction h with
  | nil => intro _ f; rfl
  | cons x _ ih =>
    intro hn f
    rw [List.nodup_cons] at hn
    rw [nsum, nsum]
    exact sumQ_congr fun y _ => ih hn.2 _
  | swap x y l =>
    intro hn f
    have hne : y ≠ x := by
      rw [List.nodup_cons] at hn
      exact fun e => hn.1 (by rw [e]; exact List.mem_cons_self)
    simp only [nsum]
    rw [sumQ_swap]
    refine sumQ_congr fun p _ => sumQ_congr fun q _ => ?_
    rw [withV_comm f q p (Ne.symm hne)]
  | trans h1 _ ih1 ih2 =>
    intro hn f
    rw [ih1 hn f, ih2 (h1.nodup_iff.1 hn) f]
/-- The product over some. -/
def prodS (V : List Vr) (L : List (List Int)) (R : List (List Fr)) (f : Nat → Nat) : List Nat → Rat
  | [] => 1
  | v :: vs => frQ (likF V L R f v) * prodS V L R f vs
theorem prodS_append (V : List Vr) (L : List (List Int)) (R : List (List Fr)) (f : Nat → Nat) (b : List Nat) : ∀ a, prodS V L R f (a ++ b) = prodS V L R f a * prodS V L R f b
  | [] => by rw [List.nil_append, prodS, Rat.one_mul]
  | v :: a => by rw [List.cons_append, prodS, prodS, prodS_append V L R f b a, Rat.mul_assoc]
theorem prodS_range (V : List Vr) (L : List (List Int)) (R : List (List Fr)) (f : Nat → Nat) : ∀ n, prodV V L R f n = prodS V L R f (List.range n)
  | 0 => rfl
  | n + 1 => by rw [prodV, prodS_range V L R f n, List.range_succ, prodS_append, prodS, prodS, Rat.mul_one]
theorem prodS_perm {V : List Vr} {L : List (List Int)} {R : List (List Fr)} {f : Nat → Nat} {a b : List Nat} (h : a.Perm b) : prodS V L R f a = prodS V L R f b := by
  induction h with
  | nil => rfl
  | cons x _ ih => rw [prodS, prodS, ih]
  | swap x y l => simp only [prodS]; rw [← Rat.mul_assoc, ← Rat.mul_assoc, Rat.mul_comm (frQ (likF V L R f y))]
  | trans _ _ h1 h2 => exact h1.trans h2
/-- What a variable hangs on. -/
theorem likF_with {V : List Vr} {L : List (List Int)} {R : List (List Fr)} {f : Nat → Nat} {u v x : Nat} (h1 : u ≠ v) (h2 : ¬ v ∈ toN (L.getD u [])) : likF V L R (withV f v x) u = likF V L R f u := by
  rw [likF, likF, likT, likT]
  have e : pos (sizesN V) (withV f v x) (toN (L.getD u [])) = pos (sizesN V) f (toN (L.getD u [])) := pos_congr _ fun z hz => by
    rw [withV, if_neg]
    intro e
    exact h2 (e ▸ hz)
  rw [e, withV, if_neg h1]
theorem prodS_with {V : List Vr} {L : List (List Int)} {R : List (List Fr)} {f : Nat → Nat} {v x : Nat} : ∀ {o : List Nat}, (∀ u ∈ o, u ≠ v ∧ ¬ v ∈ toN (L.getD u [])) → prodS V L R (withV f v x) o = prodS V L R f o
  | [], _ => rfl
  | u :: o, h => by
    obtain ⟨h1, h2⟩ := h u List.mem_cons_self
    rw [prodS, prodS, likF_with h1 h2, prodS_with fun z hz => h z (List.mem_cons_of_mem _ hz)]
theorem fsum_sumQ : ∀ (l : List Fr), fsum l = sumQ (fun x => frQ (celF l x)) l.length := by
  intro l
  have key : ∀ n, n ≤ l.length → fsum (l.take n) = sumQ (fun x => frQ (celF l x)) n := by
    intro n
    induction n with
    | zero => intro _; rfl
    | succ n ih =>
      intro hn
      rw [List.take_succ_eq_append_getElem (by omega), fsum_snoc, ih (by omega), sumQ, celF_eq (by omega)]
      rfl
  have := key l.length (Nat.le_refl _)
  rwa [List.take_length] at this
/-- Each row is 1 together. -/
theorem row_one {V : List Vr} {L : List (List Int)} {R : List (List Fr)} (h0 : netE V L R = 0) {v : Nat} (hv : v < V.length) {f : Nat → Nat} (hf : ∀ u, f u < sz (sizesN V) u) : sumQ (fun x => frQ (likF V L R (withV f v x) v)) (sz (sizesN V) v) = 1 := by
  have hok := netE_ok h0
  have hvL : v < L.length := by rw [hok.len]; exact hv
  have hvR : v < R.length := by rw [hok.lenR]; exact hv
  have hno := noSelf_of h0 hvL
  have hlen := hok.rows v hvL hvR
  have hp := pos_lt f hf (toN L[v])
  have hrow : rowB (chunkF R[v] (sz (sizesN V) v) (pos (sizesN V) f (toN L[v]))) = true := by
    have h1 : firstE (rowE (sizesN V) L R) V.length = 0 := by
      rw [netE] at h0
      by_cases h1 : L.length = V.length ∧ R.length = V.length
      · rw [if_pos h1] at h0
        by_cases h2 : gcE L = 0
        · rw [if_pos h2] at h0
          by_cases h3 : varsE V = 0
          · rwa [if_pos h3] at h0
          · rw [if_neg h3] at h0; exact absurd h0 h3
        · rw [if_neg h2] at h0; exact absurd h0 h2
      · rw [if_neg h1] at h0; exact absurd h0 (by decide)
    have h2 := firstE_zero h1 v hv
    rw [rowE, List.getD_eq_getElem?_getD, List.getElem?_eq_getElem hvR, List.getD_eq_getElem?_getD, List.getElem?_eq_getElem hvL] at h2
    simp only [Option.getD_some] at h2
    rw [if_pos hlen] at h2
    by_cases h3 : ((List.range (cnt (sizesN V) (toN L[v]))).all fun i => rowB (chunkF R[v] (sz (sizesN V) v) i)) = true
    · rw [List.all_eq_true] at h3
      exact h3 _ (List.mem_range.2 hp)
    · rw [if_neg h3] at h2; exact absurd h2 (by decide)
  rw [rowB, Bool.and_eq_true] at hrow
  have hs : fsum (chunkF R[v] (sz (sizesN V) v) (pos (sizesN V) f (toN L[v]))) = 1 := of_decide_eq_true hrow.2
  have hmul : (pos (sizesN V) f (toN L[v]) + 1) * sz (sizesN V) v ≤ R[v].length := by rw [hlen]; exact Nat.mul_le_mul_right _ hp
  have e1 : (pos (sizesN V) f (toN L[v]) + 1) * sz (sizesN V) v = pos (sizesN V) f (toN L[v]) * sz (sizesN V) v + sz (sizesN V) v := by rw [Nat.add_mul, Nat.one_mul]
  have hcl : (chunkF R[v] (sz (sizesN V) v) (pos (sizesN V) f (toN L[v]))).length = sz (sizesN V) v := by
    rw [chunkF, List.length_take, List.length_drop]
    omega
  rw [fsum_sumQ, hcl] at hs
  rw [← hs]
  refine sumQ_congr fun x hx => ?_
  rw [likF_eq hvL hvR, likT]
  have e2 : pos (sizesN V) (withV f v x) (toN L[v]) = pos (sizesN V) f (toN L[v]) := pos_congr _ fun z hz => by
    rw [withV, if_neg]
    intro e
    exact hno (e ▸ hz)
  rw [e2, withV, if_pos rfl, celF_eq (by omega), celF_eq (by omega)]
  simp only [chunkF, List.getElem_take, List.getElem_drop]
/-- What stands there has all that it hangs on there. -/
theorem ord_closed (P : List (List Nat)) : ∀ k, ∀ u ∈ ordN P k, ∀ z ∈ P.getD u [], z ∈ ordN P k
  | 0, u, hu => by cases hu
  | k + 1, u, hu => by
    rw [ordN] at hu ⊢
    cases e : nextV P (ordN P k) with
    | none =>
      rw [e] at hu
      exact ord_closed P k u hu
    | some v =>
      rw [e] at hu
      intro z hz
      refine List.mem_append.2 (.inl ?_)
      rcases List.mem_append.1 hu with h | h
      · exact ord_closed P k u h z hz
      · obtain rfl := List.mem_singleton.1 h
        have hfree : freeB P (ordN P k) u = true := List.find?_some e
        rw [freeB, Bool.and_eq_true] at hfree
        exact of_decide_eq_true hfree.2 z hz
/-- An order in which what a variable hangs on stands ahead of it: all of it together is 1. -/
theorem nsum_order {V : List Vr} {L : List (List Int)} {R : List (List Fr)} (h0 : netE V L R = 0) : ∀ k, (ordN (parN L) k).length = k → k ≤ L.length → (ordN (parN L) k).Nodup ∧ ∀ f, (∀ u, f u < sz (sizesN V) u) → nsum (sizesN V) (ordN (parN L) k) (fun g => prodS V L R g (ordN (parN L) k)) f = 1
  | 0, _, _ => ⟨List.nodup_nil, fun _ _ => rfl⟩
  | k + 1, hl, hk => by
    have hok := netE_ok h0
    have hln := ord_len (parN L) k
    cases e : nextV (parN L) (ordN (parN L) k) with
    | none =>
      rw [ordN, e] at hl
      exact absurd hl (by show (ordN (parN L) k).length ≠ _; omega)
    | some v =>
      have e1 := ord_some e
      rw [e1] at hl ⊢
      rw [List.length_append, List.length_singleton] at hl
      obtain ⟨hn, hs⟩ := nsum_order h0 k (by omega) (by omega)
      have hfree : freeB (parN L) (ordN (parN L) k) v = true := List.find?_some e
      rw [freeB, Bool.and_eq_true] at hfree
      have hnv : ¬ v ∈ ordN (parN L) k := by simpa using hfree.1
      have hvl : v < L.length := by have := List.mem_range.1 (List.mem_of_find?_eq_some e); rwa [parN_length] at this
      refine ⟨?_, fun f hf => ?_⟩
      · rw [List.nodup_append]
        refine ⟨hn, by simp, fun a ha b hb => ?_⟩
        rw [List.mem_singleton.1 hb]
        exact fun e => hnv (e ▸ ha)
      · rw [nsum_snoc, ← hs f hf]
        refine nsum_congr (fun g hg => ?_) _ f hf
        rw [sumQ_congr (h := fun x => prodS V L R g (ordN (parN L) k) * frQ (likF V L R (withV g v x) v))]
        · rw [sumQ_mul, row_one h0 (by rw [← hok.len]; exact hvl) hg, Rat.mul_one]
        · intro x _
          rw [prodS_append, prodS, prodS, Rat.mul_one, prodS_with]
          intro u hu
          refine ⟨fun e => hnv (e ▸ hu), fun hp => ?_⟩
          exact hnv (ord_closed (parN L) k u hu v (by
            have hul := ord_lt (parN L) k u hu
            rw [parN_length] at hul
            rw [parN_get hul]
            rw [List.getD_eq_getElem?_getD, List.getElem?_eq_getElem hul] at hp
            exact hp))
end Go.Proofs.YtbejijgelljeaaaGreatDoor

