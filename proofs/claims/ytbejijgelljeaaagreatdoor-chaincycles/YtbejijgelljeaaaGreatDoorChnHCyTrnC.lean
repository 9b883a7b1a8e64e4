/- The law's comes: all states that are come to from one. -/
import Derived.Test.YtbejijgelljeaaaGreatDoorChnGCyStlP
import Derived.Test.YtbejijgelljeaaaGreatDoorTrnPCyTrnA
import Derived.Test.YtbejijgelljeaaaGreatDoorConFCyNetD
namespace Go.Proofs.YtbejijgelljeaaaGreatDoor
open Go.RowKit Go.Shelf
theorem rMulQ (p q : Rat) (U : World) (hp : qw p ≤ 50000) (hq : qw q ≤ 50000) : Calls Tryz.prog 14 #[.agg #[.bool (qF p).1, .string (qF p).2.1, .string (qF p).2.2], .agg #[.bool (qF q).1, .string (qF q).2.1, .string (qF q).2.2]] U fun e w' => e = .returned (.agg #[.bool (qF (p * q)).1, .string (qF (p * q)).2.1, .string (qF (p * q)).2.2]) ∧ Below U.heap.size U w' := by
  have h := rMulF_any (sgn p) (sgn q) (nu p) (de p) (nu q) (de q) U (by rw [own_size]; exact hp) (by rw [own_size]; exact hq)
  rw [val_own, val_own] at h
  exact h
theorem rAddQ (p q : Rat) (U : World) (hp : qw p ≤ 50000) (hq : qw q ≤ 50000) : Calls Tryz.prog 13 #[.agg #[.bool (qF p).1, .string (qF p).2.1, .string (qF p).2.2], .agg #[.bool (qF q).1, .string (qF q).2.1, .string (qF q).2.2]] U fun e w' => e = .returned (.agg #[.bool (qF (p + q)).1, .string (qF (p + q)).2.1, .string (qF (p + q)).2.2]) ∧ Below U.heap.size U w' := by
  have h := rAddF_any (sgn p) (sgn q) (nu p) (de p) (nu q) (de q) U (by rw [own_size]; exact hp) (by rw [own_size]; exact hq)
  rw [val_own, val_own] at h
  exact h
theorem rCmpQ (p q : Rat) (U : World) (hp : qw p ≤ 50000) (hq : qw q ≤ 50000) : Calls Tryz.prog 15 #[.agg #[.bool (qF p).1, .string (qF p).2.1, .string (qF p).2.2], .agg #[.bool (qF q).1, .string (qF q).2.1, .string (qF q).2.2]] U fun e w' => e = .returned (.int .i64 (cmpQ p q)) ∧ Below U.heap.size U w' := by
  have h := rCmpF_any (sgn p) (sgn q) (nu p) (de p) (nu q) (de q) U (by rw [own_size]; exact hp) (by rw [own_size]; exact hq)
  rw [val_own, val_own] at h
  exact h
/-- What the walk has come to, of which the first k are done, of the next one all ways ahead of j. -/
structure BfS (n : Nat) (P : Nat → Nat → Rat) (i : Nat) (S : List Nat) (L : List Nat) (k j : Nat) : Prop where
  nd : L.Nodup
  lt : ∀ x ∈ L, x < n
  cm : ∀ x ∈ L, cmsB n P i x = true
  me : i ∈ L
  off : ∀ t (h : t < L.length), t < k → L[t] ∉ S
  shut : ∀ t (h : t < L.length), t < k → ∀ y, y < n → 0 < P L[t] y → y ∈ L
  cur : ∀ (h : k < L.length) (y : Nat), y < j → y < n → 0 < P L[k] y → y ∈ L
theorem BfS.start {n : Nat} {P : Nat → Nat → Rat} {i : Nat} (S : List Nat) (hi : i < n) : BfS n P i S [i] 0 0 := ⟨by simp, fun x hx => by rw [List.mem_singleton.1 hx]; exact hi, fun x hx => by rw [List.mem_singleton.1 hx]; exact cms_self _ _ _, List.mem_singleton.2 rfl, fun t _ h => absurd h (by omega), fun t _ h => absurd h (by omega), fun _ y h => absurd h (by omega)⟩
theorem BfS.push {n : Nat} {P : Nat → Nat → Rat} {i : Nat} {S L : List Nat} {k j : Nat} (h : BfS n P i S L k j) (hk : k < L.length) (hj : j < n) (hp : 0 < P L[k] j) (hn : j ∉ L) : BfS n P i S (L ++ [j]) k (j + 1) := by
  refine ⟨?_, fun x hx => ?_, fun x hx => ?_, List.mem_append_left _ h.me, fun t ht htk => ?_, fun t ht htk y hy hpy => ?_, fun hk' y hy hyn hpy => ?_⟩
  · rw [List.nodup_append]
    exact ⟨h.nd, by simp, fun x hx y hy e => hn (by rw [← List.mem_singleton.1 hy, ← e]; exact hx)⟩
  · rcases List.mem_append.1 hx with hx | hx
    · exact h.lt x hx
    · rw [List.mem_singleton.1 hx]; exact hj
  · rcases List.mem_append.1 hx with hx | hx
    · exact h.cm x hx
    · rw [List.mem_singleton.1 hx]
      exact cms_trans (h.lt _ (List.getElem_mem hk)) (h.cm _ (List.getElem_mem hk)) (cms_step n P hp)
  · rw [List.getElem_append_left (by omega)]
    exact h.off t (by omega) htk
  · rw [List.getElem_append_left (by omega)] at hpy
    exact List.mem_append_left _ (h.shut t (by omega) htk y hy hpy)
  · rw [List.getElem_append_left hk] at hpy
    by_cases e : y = j
    · subst e; exact List.mem_append_right _ (List.mem_singleton.2 rfl)
    · exact List.mem_append_left _ (h.cur hk y (by omega) hyn hpy)
theorem BfS.pass {n : Nat} {P : Nat → Nat → Rat} {i : Nat} {S L : List Nat} {k j : Nat} (h : BfS n P i S L k j) (hn : ∀ (hk : k < L.length), 0 < P L[k] j → j ∈ L) : BfS n P i S L k (j + 1) := ⟨h.nd, h.lt, h.cm, h.me, h.off, h.shut, fun hk y hy hyn hp => by
  by_cases e : y = j
  · subst e; exact hn hk hp
  · exact h.cur hk y (by omega) hyn hp⟩
theorem BfS.next {n : Nat} {P : Nat → Nat → Rat} {i : Nat} {S L : List Nat} {k : Nat} (h : BfS n P i S L k n) (hk : k < L.length) (hs : L[k] ∉ S) : BfS n P i S L (k + 1) 0 := ⟨h.nd, h.lt, h.cm, h.me, fun t ht htk => by
  by_cases e : t = k
  · subst e; exact hs
  · exact h.off t ht (by omega), fun t ht htk y hy hp => by
  by_cases e : t = k
  · subst e; exact h.cur hk y hy hy hp
  · exact h.shut t ht (by omega) y hy hp, fun _ y hy => absurd hy (by omega)⟩
theorem inB_chn (x : Nat) (L : List Nat) : inB (x : Int) (iL L) = decide (x ∈ L) := (inB_iL L (by omega)).trans (by simp)
end Go.Proofs.YtbejijgelljeaaaGreatDoor

/- The answer's comes: all states that are come to from one. -/
namespace Go.Proofs.YtbejijgelljeaaaGreatDoor
open Go.RowKit Go.Shelf
/-- These are all that are come to. -/
structure CmL (n : Nat) (P : Nat → Nat → Rat) (i : Nat) (L : List Nat) : Prop where
  nd : L.Nodup
  all : ∀ x, x ∈ L ↔ x < n ∧ cmsB n P i x = true
theorem BfS.done {n : Nat} {P : Nat → Nat → Rat} {i : Nat} {S L : List Nat} (h : BfS n P i S L L.length 0) (hi : i < n) : CmL n P i L :=
  ⟨h.nd, fun x => ⟨fun hx => ⟨h.lt x hx, h.cm x hx⟩, fun ⟨hx, hc⟩ => cms_shut (S := fun y => y ∈ L) (fun a b _ hb ha hp => by
    obtain ⟨t, ht, e⟩ := List.mem_iff_getElem.1 ha
    exact h.shut t ht ht b hb (by rw [e]; exact hp)) hi hx h.me hc⟩⟩
set_option maxRecDepth 100000 in
set_option maxHeartbeats 4000000 in
theorem rComes_any (a : Option Addr) (ca n i : Nat) (P : Nat → Nat → Rat) (w : World) (hR : FsS w a (mR n P)) {F : Nat} (hm : ChK F n P) (hi : i < n) :
    Calls Tryz.prog 81 #[.slice a n ca, .int .i64 (i : Nat)] w fun e w' => ∃ v L, e = .returned v ∧ RwI w' w.heap.size v (iL L) ∧ CmL n P i L ∧ Below w.heap.size w w' := by
  have h5 := hm.five
  have HR := hid hR
  have HFIT := hid hm.fit
  have HFEW := hid hm.few
  have HO0 := hid (fun V : World => rOf_zero V)
  clear hR hm
  have HI0 : Hid (RwI (w.alloc (.cells #[.int .i64 (i : Nat)] 3)) w.heap.size (.slice (some ⟨w.heap.size, 0, none⟩) 1 1) (iL [i])) := World.ownsRow_lit w #[.int .i64 (i : Nat)] 1 (Nat.le_refl _) (by decide) rfl
  have HB0 := hid ((Below.refl w.heap.size w).alloc (Nat.le_refl _) (.cells #[.int .i64 (i : Nat)] 3))
  go_enter Tryz.func81, Tryz.ntmps81
  go_wp2_with fail
  generalize (w.alloc (.cells #[.int .i64 (i : Nat)] 3)) = w1 at *
  go_loopw [5, 6] (fun lv kv wr => ∃ (k : Nat) (L : List Nat), kv = .int .i64 k ∧ k ≤ L.length ∧ Hid (BfS n P i [] L k 0) ∧ Hid (RwI wr w.heap.size lv (iL L)) ∧ Hid (Below w.heap.size w wr)) (fun _ kv _ => n - (intOf kv).toNat)
  case atStart => exact ⟨0, [i], rfl, Nat.zero_le _, BfS.start [] hi, HI0, HB0⟩
  case round =>
    obtain ⟨k, L, rfl, hkl, HF, HRI, HB⟩ := hrel
    clear HI0 HB0
    obtain ⟨dl, cl, rfl, hii⟩ := RwI.ints HRI.out
    rw [iL_length] at HRI ⊢
    by_cases hkL : k < L.length
    · have hlkn := HF.out.lt _ (List.getElem_mem hkL)
      have hLn := nod_most HF.out.nd HF.out.lt
      obtain ⟨lk, hlk⟩ : ∃ x, L[k] = x := ⟨_, rfl⟩
      rw [hlk] at hlkn
      have HLQ0 : Hid (L[k]? = some lk) := by show _ = _; rw [List.getElem?_eq_getElem hkL, hlk]
      clear hlk hii
      go_wp2_with fail
      go_loopw [5, 7] (fun lv jv wr => ∃ (j : Nat) (L : List Nat), j ≤ n ∧ jv = .int .i64 j ∧ Hid (BfS n P i [] L k j) ∧ Hid (L[k]? = some lk) ∧ Hid (RwI wr w.heap.size lv (iL L)) ∧ Hid (Below w.heap.size w wr)) (fun _ jv _ => n - (intOf jv).toNat)
      case atStart => exact ⟨0, L, Nat.zero_le _, rfl, HF, HLQ0, HRI, HB⟩
      case round =>
        clear HF HRI HB hkL hLn hkl HLQ0
        obtain ⟨j, L, hj, rfl, HF, HLL, HRI, HB⟩ := hrel
        obtain ⟨hkL, hLKe⟩ := List.getElem?_eq_some_iff.1 HLL.out
        obtain ⟨dl, cl, rfl, hii⟩ := RwI.ints HRI.out
        rw [iL_length] at HRI ⊢
        have hLn := nod_most HF.out.nd HF.out.lt
        have HLK := hid hLKe
        by_cases hlj : j < n
        · have hki : k < (iL L).length := by rw [iL_length]; exact hkL
          obtain ⟨gl, ol, rfl, hgl, c0⟩ := hii k hki
          rw [iL_get hkL, hLKe] at c0
          obtain ⟨g, o, gr, or_, cr, hae, hg, hgr, x0, x1, x2, x3⟩ := (HR.out.below HB.out).at hlkn hlj
          subst hae
          have hpl : qw (P lk j) ≤ 50000 := by have := fits_qw (HFIT.out lk j hlkn hlj); have := HFEW.out; omega
          have HCM : Hid (∀ U : World, Calls Tryz.prog 15 #[.agg #[.bool (qF (P lk j)).1, .string (qF (P lk j)).2.1, .string (qF (P lk j)).2.2], .agg #[.bool (sgn 0), .string (nu 0), .string (de 0)]] U fun e w' => e = .returned (.int .i64 (cmpQ (P lk j) 0)) ∧ Below U.heap.size U w') := fun U => rCmpQ (P lk j) 0 U hpl (by have := qw_zero; omega)
          have HIN : Hid (∀ U : World, Below wr.heap.size wr U → Calls Tryz.prog 12 #[.int .i64 (j : Nat), .slice (some ⟨gl, ol, none⟩) L.length cl] U fun e w' => e = .returned (.bool (decide (j ∈ L))) ∧ w' = U) := fun U hU => by
            have h := rIn_any ((j : Nat) : Int) (some ⟨gl, ol, none⟩) cl (iL L) U (hii.below hU) (by rw [iL_length]; omega)
            rw [inB_chn, iL_length] at h
            exact h
          have HPOS := hid (cmpQ_pos (p := P lk j) (q := 0))
          have HCV3 : Hid (cmpQ (P lk j) 0 = -1 ∨ cmpQ (P lk j) 0 = 0 ∨ cmpQ (P lk j) 0 = 1) := by
            rcases cmpQ_three (P lk j) 0 with ⟨h, -⟩ | ⟨h, -⟩ | ⟨h, -⟩
            · exact .inl h
            · exact .inr (.inl h)
            · exact .inr (.inr h)
          clear hpl
          generalize cmpQ (P lk j) 0 = cv at *
          generalize hzz : qF (P lk j) = zz at *
          obtain ⟨an, ax, ay⟩ := zz
          simp only at x1 x2 x3 HCM
          obtain ⟨iv, hiv⟩ : ∃ b, decide (j ∈ L) = b := ⟨_, rfl⟩
          have HIV := hid hiv
          rw [hiv] at HIN
          clear hiv hii hzz hLKe
          obtain ⟨m, hme⟩ : ∃ m, L.length = m := ⟨_, rfl⟩
          have HME := hid hme
          rw [hme] at hLn
          simp only [hme] at HIN HRI ⊢
          clear hme
          have hkm : k < m := by rw [← HME.out]; exact hkL
          generalize sgn 0 = zn at *
          generalize nu 0 = zx at *
          generalize de 0 = zy at *
          go_upto_region 8 with fail
          have HELD : Hid (∀ u, Below wr.heap.size wr u → u.cell? ⟨gl, ol + k, none⟩ = some (.int .i64 (lk : Nat)) ∧ u.cell? ⟨g, o + lk, none⟩ = some (.slice (some ⟨gr, or_, none⟩) n cr) ∧ u.cell? ⟨gr, or_ + j * 3, none⟩ = some (.bool an) ∧ u.cell? ⟨gr, or_ + j * 3 + 1, none⟩ = some (.string ax) ∧ u.cell? ⟨gr, or_ + j * 3 + 2, none⟩ = some (.string ay)) := fun u h => ⟨(h.cell (p := ⟨gl, _, none⟩) hgl).trans c0, (h.cell (p := ⟨g, _, none⟩) hg).trans x0, (h.cell (p := ⟨gr, _, none⟩) hgr).trans x1, (h.cell (p := ⟨gr, _, none⟩) hgr).trans x2, (h.cell (p := ⟨gr, _, none⟩) hgr).trans x3⟩
          have HU : Hid (Below wr.heap.size wr wr.drew) := (Below.refl _ _).drew
          clear c0 x0 x1 x2 x3
          refine wp_region_held_drew (S := fun u => u.cell? ⟨gl, ol + k, none⟩ = some (.int .i64 (lk : Nat)) ∧ u.cell? ⟨g, o + lk, none⟩ = some (.slice (some ⟨gr, or_, none⟩) n cr) ∧ u.cell? ⟨gr, or_ + j * 3, none⟩ = some (.bool an) ∧ u.cell? ⟨gr, or_ + j * 3 + 1, none⟩ = some (.string ax) ∧ u.cell? ⟨gr, or_ + j * 3 + 2, none⟩ = some (.string ay)) (by kernel_rfl) (HELD.out _ HU.out) (fun hSd => ?_)
          generalize wr.drew = u0 at *
          refine wpAnyH_take (i := 0) (oi := _) (v := .slice (some ⟨g, o, none⟩) n ca) rfl (by kernel_rfl) (by kernel_rfl) (by kernel_rfl) (fun _ _ _ h => h) (Or.inl ⟨by rfl, ?_⟩) (by assumption) ?_
          · intro u' hSu
            (try simp only [List.getElem_toArray, List.getElem_cons_zero])
            go_simp
          (try simp only [List.getElem_toArray, List.getElem_cons_zero])
          (try simp only [Act.put, List.setIfInBounds_toArray, List.set_cons_zero, List.set_cons_succ])
          refine wpAnyH_take (i := 1) (oi := _) (v := .slice (some ⟨gl, ol, none⟩) m cl) rfl (by kernel_rfl) (by kernel_rfl) (by kernel_rfl) (fun _ _ _ h => h) (Or.inl ⟨by rfl, ?_⟩) (by assumption) ?_
          · intro u' hSu
            (try simp only [List.getElem_toArray, List.getElem_cons_zero, List.getElem_cons_succ])
            go_simp
          (try simp only [List.getElem_toArray, List.getElem_cons_zero, List.getElem_cons_succ])
          (try simp only [Act.put, List.setIfInBounds_toArray, List.set_cons_zero, List.set_cons_succ])
          refine wpAnyH_take (i := 2) (oi := _) (v := .int .i64 (k : Nat)) rfl (by kernel_rfl) (by kernel_rfl) (by kernel_rfl) (fun _ _ _ h => h) (Or.inl ⟨by rfl, ?_⟩) (by assumption) ?_
          · intro u' hSu
            (try simp only [List.getElem_toArray, List.getElem_cons_zero, List.getElem_cons_succ])
            go_simp
          (try simp only [List.getElem_toArray, List.getElem_cons_zero, List.getElem_cons_succ])
          (try simp only [Act.put, List.setIfInBounds_toArray, List.set_cons_zero, List.set_cons_succ])
          refine wpAnyH_take (i := 3) (oi := _) (v := .pointer (some ⟨gl, ol + k, none⟩)) rfl (by kernel_rfl) (by kernel_rfl) (by kernel_rfl) (fun _ _ _ h => h) (Or.inl ⟨by rfl, ?_⟩) (by assumption) ?_
          · intro u' hSu
            (try simp only [List.getElem_toArray, List.getElem_cons_zero, List.getElem_cons_succ])
            go_simp
          (try simp only [List.getElem_toArray, List.getElem_cons_zero, List.getElem_cons_succ])
          (try simp only [Act.put, List.setIfInBounds_toArray, List.set_cons_zero, List.set_cons_succ])
          refine wpAnyH_take (i := 4) (oi := _) (v := .int .i64 (lk : Nat)) rfl (by kernel_rfl) (by kernel_rfl) (by kernel_rfl) (fun _ _ _ h => h) (Or.inl ⟨by rfl, ?_⟩) (by assumption) ?_
          · intro u' hSu
            (try simp only [List.getElem_toArray, List.getElem_cons_zero, List.getElem_cons_succ])
            obtain ⟨s0, s1, s2, s3, s4⟩ := hSu
            go_simp
          (try simp only [List.getElem_toArray, List.getElem_cons_zero, List.getElem_cons_succ])
          (try simp only [Act.put, List.setIfInBounds_toArray, List.set_cons_zero, List.set_cons_succ])
          refine wpAnyH_take (i := 5) (oi := _) (v := .pointer (some ⟨g, o + lk, none⟩)) rfl (by kernel_rfl) (by kernel_rfl) (by kernel_rfl) (fun _ _ _ h => h) (Or.inl ⟨by rfl, ?_⟩) (by assumption) ?_
          · intro u' hSu
            (try simp only [List.getElem_toArray, List.getElem_cons_zero, List.getElem_cons_succ])
            go_simp
          (try simp only [List.getElem_toArray, List.getElem_cons_zero, List.getElem_cons_succ])
          (try simp only [Act.put, List.setIfInBounds_toArray, List.set_cons_zero, List.set_cons_succ])
          refine wpAnyH_take (i := 6) (oi := _) (v := .slice (some ⟨gr, or_, none⟩) n cr) rfl (by kernel_rfl) (by kernel_rfl) (by kernel_rfl) (fun _ _ _ h => h) (Or.inl ⟨by rfl, ?_⟩) (by assumption) ?_
          · intro u' hSu
            (try simp only [List.getElem_toArray, List.getElem_cons_zero, List.getElem_cons_succ])
            obtain ⟨s0, s1, s2, s3, s4⟩ := hSu
            go_simp
          (try simp only [List.getElem_toArray, List.getElem_cons_zero, List.getElem_cons_succ])
          (try simp only [Act.put, List.setIfInBounds_toArray, List.set_cons_zero, List.set_cons_succ])
          refine wpAnyH_take (i := 7) (oi := _) (v := .int .i64 (j : Nat)) rfl (by kernel_rfl) (by kernel_rfl) (by kernel_rfl) (fun _ _ _ h => h) (Or.inl ⟨by rfl, ?_⟩) (by assumption) ?_
          · intro u' hSu
            (try simp only [List.getElem_toArray, List.getElem_cons_zero, List.getElem_cons_succ])
            go_simp
          (try simp only [List.getElem_toArray, List.getElem_cons_zero, List.getElem_cons_succ])
          (try simp only [Act.put, List.setIfInBounds_toArray, List.set_cons_zero, List.set_cons_succ])
          refine wpAnyH_take (i := 8) (oi := _) (v := .pointer (some ⟨gr, or_ + j * 3, none⟩)) rfl (by kernel_rfl) (by kernel_rfl) (by kernel_rfl) (fun _ _ _ h => h) (Or.inl ⟨by rfl, ?_⟩) (by assumption) ?_
          · intro u' hSu
            (try simp only [List.getElem_toArray, List.getElem_cons_zero, List.getElem_cons_succ])
            go_simp
          (try simp only [List.getElem_toArray, List.getElem_cons_zero, List.getElem_cons_succ])
          (try simp only [Act.put, List.setIfInBounds_toArray, List.set_cons_zero, List.set_cons_succ])
          refine wpAnyH_take (i := 9) (oi := _) (v := .agg #[.bool an, .string ax, .string ay]) rfl (by kernel_rfl) (by kernel_rfl) (by kernel_rfl) (fun _ _ _ h => h) (Or.inl ⟨by rfl, ?_⟩) (by assumption) ?_
          · intro u' hSu
            (try simp only [List.getElem_toArray, List.getElem_cons_zero, List.getElem_cons_succ])
            obtain ⟨s0, s1, s2, s3, s4⟩ := hSu
            go_simp
          (try simp only [List.getElem_toArray, List.getElem_cons_zero, List.getElem_cons_succ])
          (try simp only [Act.put, List.setIfInBounds_toArray, List.set_cons_zero, List.set_cons_succ])
          refine wpAnyH_ready (rs := [10]) (by kernel_rfl) (by simp) (AllReadyH.cons rfl ?_ (AllReadyH.nil))
          · intro K' hK'
            (try simp only [List.getElem_toArray, List.getElem_cons_zero, List.getElem_cons_succ])
            go_simp
            refine (HO0.out _).mono ?_
            rintro e u1 ⟨rfl, hb⟩
            replace HU := hid (HU.out.trans (hb.mono HU.out.size))
            refine hK'.out _ _ (HELD.out _ HU.out) (fun hSe => ?_)
            clear hK' K' hSd hb
            have hSd := hSe
            clear hSe
            (try simp only [List.getElem_toArray, List.getElem_cons_zero, List.getElem_cons_succ])
            (try simp only [Act.put, List.setIfInBounds_toArray, List.set_cons_zero, List.set_cons_succ])
            refine wpAnyH_ready (rs := [11]) (by kernel_rfl) (by simp) (AllReadyH.cons rfl ?_ (AllReadyH.nil))
            · intro K' hK'
              (try simp only [List.getElem_toArray, List.getElem_cons_zero, List.getElem_cons_succ])
              go_simp
              refine (HCM.out _).mono ?_
              rintro e u2 ⟨rfl, hb⟩
              replace HU := hid (HU.out.trans (hb.mono HU.out.size))
              refine hK'.out _ _ (HELD.out _ HU.out) (fun hSe => ?_)
              clear hK' K' hSd hb
              have hSd := hSe
              clear hSe
              (try simp only [List.getElem_toArray, List.getElem_cons_zero, List.getElem_cons_succ])
              (try simp only [Act.put, List.setIfInBounds_toArray, List.set_cons_zero, List.set_cons_succ])
              refine wpAnyH_take (i := 12) (oi := _) (v := .int .i64 cv) rfl (by kernel_rfl) (by kernel_rfl) (by kernel_rfl) (fun _ _ _ h => h) (Or.inl ⟨by rfl, ?_⟩) (by assumption) ?_
              · intro u' hSu
                (try simp only [List.getElem_toArray, List.getElem_cons_zero, List.getElem_cons_succ])
                go_simp
              (try simp only [List.getElem_toArray, List.getElem_cons_zero, List.getElem_cons_succ])
              (try simp only [Act.put, List.setIfInBounds_toArray, List.set_cons_zero, List.set_cons_succ])
              refine wpAnyH_done (by kernel_rfl) ?_ _
              clear hSd
              go_wp2_with fail
              refine (HIN.out _ HU.out).mono ?_
              rintro e u3 ⟨rfl, rfl⟩
              rcases HCV3.out with rfl | rfl | rfl
              · have HFN := hid (HF.out.pass fun _ hp => absurd (HPOS.out.2 (by rw [HLK.out] at hp; exact hp)) (by decide))
                have HRN := hid (HRI.out.below HU.out)
                have HBN := hid (HB.out.trans (HU.out.mono HB.out.size))
                go_wp2
                go_roundw
                case rel => exact ⟨j + 1, L, by omega, by go_num, HFN, HLL, HRN, HBN⟩
                case measure => simp [intOf]; omega
              · have HFN := hid (HF.out.pass fun _ hp => absurd (HPOS.out.2 (by rw [HLK.out] at hp; exact hp)) (by decide))
                have HRN := hid (HRI.out.below HU.out)
                have HBN := hid (HB.out.trans (HU.out.mono HB.out.size))
                go_wp2
                go_roundw
                case rel => exact ⟨j + 1, L, by omega, by go_num, HFN, HLL, HRN, HBN⟩
                case measure => simp [intOf]; omega
              · cases iv with
                | true =>
                  have HFN := hid (HF.out.pass fun _ _ => of_decide_eq_true HIV.out)
                  have HRN := hid (HRI.out.below HU.out)
                  have HBN := hid (HB.out.trans (HU.out.mono HB.out.size))
                  go_wp2
                  go_roundw
                  case rel => exact ⟨j + 1, L, by omega, by go_num, HFN, HLL, HRN, HBN⟩
                  case measure => simp [intOf]; omega
                | false =>
                  have HRN := hid (HRI.out.below HU.out)
                  have HBN := hid (HB.out.trans (HU.out.mono HB.out.size))
                  have HFN := hid (HF.out.push hkL hlj (by rw [HLK.out]; exact HPOS.out.1 (by decide)) (of_decide_eq_false HIV.out))
                  have HOWN := hid HRN.out.own
                  have HRA : Hid (RwI (u3.alloc (.cells #[.int .i64 (j : Nat)] 3)) w.heap.size _ (iL L)) := World.ownsRow.alloc HRN.out _
                  have HBA := hid (HBN.out.alloc HBN.out.size (.cells #[.int .i64 (j : Nat)] 3))
                  have HIA := hid (new_int u3 (j : Nat))
                  have HLA : Hid (iL (L ++ [j]) = iL L ++ [((j : Nat) : Int)]) := by show _ = _; rw [iL_append]; rfl
                  go_wp2_with (at_builtin; refine wpList_append_ints rfl _ _ rfl w.heap.size _ (iL L) [((j : Nat) : Int)] rfl HRA.out (some ⟨u3.heap.size, 0, none⟩) 1 rfl HIA.out (fun e => by cases e) (by rw [iL_length, HME.out]; simp; omega) HBA.out.size ?_; intro v' w3 hr3 hg3; have HB3 := hid (HBA.out.grown hg3 HBA.out.size HOWN.out); have HR3 : Hid (RwI w3 w.heap.size v' (iL (L ++ [j]))) := (by rw [HLA.out]; exact hr3))
                  go_roundw
                  case rel => exact ⟨j + 1, L ++ [j], by omega, by go_num, HFN, by show _ = _; rw [List.getElem?_append_left hkL]; exact HLL.out, HR3, HB3⟩
                  case measure => simp [intOf]; omega
        · obtain rfl : n = j := by omega
          have HFN := hid (HF.out.next hkL (by simp))
          clear hii hLKe
          go_wp2
          go_roundw
          case rel => exact ⟨k + 1, L, by go_num, by omega, HFN, HRI, HB⟩
          case measure => simp [intOf]; omega
    · obtain rfl : k = L.length := by omega
      have HDN := hid (HF.out.done hi)
      go_wp2
      go_ret
      exact ⟨_, L, rfl, HRI.out, HDN.out, HB.out⟩
end Go.Proofs.YtbejijgelljeaaaGreatDoor

/- The answer's ChainCheck, of a chain that may be. -/
namespace Go.Proofs.YtbejijgelljeaaaGreatDoor
open Go.RowKit Go.Shelf
set_option maxRecDepth 100000 in
set_option maxHeartbeats 1000000 in
theorem rSquare_yes (c : Option Addr) (cc n : Nat) (R : List (List Fr)) (w : World) (hR : FsS w c R) (h : RwsOK n n R) (hn : n ≤ 6) :
    Calls Tryz.prog 100 #[.slice c n cc] w fun e w' => e = .returned (.int .i64 0) ∧ Below w.heap.size w w' := by
  have HFR := hid hR
  have HO := hid h
  clear hR h
  go_enter Tryz.func100, Tryz.ntmps100
  go_wp2_with fail
  go_loopw [3] (fun iv wr => ∃ i : Nat, i ≤ n ∧ iv = .int .i64 i ∧ w = wr) (fun iv _ => n - (intOf iv).toNat)
  case atStart => exact ⟨0, Nat.zero_le _, rfl, rfl⟩
  case round =>
    obtain ⟨i, hi, rfl, rfl⟩ := hrel
    by_cases hlt : i < n
    · have hiR : i < R.length := by rw [HO.out.len]; exact hlt
      obtain ⟨gc, oc, bc, cr, rfl, hgc, c0, -, -⟩ := HFR.out i hiR
      rw [HO.out.each i hiR] at c0
      go_wp2
      go_roundw
      case rel => exact ⟨i + 1, by omega, by go_num, trivial⟩
      case measure => simp [intOf]; omega
    · obtain rfl : i = n := by omega
      go_wp2_with fail
      go_loopw [4] (fun kv wr => ∃ k : Nat, k ≤ i ∧ kv = .int .i64 k ∧ Hid (Below w.heap.size w wr)) (fun kv _ => i - (intOf kv).toNat)
      case atStart => exact ⟨0, Nat.zero_le _, rfl, Below.refl _ _⟩
      case round =>
        obtain ⟨k, hk, rfl, HB⟩ := hrel
        by_cases hlt2 : k < i
        · have hkR : k < R.length := by rw [HO.out.len]; exact hlt2
          obtain ⟨gc, oc, bc, cr, rfl, hgc, c0, hfr, -⟩ := (HFR.out.below HB.out) k hkR
          have hel := HO.out.each k hkR
          have HRO := hid (chances_any bc cr R[k] wr hfr (HO.out.fw k hkR) (by omega))
          rw [HO.out.row k hkR] at HRO
          clear hfr hel
          generalize R[k].length = rl at *
          go_wp2_with fail
          refine HRO.out.mono ?_
          rintro e w2 ⟨rfl, hb2⟩
          have HB2 := hid (HB.out.trans (hb2.mono HB.out.size))
          clear hb2
          go_wp2
          go_roundw
          case rel => exact ⟨k + 1, by omega, by go_num, HB2⟩
          case measure => simp [intOf]; omega
        · obtain rfl : k = i := by omega
          go_wp2
          go_ret
          exact ⟨rfl, HB.out⟩
set_option maxRecDepth 100000 in
set_option maxHeartbeats 1000000 in
theorem rChain_yes (c : Option Addr) (cc n : Nat) (R : List (List Fr)) (w : World) (hR : FsS w c R) (h : RwsOK n n R) (h1 : 1 ≤ n) (hn : n ≤ 6) :
    Calls Tryz.prog 80 #[.slice c n cc] w fun e w' => e = .returned (.int .i64 0) ∧ Below w.heap.size w w' := by
  have HSQ := hid (rSquare_yes c cc n R w hR h hn)
  clear hR h
  go_enter Tryz.func80, Tryz.ntmps80
  go_wp2_with fail
  refine HSQ.out.mono ?_
  rintro e w2 ⟨rfl, hb⟩
  go_wp2
  go_ret
  exact ⟨rfl, hb⟩
end Go.Proofs.YtbejijgelljeaaaGreatDoor
