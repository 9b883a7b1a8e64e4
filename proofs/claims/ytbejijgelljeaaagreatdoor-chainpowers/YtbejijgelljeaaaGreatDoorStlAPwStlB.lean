/- stillIn of package chain. -/
import Derived.Test.YtbejijgelljeaaaGreatDoorChnGPwStlP
namespace Go.Proofs.YtbejijgelljeaaaGreatDoor
open Go.RowKit Go.Shelf
/-- The equations ahead of the last one's exchange. -/
def sN (P : Nat → Nat → Rat) (l : List Nat) (k c : Nat) : Rat := if c < l.length then P (l.getD c 0) (l.getD k 0) - (if k = c then 1 else 0) else 0
theorem EqR.ofRow {U : World} {B S m : Nat} {f : Nat → Rat} (h : RowF U S (lF m f)) (hB : B ≤ S) (hm : m ≤ 1000) : EqR U B S m m f := by
  have hl : (frC (lF m f)).length = m * 3 := by rw [frC_length, lF_length, Nat.mul_comm]
  exact ⟨hl, .inr ⟨S, m, _, rfl, hB, h, Nat.le_refl _, by unfold maxLen; omega, by rw [List.size_toArray]; exact hl, by rw [List.toList_toArray, List.take_of_length_le (by omega)]⟩⟩
/-- A row in the place of another. -/
theorem EqS.swap {B n m G S k : Nat} {g c : Nat → Nat} {M : Nat → Nat → Rat} {U U' : World} {f : Nat → Rat} (h : EqS B n m G g c M U) (hb : Below U.heap.size U U') (hr : RowF U' S (lF m f)) (hS : U.heap.size ≤ S) (hB : B ≤ U.heap.size) (hm : m ≤ 1000) : EqS B n m G (fun t => if t = k then S else g t) (fun t => if t = k then m else c t) (fun t => if t = k then f else M t) (U'.setCell ⟨G, k, none⟩ (.slice (some ⟨S, 0, none⟩) m m)) := by
  have h' := h.step hb
  have hset := h'.top.set k (.slice (some ⟨S, 0, none⟩) m m)
  refine ⟨?_, fun t ht => ?_, fun t t' ht ht' e => ?_, h.gl⟩
  · have e : ((List.range n).map fun t => Value.slice (some ⟨g t, 0, none⟩) m (c t)).set k (.slice (some ⟨S, 0, none⟩) m m) = (List.range n).map fun t => Value.slice (some ⟨if t = k then S else g t, 0, none⟩) m (if t = k then m else c t) := by
      refine List.ext_getElem (by simp) fun j h1 h2 => ?_
      rw [List.getElem_set]
      by_cases e : k = j
      · subst e; simp
      · rw [if_neg e]
        simp only [List.getElem_map, List.getElem_range, if_neg (fun e' => e e'.symm : ¬ j = k)]
    rw [e] at hset
    exact hset
  · by_cases e : t = k
    · subst e
      simp only [if_pos]
      exact owns_keep (EqR.ofRow hr (Nat.le_trans hB hS) hm) (KeepT.set h'.top (by decide) t _)
    · simp only [if_neg e]
      exact owns_keep (h'.row t ht) (KeepT.set h'.top (by decide) k _)
  · have e' : (if t = k then S else g t) = (if t' = k then S else g t') := e
    by_cases h1 : t = k
    · by_cases h2 : t' = k
      · rw [h1, h2]
      · rw [if_pos h1, if_neg h2] at e'
        have := (h.row t' ht').lt
        omega
    · by_cases h2 : t' = k
      · rw [if_neg h1, if_pos h2] at e'
        have := (h.row t ht).lt
        omega
      · rw [if_neg h1, if_neg h2] at e'
        exact h.inj t t' ht ht' e'
set_option maxRecDepth 100000 in
set_option maxHeartbeats 4000000 in
theorem chStill_in (a b : Option Addr) (ca cb N n : Nat) (P : Nat → Nat → Rat) (l : List Nat) (w : World) (hR : FsS w a (mR N P)) (hl : IntS w b (iL l)) (hn : l.length = n) (hc : Cls N P l) {F : Nat} (hm : ChK F N P) :
    Calls Tryz.prog 46 #[.slice a N ca, .slice b n cb] w fun e w' => ∃ S, e = .returned (.slice (some ⟨S, 0, none⟩) n n) ∧ w.heap.size ≤ S ∧ RowF w' S (lF n (stX P l)) ∧ Below w.heap.size w w' := by
  obtain ⟨i0, hi0, hz0, hz1, hz2⟩ := info_parts Tryz.infoFracs
  have hn5 : n ≤ 5 := by have h1 := nod_most hc.nd hc.lt; have h2 := hm.five; omega
  have hn1 : 1 ≤ n := by rw [← hn]; exact hc.ne
  have HSOL : Hid (∀ (B G : Nat) (g c : Nat → Nat) (U : World), EqS B n (n + 1) G g c (sM P l) U → B ≤ U.heap.size → Calls Tryz.prog 61 #[.slice (some ⟨G, 0, none⟩) n n] U fun e w' => ∃ S, e = .returned (.slice (some ⟨S, 0, none⟩) n n) ∧ U.heap.size ≤ S ∧ RowF w' S (lF n (stX P l)) ∧ Below B U w') := fun B G g c U hE hB => by
    have h9 := chSolve_any B n G n (F + 2) g c (sM P l) U hE hB (fun i c hi _ => sM_fits hm.fit hc.lt i c (by omega)) (fun j hj => hc.piv hm.chn j (by omega)) (Nat.le_trans (bE_mono (F + 2) (by have := nod_most hc.nd hc.lt; omega)) (Nat.le_trans hm.len (by decide))) (by omega)
    have e9 : (fun i => elm (sM P l) n i n) = stX P l := by rw [← hn]; rfl
    rw [e9] at h9
    exact h9
  have HN := hid hn
  have HR := hid hR
  have HV := hid hl
  have HLN := hid hc.lt
  have HND := hid hc.nd
  have HFIT := hid hm.fit
  have HFEW := hid hm.few
  have HO0 := hid (fun V : World => fOf_q (k := 0) (w := V) 0 0 rfl (by decide) (by rfl))
  have HO1 := hid (fun V : World => fOf_q (k := 1) (w := V) 1 1 rfl (by decide) (by rfl))
  have HRP : Hid (∀ (g : Nat) (V : World), Box V g (sgn 1) (nu 1) (de 1) → Calls Tryz.prog 72 #[.slice (some ⟨g, 0, none⟩) 1 1, .int .i64 ((n + 1 : Nat) : Int)] V fun e w' => ∃ G, e = .returned (.slice (some ⟨G, 0, none⟩) (n + 1) (n + 1)) ∧ V.heap.size ≤ G ∧ RowF w' G (lF (n + 1) fun _ => 1) ∧ Below V.heap.size V w') := fun g V hx => by
    have h9 := slRepeat_one g (n + 1) (qF 1) V hx (by omega) (by omega)
    rw [show List.replicate (n + 1) (qF 1) = lF (n + 1) fun _ => 1 from List.ext_getElem (by rw [lF_length]; simp) fun i h1 h2 => by rw [lF_get]; simp] at h9
    exact h9
  clear hR hl hn hc hm
  go_enter Tryz.func46, Tryz.ntmps46
  go_upto_region 3 with (at_make; refine wpList_make_full _ rfl _ _ 24 rfl w.heap.size 27 i0 (.slice none 0 0) 1 Tryz.underlying24 hi0 hz0 hz1 .i64 .i64 _ _ n rfl rfl (by go_num) (by go_num) (by rw [hz2]; omega) (by unfold maxLen; omega) (Nat.le_refl _) ?_; intro w2 hown2 hgrow2)
  have hb2 := block_of_own hown2
  rw [made_slices] at hb2
  have hB2 : Below w.heap.size w w2 := (Below.refl _ w).grown hgrow2 (Nat.le_refl _) (fun k e => by cases e)
  have HK0 : Hid (HfS w n (n + 1) w.heap.size 0 (fun _ => 0) (fun _ => 0) (sN P l) w2) := by
    refine ⟨?_, fun t h => absurd h (by omega), fun t t' h => absurd h (by omega), Nat.le_refl _, hB2⟩
    have e : tpV n 0 (n + 1) (fun _ => 0) (fun _ => 0) (.slice none 0 0) = List.replicate n (.slice none 0 0) := List.ext_getElem (by simp [tpV]) fun i _ _ => by simp [tpV]
    rw [e]
    exact hb2
  clear hown2 hgrow2 hb2 hB2
  obtain ⟨G, hG⟩ : ∃ G, w.heap.size = G := ⟨_, rfl⟩
  rw [hG] at HK0
  simp only [hG]
  have HGE := hid hG
  clear hG
  go_wp2_with fail
  go_loopw [15] (fun iv wr => ∃ (k : Nat) (g c : Nat → Nat), k ≤ n ∧ iv = .int .i64 k ∧ Hid (HfS w n (n + 1) G k g c (sN P l) wr)) (fun iv _ => n - (intOf iv).toNat)
  case atStart => exact ⟨0, _, _, Nat.zero_le _, rfl, HK0⟩
  case round =>
    obtain ⟨k, g, c, hk, rfl, HK1⟩ := hrel
    clear HK0
    by_cases hlt : k < n
    · have hkl : k < l.length := by rw [HN.out]; exact hlt
      have hki : k < (iL l).length := by rw [iL_length]; exact hkl
      obtain ⟨gl, ol, hbe, hgl, c0⟩ := HV.out k hki
      subst hbe
      rw [iL_get hkl] at c0
      have hlk := HLN.out l[k] (List.getElem_mem hkl)
      have HLK : Hid (l.getD k 0 = l[k]) := by show _ = _; rw [List.getD_eq_getElem?_getD, List.getElem?_eq_getElem hkl]; rfl
      have c0' := (HK1.out.bel.cell (p := ⟨gl, _, none⟩) hgl).trans c0
      obtain ⟨lk, hlke⟩ : ∃ x, l[k] = x := ⟨_, rfl⟩
      rw [hlke] at c0' hlk HLK
      have HLKE := hid hlke
      clear c0 hlke
      have HK2 := hid HK1.out.into
      clear HK1
      obtain ⟨Mk, hMk⟩ : ∃ x, wr.heap.size = x := ⟨_, rfl⟩
      rw [hMk] at HK2
      clear hMk
      go_upto_region 6 with fail
      clear c0'
      go_loopw [22] (fun jv wr => ∃ cc : Nat, cc ≤ n ∧ jv = .int .i64 cc ∧ ∃ v, Hid (HgS w n (n + 1) G k Mk g c (sN P l) v cc wr)) (fun jv _ => n - (intOf jv).toNat)
      case atStart => exact ⟨0, Nat.zero_le _, rfl, _, HK2⟩
      case round =>
        obtain ⟨cc, hcc, rfl, v, HK⟩ := hrel
        clear HK2
        by_cases hlc : cc < n
        · have hcl : cc < l.length := by rw [HN.out]; exact hlc
          have hci : cc < (iL l).length := by rw [iL_length]; exact hcl
          obtain ⟨gl', ol', hbe, hgl', e0⟩ := HV.out cc hci
          cases hbe
          rw [iL_get hcl] at e0
          have hlcN := HLN.out l[cc] (List.getElem_mem hcl)
          have e0' := (HK.out.bel.cell (p := ⟨gl, _, none⟩) hgl).trans e0
          obtain ⟨qf, hqf⟩ : ∃ f : Fr, qF (sN P l k cc) = f := ⟨_, rfl⟩
          have HQF := hid hqf
          have HLS : Hid (∀ U : World, Below w.heap.size w U → Calls Tryz.prog 58 #[.slice a N ca, .int .i64 (l[cc] : Nat), .int .i64 (lk : Nat)] U fun e w' => e = .returned (.agg #[.bool qf.1, .string qf.2.1, .string qf.2.2]) ∧ Below U.heap.size U w') := fun U hU => by
            have h := chLess_any a ca N l[cc] lk P U (HR.out.below hU) (by have := fits_qw (HFIT.out l[cc] lk hlcN hlk); have := HFEW.out; omega) hlcN hlk
            have e : (P l[cc] lk - if l[cc] = lk then 1 else 0) = sN P l k cc := by
              show _ = if cc < l.length then _ else _
              rw [if_pos hcl, HLK.out, show l.getD cc 0 = l[cc] by rw [List.getD_eq_getElem?_getD, List.getElem?_eq_getElem hcl]; rfl]
              congr 1
              have hiff : (l[cc] = lk) ↔ k = cc := by
                rw [← HLKE.out]
                exact ⟨fun h => (nodup_at HND.out hcl hkl h).symm, fun h => by subst h; rfl⟩
              by_cases e1 : k = cc
              · rw [if_pos (hiff.2 e1), if_pos e1]
              · rw [if_neg (fun h => e1 (hiff.1 h)), if_neg e1]
            rw [e, hqf] at h
            exact h
          obtain ⟨dv, nv, cv, rfl⟩ := HK.out.cur.slv
          generalize l[cc] = lc at *
          clear e0 hqf
          go_upto_region 8 with fail
          clear e0'
          replace HK := hid (HK.out.step (Below.refl _ _).drew)
          refine wp_region_until 13 (fun (b : Bool) (u : World) => b = false → u.cell? ⟨G, k, none⟩ = some (.slice dv nv cv)) (by kernel_rfl) (fun _ => HK.out.cell hlt) (fun hSd => ?_)
          generalize wr.drew = u0 at *
          refine wpU_take (i := 0) (oi := _) (v := .slice (some ⟨G, 0, none⟩) n n) (b := false) rfl (by kernel_rfl) (by kernel_rfl) (by kernel_rfl) (by decide) (fun _ _ _ h => h) (Or.inl ⟨by rfl, ?_⟩) (by kernel_rfl) (by assumption) ?_
          · intro u' hSu
            (try simp only [List.getElem_toArray, List.getElem_cons_zero])
            go_simp
          (try simp only [List.getElem_toArray, List.getElem_cons_zero])
          (try simp only [Act.put, List.setIfInBounds_toArray, List.set_cons_zero, List.set_cons_succ])
          refine wpU_take (i := 1) (oi := _) (v := .int .i64 (k : Nat)) (b := false) rfl (by kernel_rfl) (by kernel_rfl) (by kernel_rfl) (by decide) (fun _ _ _ h => h) (Or.inl ⟨by rfl, ?_⟩) (by kernel_rfl) (by assumption) ?_
          · intro u' hSu
            (try simp only [List.getElem_toArray, List.getElem_cons_zero, List.getElem_cons_succ])
            go_simp
          (try simp only [List.getElem_toArray, List.getElem_cons_zero, List.getElem_cons_succ])
          (try simp only [Act.put, List.setIfInBounds_toArray, List.set_cons_zero, List.set_cons_succ])
          refine wpU_take (i := 2) (oi := _) (v := .slice (some ⟨G, 0, none⟩) n n) (b := false) rfl (by kernel_rfl) (by kernel_rfl) (by kernel_rfl) (by decide) (fun _ _ _ h => h) (Or.inl ⟨by rfl, ?_⟩) (by kernel_rfl) (by assumption) ?_
          · intro u' hSu
            (try simp only [List.getElem_toArray, List.getElem_cons_zero, List.getElem_cons_succ])
            go_simp
          (try simp only [List.getElem_toArray, List.getElem_cons_zero, List.getElem_cons_succ])
          (try simp only [Act.put, List.setIfInBounds_toArray, List.set_cons_zero, List.set_cons_succ])
          refine wpU_take (i := 3) (oi := _) (v := .int .i64 (k : Nat)) (b := false) rfl (by kernel_rfl) (by kernel_rfl) (by kernel_rfl) (by decide) (fun _ _ _ h => h) (Or.inl ⟨by rfl, ?_⟩) (by kernel_rfl) (by assumption) ?_
          · intro u' hSu
            (try simp only [List.getElem_toArray, List.getElem_cons_zero, List.getElem_cons_succ])
            go_simp
          (try simp only [List.getElem_toArray, List.getElem_cons_zero, List.getElem_cons_succ])
          (try simp only [Act.put, List.setIfInBounds_toArray, List.set_cons_zero, List.set_cons_succ])
          refine wpU_take (i := 4) (oi := _) (v := .pointer (some ⟨G, k, none⟩)) (b := false) rfl (by kernel_rfl) (by kernel_rfl) (by kernel_rfl) (by decide) (fun _ _ _ h => h) (Or.inl ⟨by rfl, ?_⟩) (by kernel_rfl) (by assumption) ?_
          · intro u' hSu
            (try simp only [List.getElem_toArray, List.getElem_cons_zero, List.getElem_cons_succ])
            go_simp
          (try simp only [List.getElem_toArray, List.getElem_cons_zero, List.getElem_cons_succ])
          (try simp only [Act.put, List.setIfInBounds_toArray, List.set_cons_zero, List.set_cons_succ])
          refine wpU_ahead (i := 5) (oi := _) (v := .slice dv nv cv) rfl (by kernel_rfl) (by kernel_rfl) (by kernel_rfl) (by decide) rfl (by kernel_rfl) (fun _ _ _ h => h) (Or.inl ⟨by rfl, ?_⟩) (by kernel_rfl) (by assumption) ?_
          · intro u' hSu
            (try simp only [List.getElem_toArray, List.getElem_cons_zero, List.getElem_cons_succ])
            obtain hS9x := hSu
            go_simp
          (try simp only [List.getElem_toArray, List.getElem_cons_zero, List.getElem_cons_succ])
          (try simp only [Act.put, List.setIfInBounds_toArray, List.set_cons_zero, List.set_cons_succ])
          refine wpU_take (i := 6) (oi := _) (v := .slice a N ca) (b := false) rfl (by kernel_rfl) (by kernel_rfl) (by kernel_rfl) (by decide) (fun _ _ _ h => h) (Or.inl ⟨by rfl, ?_⟩) (by kernel_rfl) (by assumption) ?_
          · intro u' hSu
            (try simp only [List.getElem_toArray, List.getElem_cons_zero, List.getElem_cons_succ])
            go_simp
          (try simp only [List.getElem_toArray, List.getElem_cons_zero, List.getElem_cons_succ])
          (try simp only [Act.put, List.setIfInBounds_toArray, List.set_cons_zero, List.set_cons_succ])
          refine wpU_take (i := 7) (oi := _) (v := .int .i64 (lc : Nat)) (b := false) rfl (by kernel_rfl) (by kernel_rfl) (by kernel_rfl) (by decide) (fun _ _ _ h => h) (Or.inl ⟨by rfl, ?_⟩) (by kernel_rfl) (by assumption) ?_
          · intro u' hSu
            (try simp only [List.getElem_toArray, List.getElem_cons_zero, List.getElem_cons_succ])
            go_simp
          (try simp only [List.getElem_toArray, List.getElem_cons_zero, List.getElem_cons_succ])
          (try simp only [Act.put, List.setIfInBounds_toArray, List.set_cons_zero, List.set_cons_succ])
          refine wpU_take (i := 8) (oi := _) (v := .int .i64 (lk : Nat)) (b := false) rfl (by kernel_rfl) (by kernel_rfl) (by kernel_rfl) (by decide) (fun _ _ _ h => h) (Or.inl ⟨by rfl, ?_⟩) (by kernel_rfl) (by assumption) ?_
          · intro u' hSu
            (try simp only [List.getElem_toArray, List.getElem_cons_zero, List.getElem_cons_succ])
            go_simp
          (try simp only [List.getElem_toArray, List.getElem_cons_zero, List.getElem_cons_succ])
          (try simp only [Act.put, List.setIfInBounds_toArray, List.set_cons_zero, List.set_cons_succ])
          refine wpU_ready (rs := [9]) (by kernel_rfl) (by simp) (AllU.cons (b := false) rfl (by kernel_rfl) ?_ (AllU.nil))
          · intro K' hK'
            (try simp only [List.getElem_toArray, List.getElem_cons_zero, List.getElem_cons_succ])
            go_simp
            refine (HLS.out _ HK.out.bel).mono ?_
            rintro e u1 ⟨rfl, hb⟩
            replace HK := hid (HK.out.step hb)
            refine hK'.out _ _ (fun _ => HK.out.cell hlt) (fun hSe => ?_)
            clear hK' K' hSd
            have hSd := hSe
            clear hSe
            clear hb
            (try simp only [List.getElem_toArray, List.getElem_cons_zero, List.getElem_cons_succ])
            (try simp only [Act.put, List.setIfInBounds_toArray, List.set_cons_zero, List.set_cons_succ])
            refine wpU_ready (rs := [10]) (by kernel_rfl) (by simp) (AllU.cons (b := false) rfl (by kernel_rfl) ?_ (AllU.nil))
            · intro K' hK'
              (try simp only [List.getElem_toArray, List.getElem_cons_zero, List.getElem_cons_succ])
              go_simp
              have hbA := (Below.refl u1.heap.size u1).alloc (Nat.le_refl _) (FC qf.1 qf.2.1 qf.2.2)
              have HY := hid (Box.new u1 qf.1 qf.2.1 qf.2.2)
              replace HK := hid (HK.out.step hbA)
              clear hbA
              refine hK'.out _ _ (fun _ => HK.out.cell hlt) (fun hSe => ?_)
              clear hK' K' hSd
              have hSd := hSe
              clear hSe
              obtain ⟨gy, hgy⟩ : ∃ x, u1.heap.size = x := ⟨_, rfl⟩
              obtain ⟨Vy, hV⟩ : ∃ x, u1.alloc (FC qf.1 qf.2.1 qf.2.2) = x := ⟨_, rfl⟩
              rw [hgy] at HY
              rw [hV] at HY HK hSd
              simp only [hV]
              simp only [hgy]
              clear hgy hV
              (try simp only [List.getElem_toArray, List.getElem_cons_zero, List.getElem_cons_succ])
              (try simp only [Act.put, List.setIfInBounds_toArray, List.set_cons_zero, List.set_cons_succ])
              refine wpU_ready (rs := [11]) (by kernel_rfl) (by simp) (AllU.cons (b := false) rfl (by kernel_rfl) ?_ (AllU.nil))
              · intro K' hK'
                rw [if_pos (by rfl)]
                refine wp_append_fr _ _ rfl Mk (.slice dv nv cv) (lF cc (sN P l k)) qf rfl HK.out.cur gy rfl HY.out (by rw [lF_length]; omega) HK.out.mu ?_
                intro v2 V8 hr8 hg8
                obtain ⟨d8, n8, c8, rfl⟩ := hr8.slv
                have HS8 : Hid (V8.cell? ⟨G, k, none⟩ = some (.slice dv nv cv)) := by
                  show _ = _
                  rw [(HK.out.pre hg8).cell k (by rw [tpV_length]; exact hlt)]
                  simp [tpV]
                have HF8 : Hid (V8.frozen? ⟨G, k, none⟩ = false) := (HK.out.pre hg8).fz k
                have HKN := hid (HK.out.push hg8 (by rw [HQF.out]; exact hr8))
                refine hK'.out _ _ (fun _ => HS8.out) (fun hSe => ?_)
                clear hK' K' hSd hr8 hg8 HK HY
                have hSd := hSe
                clear hSe
                (try simp only [List.getElem_toArray, List.getElem_cons_zero, List.getElem_cons_succ])
                (try simp only [Act.put, List.setIfInBounds_toArray, List.set_cons_zero, List.set_cons_succ])
                refine wpU_take (i := 12) (oi := _) (v := .pointer (some ⟨G, k, none⟩)) (b := false) rfl (by kernel_rfl) (by kernel_rfl) (by kernel_rfl) (by decide) (fun _ _ _ h => h) (Or.inl ⟨by rfl, ?_⟩) (by kernel_rfl) (by assumption) ?_
                · intro u' hSu
                  (try simp only [List.getElem_toArray, List.getElem_cons_zero, List.getElem_cons_succ])
                  go_simp
                (try simp only [List.getElem_toArray, List.getElem_cons_zero, List.getElem_cons_succ])
                (try simp only [Act.put, List.setIfInBounds_toArray, List.set_cons_zero, List.set_cons_succ])
                have q0 := HS8.out
                have q1 := HF8.out
                refine wpU_ready (rs := [13]) (by kernel_rfl) (by simp) (AllU.cons (b := true) rfl (by kernel_rfl) ?_ (AllU.nil))
                · intro K' hK'
                  (try simp only [List.getElem_toArray, List.getElem_cons_zero, List.getElem_cons_succ])
                  go_simp
                  refine hK'.out _ _ (fun e => by cases e) (fun _ => wpU_done (by kernel_rfl) ?_ _)
                  clear hK' K' hSd q0 q1 HS8 HF8
                  go_wp2
                  go_roundw
                  case rel => exact ⟨cc + 1, by omega, by go_num, .slice d8 n8 c8, HKN⟩
                  case measure => simp [intOf]; omega
        · obtain rfl : n = cc := by omega
          obtain ⟨dv, nv, cv, rfl⟩ := HK.out.cur.slv
          obtain ⟨qf, hqf⟩ : ∃ f : Fr, qF (sN P l k n) = f := ⟨_, rfl⟩
          have HQF := hid hqf
          have HOZ : Hid (∀ U : World, Calls Tryz.prog 36 #[.int .i64 0] U fun e w' => e = .returned (.agg #[.bool qf.1, .string qf.2.1, .string qf.2.2]) ∧ Below U.heap.size U w') := fun U => by
            have e9 : sN P l k n = 0 := by
              show (if n < l.length then _ else _) = _
              rw [if_neg (by have := HN.out; omega)]
            rw [← hqf, e9]
            exact HO0.out U
          clear hqf HO0
          have HO0 := HOZ
          clear HOZ
          go_upto_region 10 with fail
          replace HK := hid (HK.out.step (Below.refl _ _).drew)
          refine wp_region_until 10 (fun (b : Bool) (u : World) => b = false → u.cell? ⟨G, k, none⟩ = some (.slice dv nv cv)) (by kernel_rfl) (fun _ => HK.out.cell hlt) (fun hSd => ?_)
          generalize wr.drew = u0 at *
          refine wpU_take (i := 0) (oi := _) (v := .slice (some ⟨G, 0, none⟩) n n) (b := false) rfl (by kernel_rfl) (by kernel_rfl) (by kernel_rfl) (by decide) (fun _ _ _ h => h) (Or.inl ⟨by rfl, ?_⟩) (by kernel_rfl) (by assumption) ?_
          · intro u' hSu
            (try simp only [List.getElem_toArray, List.getElem_cons_zero])
            go_simp
          (try simp only [List.getElem_toArray, List.getElem_cons_zero])
          (try simp only [Act.put, List.setIfInBounds_toArray, List.set_cons_zero, List.set_cons_succ])
          refine wpU_take (i := 1) (oi := _) (v := .int .i64 (k : Nat)) (b := false) rfl (by kernel_rfl) (by kernel_rfl) (by kernel_rfl) (by decide) (fun _ _ _ h => h) (Or.inl ⟨by rfl, ?_⟩) (by kernel_rfl) (by assumption) ?_
          · intro u' hSu
            (try simp only [List.getElem_toArray, List.getElem_cons_zero, List.getElem_cons_succ])
            go_simp
          (try simp only [List.getElem_toArray, List.getElem_cons_zero, List.getElem_cons_succ])
          (try simp only [Act.put, List.setIfInBounds_toArray, List.set_cons_zero, List.set_cons_succ])
          refine wpU_take (i := 2) (oi := _) (v := .slice (some ⟨G, 0, none⟩) n n) (b := false) rfl (by kernel_rfl) (by kernel_rfl) (by kernel_rfl) (by decide) (fun _ _ _ h => h) (Or.inl ⟨by rfl, ?_⟩) (by kernel_rfl) (by assumption) ?_
          · intro u' hSu
            (try simp only [List.getElem_toArray, List.getElem_cons_zero, List.getElem_cons_succ])
            go_simp
          (try simp only [List.getElem_toArray, List.getElem_cons_zero, List.getElem_cons_succ])
          (try simp only [Act.put, List.setIfInBounds_toArray, List.set_cons_zero, List.set_cons_succ])
          refine wpU_take (i := 3) (oi := _) (v := .int .i64 (k : Nat)) (b := false) rfl (by kernel_rfl) (by kernel_rfl) (by kernel_rfl) (by decide) (fun _ _ _ h => h) (Or.inl ⟨by rfl, ?_⟩) (by kernel_rfl) (by assumption) ?_
          · intro u' hSu
            (try simp only [List.getElem_toArray, List.getElem_cons_zero, List.getElem_cons_succ])
            go_simp
          (try simp only [List.getElem_toArray, List.getElem_cons_zero, List.getElem_cons_succ])
          (try simp only [Act.put, List.setIfInBounds_toArray, List.set_cons_zero, List.set_cons_succ])
          refine wpU_take (i := 4) (oi := _) (v := .pointer (some ⟨G, k, none⟩)) (b := false) rfl (by kernel_rfl) (by kernel_rfl) (by kernel_rfl) (by decide) (fun _ _ _ h => h) (Or.inl ⟨by rfl, ?_⟩) (by kernel_rfl) (by assumption) ?_
          · intro u' hSu
            (try simp only [List.getElem_toArray, List.getElem_cons_zero, List.getElem_cons_succ])
            go_simp
          (try simp only [List.getElem_toArray, List.getElem_cons_zero, List.getElem_cons_succ])
          (try simp only [Act.put, List.setIfInBounds_toArray, List.set_cons_zero, List.set_cons_succ])
          refine wpU_ahead (i := 5) (oi := _) (v := .slice dv nv cv) rfl (by kernel_rfl) (by kernel_rfl) (by kernel_rfl) (by decide) rfl (by kernel_rfl) (fun _ _ _ h => h) (Or.inl ⟨by rfl, ?_⟩) (by kernel_rfl) (by assumption) ?_
          · intro u' hSu
            (try simp only [List.getElem_toArray, List.getElem_cons_zero, List.getElem_cons_succ])
            obtain hS9x := hSu
            go_simp
          (try simp only [List.getElem_toArray, List.getElem_cons_zero, List.getElem_cons_succ])
          (try simp only [Act.put, List.setIfInBounds_toArray, List.set_cons_zero, List.set_cons_succ])
          refine wpU_ready (rs := [6]) (by kernel_rfl) (by simp) (AllU.cons (b := false) rfl (by kernel_rfl) ?_ (AllU.nil))
          · intro K' hK'
            (try simp only [List.getElem_toArray, List.getElem_cons_zero, List.getElem_cons_succ])
            go_simp
            refine (HO0.out _).mono ?_
            rintro e u1 ⟨rfl, hb⟩
            replace HK := hid (HK.out.step hb)
            refine hK'.out _ _ (fun _ => HK.out.cell hlt) (fun hSe => ?_)
            clear hK' K' hSd
            have hSd := hSe
            clear hSe
            clear hb
            (try simp only [List.getElem_toArray, List.getElem_cons_zero, List.getElem_cons_succ])
            (try simp only [Act.put, List.setIfInBounds_toArray, List.set_cons_zero, List.set_cons_succ])
            refine wpU_ready (rs := [7]) (by kernel_rfl) (by simp) (AllU.cons (b := false) rfl (by kernel_rfl) ?_ (AllU.nil))
            · intro K' hK'
              (try simp only [List.getElem_toArray, List.getElem_cons_zero, List.getElem_cons_succ])
              go_simp
              have hbA := (Below.refl u1.heap.size u1).alloc (Nat.le_refl _) (FC qf.1 qf.2.1 qf.2.2)
              have HY := hid (Box.new u1 qf.1 qf.2.1 qf.2.2)
              replace HK := hid (HK.out.step hbA)
              clear hbA
              refine hK'.out _ _ (fun _ => HK.out.cell hlt) (fun hSe => ?_)
              clear hK' K' hSd
              have hSd := hSe
              clear hSe
              obtain ⟨gy, hgy⟩ : ∃ x, u1.heap.size = x := ⟨_, rfl⟩
              obtain ⟨Vy, hV⟩ : ∃ x, u1.alloc (FC qf.1 qf.2.1 qf.2.2) = x := ⟨_, rfl⟩
              rw [hgy] at HY
              rw [hV] at HY HK hSd
              simp only [hV]
              simp only [hgy]
              clear hgy hV
              (try simp only [List.getElem_toArray, List.getElem_cons_zero, List.getElem_cons_succ])
              (try simp only [Act.put, List.setIfInBounds_toArray, List.set_cons_zero, List.set_cons_succ])
              refine wpU_ready (rs := [8]) (by kernel_rfl) (by simp) (AllU.cons (b := false) rfl (by kernel_rfl) ?_ (AllU.nil))
              · intro K' hK'
                rw [if_pos (by rfl)]
                refine wp_append_fr _ _ rfl Mk (.slice dv nv cv) (lF n (sN P l k)) qf rfl HK.out.cur gy rfl HY.out (by rw [lF_length]; omega) HK.out.mu ?_
                intro v2 V8 hr8 hg8
                obtain ⟨d8, n8, c8, rfl⟩ := hr8.slv
                have HS8 : Hid (V8.cell? ⟨G, k, none⟩ = some (.slice dv nv cv)) := by
                  show _ = _
                  rw [(HK.out.pre hg8).cell k (by rw [tpV_length]; exact hlt)]
                  simp [tpV]
                have HF8 : Hid (V8.frozen? ⟨G, k, none⟩ = false) := (HK.out.pre hg8).fz k
                have HKN := hid (HK.out.push hg8 (by rw [HQF.out]; exact hr8))
                refine hK'.out _ _ (fun _ => HS8.out) (fun hSe => ?_)
                clear hK' K' hSd hr8 hg8 HK HY
                have hSd := hSe
                clear hSe
                (try simp only [List.getElem_toArray, List.getElem_cons_zero, List.getElem_cons_succ])
                (try simp only [Act.put, List.setIfInBounds_toArray, List.set_cons_zero, List.set_cons_succ])
                refine wpU_take (i := 9) (oi := _) (v := .pointer (some ⟨G, k, none⟩)) (b := false) rfl (by kernel_rfl) (by kernel_rfl) (by kernel_rfl) (by decide) (fun _ _ _ h => h) (Or.inl ⟨by rfl, ?_⟩) (by kernel_rfl) (by assumption) ?_
                · intro u' hSu
                  (try simp only [List.getElem_toArray, List.getElem_cons_zero, List.getElem_cons_succ])
                  go_simp
                (try simp only [List.getElem_toArray, List.getElem_cons_zero, List.getElem_cons_succ])
                (try simp only [Act.put, List.setIfInBounds_toArray, List.set_cons_zero, List.set_cons_succ])
                have q0 := HS8.out
                have q1 := HF8.out
                refine wpU_ready (rs := [10]) (by kernel_rfl) (by simp) (AllU.cons (b := true) rfl (by kernel_rfl) ?_ (AllU.nil))
                · intro K' hK'
                  (try simp only [List.getElem_toArray, List.getElem_cons_zero, List.getElem_cons_succ])
                  go_simp
                  refine hK'.out _ _ (fun e => by cases e) (fun _ => wpU_done (by kernel_rfl) ?_ _)
                  clear hK' K' hSd q0 q1 HS8 HF8
                  obtain ⟨g', c', hd⟩ := HKN.out.done (by omega)
                  have HD := hid hd
                  clear hd HKN
                  go_wp2
                  go_roundw
                  case rel => exact ⟨k + 1, g', c', by omega, by go_num, HD⟩
                  case measure => simp [intOf]; omega
    · obtain rfl : n = k := by omega
      have HE := hid HK1.out.all
      have HB1 := hid HK1.out.bel
      clear HK1
      go_wp2_with fail
      refine (HO1.out _).mono ?_
      rintro e w5 ⟨rfl, hb5⟩
      have HE5 := hid (HE.out.step hb5)
      have HX5 := hid (Box.new w5 (sgn 1) (nu 1) (de 1))
      have hA5 := (Below.refl w5.heap.size w5).alloc (Nat.le_refl _) (FC (sgn 1) (nu 1) (de 1))
      have HE6 := hid (HE5.out.step hA5)
      have HB5 := hid (HB1.out.trans (hb5.mono HB1.out.size))
      have HB6 := hid (HB5.out.trans (hA5.mono HB5.out.size))
      clear hb5 hA5 HE5 HE HB1
      have HNI : Hid ((n : Int) + 1 = ((n + 1 : Nat) : Int)) := by show _ = _; omega
      generalize sgn 1 = on at *
      generalize nu 1 = ox at *
      generalize de 1 = oy at *
      go_wp2_with fail
      generalize (w5.alloc (FC on ox oy)) = w6 at *
      rw [HNI.out]
      refine (HRP.out _ _ HX5.out).mono ?_
      rintro e w7 ⟨S1, rfl, hS1, hr7, hb7⟩
      have HSW := hid (HE6.out.swap (k := n - 1) hb7 hr7 hS1 HB6.out.size (by omega))
      have HB7 := hid ((HB6.out.trans (hb7.mono HB6.out.size)).setCell (p := ⟨G, n - 1, none⟩) HE6.out.gl (.slice (some ⟨S1, 0, none⟩) (n + 1) (n + 1)))
      have k0 := (HE6.out.step hb7).slice (show n - 1 < n by omega)
      have f0 := (HE6.out.step hb7).top.fz (n - 1)
      have hsub : ((n : Int) - 1) = ((n - 1 : Nat) : Int) := by omega
      have HEM : Hid (∀ t, t < n → (if t = n - 1 then (fun _ => 1) else sN P l t) = sM P l t) := fun t ht => by
        funext c
        show _ = if t = l.length - 1 then _ else _
        rw [HN.out]
        by_cases e9 : t = n - 1
        · rw [if_pos e9, if_pos e9]
        · rw [if_neg e9, if_neg e9]
          show (if c < l.length then _ else _) = _
          rw [HN.out]
      have HEQ := hid (HSW.out.congr HEM.out)
      clear HSW HEM hr7 hb7 hS1 HE6 HX5 HRP
      go_upto_region 13 with fail
      clear k0 f0
      generalize (w7.setCell ⟨G, n - 1, none⟩ (.slice (some ⟨S1, 0, none⟩) (n + 1) (n + 1))) = w8 at *
      go_wp2_with fail
      refine (HSOL.out w.heap.size G _ _ _ HEQ.out HB7.out.size).mono ?_
      rintro e w9 ⟨S, rfl, hS, hr, hb⟩
      have HRS := hid hr
      have HBS := hid (HB7.out.trans hb)
      have HSS : Hid (w.heap.size ≤ S) := Nat.le_trans HB7.out.size hS
      clear hr hb hS
      go_wp2
      go_ret
      exact ⟨S, rfl, HSS.out, HRS.out, HBS.out⟩
end Go.Proofs.YtbejijgelljeaaaGreatDoor

/- classOf of package chain; slices.Index and Contains. -/
namespace Go.Proofs.YtbejijgelljeaaaGreatDoor
open Go.RowKit Go.Shelf
/-- A state's class, and whether it stays there. -/
def clN (n : Nat) (e : Nat → Nat → Bool) (i : Nat) : List Nat := (List.range n).filter fun j => e i j && e j i
def stB (n : Nat) (e : Nat → Nat → Bool) (i : Nat) : Bool := (List.range n).all fun j => !e i j || e j i
theorem clN_succ (n : Nat) (e : Nat → Nat → Bool) (i : Nat) : clN (n + 1) e i = clN n e i ++ if e i n && e n i then [n] else [] := by
  rw [clN, List.range_succ, List.filter_append]
  congr 1
  by_cases h : (e i n && e n i) = true
  · rw [if_pos h]; simp [h]
  · rw [if_neg h]; simp [h]
theorem stB_succ (n : Nat) (e : Nat → Nat → Bool) (i : Nat) : stB (n + 1) e i = (stB n e i && (!e i n || e n i)) := by
  rw [stB, List.range_succ, List.all_append]
  simp [stB]
theorem clN_le (n : Nat) (e : Nat → Nat → Bool) (i : Nat) : (clN n e i).length ≤ n := Nat.le_trans (List.length_filter_le _ _) (by simp)
set_option maxRecDepth 100000 in
set_option maxHeartbeats 2000000 in
theorem chClass_any (B G n i : Nat) (Rw : Nat → Nat) (e : Nat → Nat → Bool) (w : World) (hM : BMt w B G n n Rw e) (hi : i < n) (hn : n ≤ 10) :
    Calls Tryz.prog 47 #[.slice (some ⟨G, 0, none⟩) n n, .int .i64 (i : Nat)] w fun e' w' => ∃ x, e' = .returned (.tuple #[x, .bool (stB n e i)]) ∧ RwI w' w.heap.size x (iL (clN n e i)) ∧ Below w.heap.size w w' := by
  have HM := hid hM
  clear hM
  go_enter Tryz.func47, Tryz.ntmps47
  go_wp2_with fail
  go_loopw [4, 5, 9] (fun xv sv jv wr => ∃ j : Nat, j ≤ n ∧ jv = .int .i64 j ∧ sv = .bool (stB j e i) ∧ Hid (RwI wr w.heap.size xv (iL (clN j e i))) ∧ Hid (Below w.heap.size w wr)) (fun _ _ jv _ => n - (intOf jv).toNat)
  case atStart => exact ⟨0, Nat.zero_le _, rfl, rfl, ⟨rfl, .inl ⟨rfl, rfl⟩⟩, Below.refl _ _⟩
  case round =>
    obtain ⟨j, hj, rfl, rfl, HR, HW⟩ := hrel
    by_cases hlt : j < n
    · have m0 := (HM.out.below HW.out).slice hi hi
      have m1 := (HM.out.below HW.out).cell hi hi hlt
      have m2 := (HM.out.below HW.out).slice hlt hlt
      have m3 := (HM.out.below HW.out).cell hlt hlt hi
      have HC := hid (clN_succ j e i)
      have HS := hid (stB_succ j e i)
      have hle := clN_le j e i
      generalize e i j = p at *
      generalize e j i = q at *
      cases p with
      | false =>
        have HC2 : Hid (iL (clN (j + 1) e i) = iL (clN j e i)) := by show _ = _; rw [HC.out]; simp
        have HS2 : Hid (stB (j + 1) e i = stB j e i) := by show _ = _; rw [HS.out]; simp
        clear HC HS
        go_wp2
        go_roundw
        case rel => exact ⟨j + 1, by omega, by go_num, by rw [HS2.out], by rw [HC2.out]; exact HR, HW⟩
        case measure => simp [intOf]; omega
      | true =>
        cases q with
        | false =>
          have HC2 : Hid (iL (clN (j + 1) e i) = iL (clN j e i)) := by show _ = _; rw [HC.out]; simp
          have HS2 : Hid (stB (j + 1) e i = false) := by show _ = _; rw [HS.out]; simp
          clear HC HS
          go_wp2
          go_roundw
          case rel => exact ⟨j + 1, by omega, by go_num, by rw [HS2.out], by rw [HC2.out]; exact HR, HW⟩
          case measure => simp [intOf]; omega
        | true =>
          have HC2 : Hid (iL (clN (j + 1) e i) = iL (clN j e i) ++ [((j : Nat) : Int)]) := by show _ = _; rw [HC.out, iL_append]; rfl
          have HS2 : Hid (stB (j + 1) e i = stB j e i) := by show _ = _; rw [HS.out]; simp
          clear HC HS
          have HOWN := hid HR.out.own
          have HRA : Hid (RwI (wr.alloc (.cells #[.int .i64 (j : Nat)] 3)) w.heap.size _ (iL (clN j e i))) := World.ownsRow.alloc HR.out _
          have HBA := hid (HW.out.alloc HW.out.size (.cells #[.int .i64 (j : Nat)] 3))
          have HIA := hid (new_int wr (j : Nat))
          go_wp2_with (at_builtin; refine wpList_append_ints rfl _ _ rfl w.heap.size _ (iL (clN j e i)) [((j : Nat) : Int)] rfl HRA.out (some ⟨wr.heap.size, 0, none⟩) 1 rfl HIA.out (fun e => by cases e) (by rw [iL_length]; simp; omega) HBA.out.size ?_; intro v' w3 hr3 hg3; have HB3 := hid (HBA.out.grown hg3 HBA.out.size HOWN.out); have HR3 : Hid (RwI w3 w.heap.size v' (iL (clN (j + 1) e i))) := (by rw [HC2.out]; exact hr3))
          go_roundw
          case rel => exact ⟨j + 1, by omega, by go_num, by rw [HS2.out], HR3, HB3⟩
          case measure => simp [intOf]; omega
    · obtain rfl : n = j := by omega
      go_wp2
      go_ret2
      exact ⟨_, rfl, HR.out, HW.out⟩
/-- Bools in memory. -/
def BoS' (w : World) (a : Option Addr) (l : List Bool) : Prop := ∀ k (h : k < l.length), ∃ g o, a = some ⟨g, o, none⟩ ∧ g < w.heap.size ∧ w.cell? ⟨g, o + k, none⟩ = some (.bool l[k])
/-- Where the first true stands. -/
def fstT : List Bool → Nat
  | [] => 0
  | true :: _ => 0
  | false :: l => fstT l + 1
theorem fstT_spec : ∀ (l : List Bool), true ∈ l → ∃ hk : fstT l < l.length, l[fstT l] = true ∧ ∀ i (hi : i < l.length), i < fstT l → l[i] = false
  | true :: l, _ => ⟨Nat.succ_pos _, rfl, fun i _ h => absurd h (Nat.not_lt_zero _)⟩
  | false :: l, h => by
    have h' : true ∈ l := by simpa using h
    obtain ⟨hk, h1, h2⟩ := fstT_spec l h'
    refine ⟨by simp only [fstT, List.length_cons]; omega, by simpa [fstT] using h1, fun i hi hlt => ?_⟩
    cases i with
    | zero => rfl
    | succ i => simpa using h2 i (by simpa using hi) (by simpa [fstT] using hlt)
set_option maxRecDepth 100000 in
set_option maxHeartbeats 1000000 in
theorem slIndexBo_any (a : Option Addr) (ca n : Nat) (l : List Bool) (w : World) (h : BoS' w a l) (hl : l.length = n) (hn : n ≤ 1000) :
    Calls Tryz.prog 44 #[.slice a n ca, .bool true] w fun e w' => w' = w ∧ ((true ∉ l ∧ e = .returned (.int .i64 (-1))) ∨ (true ∈ l ∧ e = .returned (.int .i64 (fstT l : Nat)))) := by
  have HV := hid h
  have HL := hid hl
  clear h hl
  go_enter Tryz.func44, Tryz.ntmps44
  go_wp2_with fail
  go_loopw [8] (fun jv wr => ∃ j : Nat, j ≤ n ∧ jv = .int .i64 j ∧ Hid (∀ i (hi : i < l.length), i < j → l[i] = false) ∧ wr = w) (fun jv _ => n - (intOf jv).toNat)
  case atStart => exact ⟨0, Nat.zero_le _, rfl, (fun i _ h => absurd h (by omega)), rfl⟩
  case round =>
    obtain ⟨j, hj, rfl, HF, rfl⟩ := hrel
    by_cases hlt : j < n
    · have hjl : j < l.length := by rw [HL.out]; exact hlt
      obtain ⟨g, o, rfl, hg, c0⟩ := HV.out j hjl
      cases hb : l[j] with
      | true =>
        rw [hb] at c0
        have HT : Hid (true ∈ l ∧ fstT l = j) := by
          have hm : true ∈ l := by rw [← hb]; exact List.getElem_mem hjl
          obtain ⟨hk, h1, h2⟩ := fstT_spec l hm
          refine ⟨hm, ?_⟩
          rcases Nat.lt_trichotomy (fstT l) j with h3 | h3 | h3
          · rw [HF.out _ hk h3] at h1; cases h1
          · exact h3
          · rw [h2 j hjl h3] at hb; cases hb
        go_wp2
        go_ret
        exact ⟨rfl, .inr ⟨HT.out.1, by rw [HT.out.2]; rfl⟩⟩
      | false =>
        rw [hb] at c0
        have HF2 : Hid (∀ i (hi : i < l.length), i < j + 1 → l[i] = false) := fun i hi h => by
          by_cases e : i = j
          · subst e; exact hb
          · exact HF.out i hi (by omega)
        go_wp2
        go_roundw
        case rel => exact ⟨j + 1, by omega, by go_num, HF2, trivial⟩
        case measure => simp [intOf]; omega
    · obtain rfl : n = j := by omega
      have HT : Hid (true ∉ l) := fun h => by
        obtain ⟨i, hi, e⟩ := List.mem_iff_getElem.1 h
        have h9 := HF.out i hi (by rw [← HL.out]; exact hi)
        rw [e] at h9
        cases h9
      go_wp2
      go_ret
      exact ⟨rfl, .inl ⟨HT.out, rfl⟩⟩
set_option maxRecDepth 100000 in
set_option maxHeartbeats 1000000 in
theorem slContainsBo_any (a : Option Addr) (ca n : Nat) (l : List Bool) (w : World) (h : BoS' w a l) (hl : l.length = n) (hn : n ≤ 1000) :
    Calls Tryz.prog 45 #[.slice a n ca, .bool true] w fun e w' => w' = w ∧ e = .returned (.bool (decide (true ∈ l))) := by
  have HI := hid (slIndexBo_any a ca n l w h hl hn)
  go_enter Tryz.func45, Tryz.ntmps45
  go_wp2_with fail
  refine HI.out.mono ?_
  rintro e w1 ⟨rfl, h1⟩
  rcases h1 with ⟨h1, rfl⟩ | ⟨h1, rfl⟩
  · have HD := hid (decide_eq_false h1)
    go_wp2
    go_ret
    exact ⟨rfl, by rw [HD.out]; rfl⟩
  · have HD := hid (decide_eq_true h1)
    generalize fstT l = f at *
    go_wp2
    go_ret
    exact ⟨rfl, by rw [HD.out]; rfl⟩
end Go.Proofs.YtbejijgelljeaaaGreatDoor
