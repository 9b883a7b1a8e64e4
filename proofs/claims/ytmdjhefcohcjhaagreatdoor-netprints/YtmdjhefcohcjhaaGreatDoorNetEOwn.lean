/- Nets: the document's answer: NetCheck. -/
import Derived.Test.YtmdjhefcohcjhaaGreatDoorRtBToNetD
import Derived.Deep.QuietTactic
import Derived.BigQuiet
import Derived.Test.YtmdjhefcohcjhaaGreatDoorNameCToRoundA
namespace Go.Proofs.YtmdjhefcohcjhaaGreatDoor
open Go.RowKit Go.Shelf

/-- A net in memory. -/
structure NetI (w : World) (a b c : Option Addr) (V : List Vr) (L : List (List Int)) (R : List (List Fr)) : Prop where
  vars : VsS w a V
  pars : LsS w b L
  rows : FsS w c R
theorem NetI.below {w w' : World} {a b c : Option Addr} {V : List Vr} {L : List (List Int)} {R : List (List Fr)} (h : NetI w a b c V L R) (hb : Below w.heap.size w w') : NetI w' a b c V L R := ⟨h.vars.below hb, h.pars.below hb, h.rows.below hb⟩
/-- A net that is not too great. -/
structure NSm (V : List Vr) (L : List (List Int)) (R : List (List Fr)) : Prop where
  vars : VSm V
  pars : L.length ≤ 5000 ∧ ∀ l ∈ L, l.length ≤ 5000
  rows : R.length ≤ 5000 ∧ ∀ l ∈ R, l.length ≤ 5000 ∧ fw l ≤ 10000
/-- What a call holds: the net's box. -/
def NK (w wr : World) (x y z : Value) : Prop := NBox wr w.heap.size x y z ∧ Below w.heap.size w wr
theorem NK.step {w wr wr' : World} {x y z : Value} (h : NK w wr x y z) (hb : Below wr.heap.size wr wr') : NK w wr' x y z := ⟨h.1.below hb h.1.lt, h.2.trans (hb.mono h.2.size)⟩
theorem NK.grow {w wr wr' : World} {x y z : Value} (h : NK w wr x y z) (hb : Below (w.heap.size + 1) wr wr') : NK w wr' x y z := ⟨h.1.below hb (by omega), h.2.trans (hb.mono (by omega))⟩
theorem NK.new (w : World) (x y z : Value) : NK w (w.alloc (NC x y z)) x y z := ⟨NBox.at rfl x y z, (Below.refl _ w).alloc (Nat.le_refl _) _⟩
theorem fine_sizes {V : List Vr} {L : List (List Int)} (hl : L.length = V.length) (hg : gcE L = 0) (hv : varsE V = 0) : Fine (iL (sizesN V)) ∧ L.length ≤ 8 ∧ ∀ v (h : v < L.length), Up L[v] L.length := by
  have hgb : gB L = true := by
    rw [gcE] at hg
    by_cases h : gB L = true
    · exact h
    · rw [if_neg h] at hg; exact absurd hg (by decide)
  obtain ⟨h1, h8, h3, _⟩ := gB_parts hgb
  have hf : ∀ i, i < V.length → varE V i = 0 := by
    rw [varsE] at hv
    by_cases h : namesE (namesV V) = 0
    · rw [if_pos h] at hv
      intro i hi
      have key : ∀ {n : Nat}, firstE (varE V) n = 0 → ∀ j, j < n → varE V j = 0 := by
        intro n
        induction n with
        | zero => intro _ j hj; omega
        | succ n ih =>
          intro hz j hj
          rw [firstE] at hz
          by_cases e : firstE (varE V) n = 0
          · rw [if_pos e] at hz
            rcases Nat.lt_or_ge j n with h2 | h2
            · exact ih e j h2
            · obtain rfl : j = n := by omega
              exact hz
          · rw [if_neg e] at hz; exact absurd hz e
      exact key hv i hi
    · rw [if_neg h] at hv; exact absurd hv h
  refine ⟨⟨by rw [iL_length, sizesN_length]; omega, by rw [iL_length, sizesN_length]; omega, fun i hi => ?_⟩, h8, fun v hv => ris_up (allRis_at h3 hv)⟩
  rw [iL_length, sizesN_length] at hi
  have h4 := hf i hi
  rw [varE, getV hi] at h4
  have h5 : 1 ≤ V[i].2.length ∧ V[i].2.length ≤ 4 := by
    by_cases e : 1 ≤ V[i].2.length ∧ V[i].2.length ≤ 4
    · exact e
    · rw [if_neg e] at h4; exact absurd h4 (by decide)
  have e : (iL (sizesN V))[i]'(by rw [iL_length, sizesN_length]; exact hi) = (V[i].2.length : Int) := by simp [iL, sizesN]
  rw [e]
  omega
theorem names_take {V : List Vr} {i : Nat} (h : i < V.length) : (namesV V).take (i + 1) = (namesV V).take i ++ [V[i].1] := by
  obtain ⟨h1, h2⟩ := List.getElem?_eq_some_iff.1 (namesV_get h)
  rw [List.take_succ_eq_append_getElem h1, h2]

set_option maxRecDepth 100000 in
set_option maxHeartbeats 2000000 in
theorem rNetCheck_any (a b c : Option Addr) (ca cb cc : Nat) (V : List Vr) (L : List (List Int)) (R : List (List Fr)) (w : World) (h : NetI w a b c V L R) (hs : NSm V L R) :
    Calls Tryz.prog 10 #[.agg #[.slice a V.length ca, .slice b L.length cb, .slice c R.length cc]] w fun e w' => e = .returned (.int .i64 (netE V L R)) ∧ Below w.heap.size w w' := by
  have HI := hid h
  have hV5 := hs.vars.1
  have hL5 := hs.pars.1
  have hR5 := hs.rows.1
  have HS := hid hs
  have HN8 : Hid (¬ (L.length = V.length ∧ R.length = V.length) → netE V L R = 8) := fun h => if_neg h
  have HNG : Hid (L.length = V.length → R.length = V.length → gcE L ≠ 0 → netE V L R = gcE L) := fun h1 h2 h3 => by rw [netE, if_pos ⟨h1, h2⟩, if_neg h3]
  have HNV : Hid (L.length = V.length → R.length = V.length → gcE L = 0 → varsE V ≠ 0 → netE V L R = varsE V) := fun h1 h2 h3 h4 => by rw [netE, if_pos ⟨h1, h2⟩, if_pos h3, if_neg h4]
  have HNR : Hid (L.length = V.length → R.length = V.length → gcE L = 0 → varsE V = 0 → netE V L R = firstE (rowE (sizesN V) L R) V.length) := fun h1 h2 h3 h4 => by rw [netE, if_pos ⟨h1, h2⟩, if_pos h3, if_pos h4]
  have HFS : Hid (L.length = V.length → gcE L = 0 → varsE V = 0 → Fine (iL (sizesN V)) ∧ L.length ≤ 8 ∧ ∀ v (h : v < L.length), Up L[v] L.length) := fun h1 h2 h3 => fine_sizes h1 h2 h3
  have HGC := hid (fun (U : World) (hU : LsS U b L) => rGraphCheck_any b cb L U hU (fun l hl => by have := hs.pars.2 l hl; omega) (by omega))
  generalize netE V L R = ne at *
  clear h hs
  have HK0 := hid (NK.new w (.slice a V.length ca) (.slice b L.length cb) (.slice c R.length cc))
  obtain ⟨c0, c1, c2⟩ := HK0.out.1.cells
  by_cases hLV : L.length = V.length
  · by_cases hRV : R.length = V.length
    · have hlv : ((L.length : Int) != (V.length : Int)) = false := by rw [hLV]; simp
      have hrv : ((R.length : Int) != (V.length : Int)) = false := by rw [hRV]; simp
      have HLV := hid hLV
      have HRV := hid hRV
      clear hLV hRV HN8
      go_enter Tryz.func10, Tryz.ntmps10
      go_wp2_with fail
      generalize (w.alloc (NC (.slice a V.length ca) (.slice b L.length cb) (.slice c R.length cc))) = w1 at *
      refine (HGC.out _ (HI.out.below HK0.out.2).pars).mono ?_
      rintro e w2 ⟨rfl, hb2⟩
      have HK2 := hid (HK0.out.step hb2)
      clear hb2 HK0 c0 c1 c2 hlv hrv HGC
      by_cases hg : gcE L = 0
      · have HNV' := hid (HNV.out HLV.out HRV.out hg)
        have HNR' := hid (HNR.out HLV.out HRV.out hg)
        have HFS' := hid (HFS.out HLV.out hg)
        rw [hg]
        clear hg HNG HNV HNR HFS
        have hcap : (namesV V).length = V.length := namesV_length V
        have HNT := hid (fun i h => names_take (V := V) (i := i) h)
        have HVE1 : Hid (namesE (namesV V) ≠ 0 → varsE V = namesE (namesV V)) := fun h => if_neg h
        have HVE2 : Hid (namesE (namesV V) = 0 → varsE V = firstE (varE V) V.length) := fun h => if_pos h
        have HNS : Hid (∀ s ∈ namesV V, s.size ≤ 140737488355328) := fun s hs' => by
          obtain ⟨x, hx, rfl⟩ := List.mem_map.1 hs'
          have := (HS.out.vars.2 x hx).1
          omega
        go_wp2_with fail
        go_loopw [4, 5] (fun lv iv wr => ∃ i : Nat, i ≤ V.length ∧ iv = .int .i64 i ∧ Hid (RwS wr (w.heap.size + 1) lv ((namesV V).take i)) ∧ Hid (NK w wr (.slice a V.length ca) (.slice b L.length cb) (.slice c R.length cc))) (fun _ iv _ => V.length - (intOf iv).toNat)
        case atStart => exact ⟨0, Nat.zero_le _, rfl, ⟨rfl, .inl ⟨rfl, rfl⟩⟩, HK2⟩
        case round =>
          obtain ⟨i, hi, rfl, HRS, HK⟩ := hrel
          clear HK2
          obtain ⟨c0, c1, c2⟩ := HK.out.1.cells
          by_cases hlt : i < V.length
          · obtain ⟨g, o, b', c', rfl, hg, d0, d1, -, -⟩ := (HI.out.below HK.out.2).vars i hlt
            have HTK := hid (HNT.out i hlt)
            have HLE : Hid (((namesV V).take i).length ≤ 5000) := by
              show ((namesV V).take i).length ≤ 5000
              rw [List.length_take]; omega
            generalize V[i] = v at *
            obtain ⟨nm, vs⟩ := v
            simp only at d0 d1 HTK
            have HOWN := hid HRS.out.own
            have hsz : w.heap.size + 1 ≤ wr.heap.size := HK.out.1.lt
            have HRA : Hid (RwS (wr.alloc (.cells #[.string nm] 9)) (w.heap.size + 1) _ ((namesV V).take i)) := World.ownsRow.alloc HRS.out _
            have HKA := hid (HK.out.step ((Below.refl _ wr).alloc (Nat.le_refl _) (.cells #[.string nm] 9)))
            have hsz2 : w.heap.size + 1 ≤ (wr.alloc (.cells #[.string nm] 9)).heap.size := by simp; omega
            have HST := hid (one_str wr nm)
            go_wp2_with (at_builtin; refine wpList_append_str rfl _ _ rfl (w.heap.size + 1) _ ((namesV V).take i) nm rfl HRA.out wr.heap.size rfl HST.out (by have := HLE.out; omega) hsz2 ?_; intro v' w3 hr3 hg3)
            have HR3 := hid hr3
            have HK3 := hid (HKA.out.grow ((Below.refl _ _).grown hg3 hsz2 HOWN.out))
            clear hr3 hg3
            go_roundw
            case rel => exact ⟨i + 1, by omega, by go_num, by rw [HTK.out]; exact HR3, HK3⟩
            case measure => simp [intOf]; omega
          · obtain rfl : i = V.length := by omega
            have hrs := HRS.out
            rw [List.take_of_length_le (by omega)] at hrs
            obtain ⟨d, cd, rfl, hst⟩ := hrs.st
            have HST := hid hst
            have HNO : Hid (∀ U : World, StS U d (namesV V) → Calls Tryz.prog 22 #[.slice d V.length cd] U fun e w' => e = .returned (.int .i64 (namesE (namesV V))) ∧ w' = U) := fun U hU => by
              have := rNamesOK_any d cd (namesV V) U hU (by omega) HNS.out
              rwa [hcap] at this
            clear hrs hst HRS
            generalize hnm : namesE (namesV V) = nme at *
            clear hnm
            go_wp2_with fail
            refine (HNO.out _ HST.out).mono ?_
            rintro e w4 ⟨rfl, rfl⟩
            clear HST HNO
            by_cases hn0 : nme = 0
            · subst hn0
              have HVF := hid (HVE2.out rfl)
              clear HVE1 HVE2 c0 c1 c2
              have HA : Hid (∀ i, i < V.length → (∀ j, j < i → varE V j = 0) → ∀ k, varE V i = k → k ≠ 0 → varsE V = k) := fun i hi hz k hk hk0 => by rw [HVF.out, firstE_at hz (by rw [hk]; exact hk0) hi, hk]
              have HZ : Hid ((∀ j, j < V.length → varE V j = 0) → varsE V = 0) := fun h => by rw [HVF.out]; exact firstE_none h
              have HL := hid (fun i h e => varE_lim (V := V) (i := i) h e)
              have HNN := hid (fun i h e => varE_names (V := V) (i := i) h e)
              clear HVF
              generalize varsE V = vse at *
              go_wp2_with fail
              go_loopw [6] (fun iv wq => ∃ i : Nat, i ≤ V.length ∧ iv = .int .i64 i ∧ Hid (∀ j, j < i → varE V j = 0) ∧ wq = w4) (fun iv _ => V.length - (intOf iv).toNat)
              case atStart => exact ⟨0, Nat.zero_le _, rfl, fun j h => absurd h (by omega), rfl⟩
              case round =>
                obtain ⟨i, hi', rfl, HZI, rfl⟩ := hrel
                obtain ⟨c0, c1, c2⟩ := HK.out.1.cells
                by_cases hlt2 : i < V.length
                · obtain ⟨g, o, b', c', rfl, hg, d0, d1, hSt, hcp⟩ := (HI.out.below HK.out.2).vars i hlt2
                  have hsm := HS.out.vars.2 V[i] (List.getElem_mem hlt2)
                  have HLi := hid (fun e => HNV'.out (by rw [HA.out i hlt2 HZI.out 2 (HL.out i hlt2 e) (by decide)]; decide) |>.trans (HA.out i hlt2 HZI.out 2 (HL.out i hlt2 e) (by decide)))
                  have HNi : Hid (∀ (e : 1 ≤ V[i].2.length ∧ V[i].2.length ≤ 4) (k : Int), namesE V[i].2 = k → k ≠ 0 → ne = k) := fun e k hk hk0 => by
                    have h1 := HA.out i hlt2 HZI.out k ((HNN.out i hlt2 e).trans hk) hk0
                    rw [HNV'.out (by rw [h1]; exact hk0), h1]
                  have HZi := hid (fun e (hk : namesE V[i].2 = 0) => zero_upto HZI.out ((HNN.out i hlt2 e).trans hk))
                  have HST2 := hid hSt
                  clear hSt
                  generalize V[i] = v at *
                  obtain ⟨nm, vs⟩ := v
                  simp only at d0 d1 HST2 hcp hsm HLi HNi HZi
                  have hvl := hsm.2.1
                  have HVS := hid hsm.2.2
                  clear hsm
                  by_cases h1 : 1 ≤ vs.length
                  · by_cases h4 : vs.length ≤ 4
                    · have e1 : (1 : Int) ≤ (vs.length : Int) := by omega
                      have e2 : (vs.length : Int) ≤ 4 := by omega
                      have HN2 := hid (HNi.out ⟨h1, h4⟩)
                      have HZ2 := hid (HZi.out ⟨h1, h4⟩)
                      clear HLi HNi HZi
                      go_wp2_with fail
                      refine (rNamesOK_any b' c' vs _ HST2.out (by omega) (fun s hs' => by have := HVS.out s hs'; omega)).mono ?_
                      rintro e w5 ⟨rfl, rfl⟩
                      generalize namesE vs = q at *
                      by_cases hq : q = 0
                      · subst hq
                        have HZ3 := hid (HZ2.out rfl)
                        go_wp2
                        go_roundw
                        case rel => exact ⟨i + 1, by omega, by go_num, HZ3, trivial⟩
                        case measure => simp [intOf]; omega
                      · have HQ := hid (HN2.out q rfl hq)
                        have hqb : (q == 0) = false := by simpa using hq
                        clear hq
                        go_wp2
                        go_ret
                        exact ⟨by rw [HQ.out]; rfl, HK.out.2⟩
                    · have HQ := hid (HLi.out fun h => h4 h.2)
                      have e1 : (1 : Int) ≤ (vs.length : Int) := by omega
                      have e2 : (4 : Int) < (vs.length : Int) := by omega
                      clear h4 HLi HNi HZi
                      go_wp2
                      go_ret
                      exact ⟨by rw [HQ.out]; rfl, HK.out.2⟩
                  · have HQ := hid (HLi.out fun h => h1 h.1)
                    have e1 : (vs.length : Int) < 1 := by omega
                    clear h1 HLi HNi HZi
                    go_wp2
                    go_ret
                    exact ⟨by rw [HQ.out]; rfl, HK.out.2⟩
                · obtain rfl : i = V.length := by omega
                  have hv0 := HZ.out HZI.out
                  have HNR2 := hid (HNR'.out hv0)
                  obtain ⟨hfi, h8, hup⟩ := HFS'.out hv0
                  have HFI := hid hfi
                  have HUP := hid hup
                  have hsl : (iL (sizesN V)).length = V.length := by rw [iL_length, sizesN_length]
                  have HCT : Hid (∀ (U : World) (d6 bl : Option Addr) (cd6 cl : Nat) (l : List Int), Up l L.length → IntS U d6 (iL (sizesN V)) → IntS U bl l → Calls Tryz.prog 13 #[.slice d6 V.length cd6, .slice bl l.length cl] U fun e w' => e = .returned (.tuple #[.int .i64 (cnt (sizesN V) (toN l) : Nat), .int .i64 0]) ∧ Below U.heap.size U w') := fun U d6 bl cd6 cl l hl h1 h2 => by
                    have := rCount_in d6 bl cd6 cl (iL (sizesN V)) l U h1 h2 HFI.out (by rw [hsl, ← HLV.out]; exact hl)
                    rwa [hsl, toN_iL] at this
                  have HCS : Hid (∀ l : List Int, Up l L.length → cnt (sizesN V) (toN l) ≤ 65536) := fun l hl => by
                    have h1 := HFI.out.sz_le
                    rw [toN_iL] at h1
                    have h2 := hl.length
                    exact cnt_small h1 (by rw [toN_length]; omega)
                  have HSZ4 : Hid (∀ v, v < V.length → 1 ≤ sz (sizesN V) v ∧ sz (sizesN V) v ≤ 4 ∧ (iL (sizesN V))[v]? = some ((sz (sizesN V) v : Nat) : Int)) := fun v hv => by
                    have h1 := HFI.out.sz_le v
                    have h2 := sz_pos HFI.out.pos v
                    rw [toN_iL] at h1 h2
                    refine ⟨h2, h1, ?_⟩
                    rw [sz, sizesN_get hv]
                    simp [iL, sizesN, hv]
                  have HE0 : Hid ((∀ j, j < V.length → rowE (sizesN V) L R j = 0) → ne = 0) := fun h => by rw [HNR2.out]; exact firstE_none h
                  have HEA : Hid (∀ v, v < V.length → (∀ j, j < v → rowE (sizesN V) L R j = 0) → ∀ q, rowE (sizesN V) L R v = q → q ≠ 0 → ne = q) := fun v hv hz q hq hq0 => by rw [HNR2.out, firstE_at hz (by rw [hq]; exact hq0) hv, hq]
                  clear hfi hup HZ HA HL HNN HNV' HNR' HFS' hv0 HZI HNR2
                  go_wp2_with fail
                  refine (rSizes_any a b c ca cb cc L.length R.length V _ (HI.out.below HK.out.2).vars hV5).mono ?_
                  rintro e w6 ⟨xv, rfl, hrw, hb6⟩
                  obtain ⟨d6, cd6, rfl, hi6⟩ := hrw.ints
                  rw [hsl]
                  have HK6 := hid (HK.out.step hb6)
                  have HI6 := hid hi6
                  clear hrw hb6 hi6 c0 c1 c2 HK
                  go_wp2_with fail
                  go_loopw [9] (fun iv wr => ∃ v : Nat, v ≤ V.length ∧ iv = .int .i64 v ∧ Hid (∀ j, j < v → rowE (sizesN V) L R j = 0) ∧ Hid (NK w wr (.slice a V.length ca) (.slice b L.length cb) (.slice c R.length cc)) ∧ Hid (IntS wr d6 (iL (sizesN V)))) (fun iv _ => V.length - (intOf iv).toNat)
                  case atStart => exact ⟨0, Nat.zero_le _, rfl, fun j h => absurd h (by omega), HK6, HI6⟩
                  case round =>
                    obtain ⟨v, hv, rfl, HZR, HKr, HIr⟩ := hrel
                    clear HK6 HI6
                    obtain ⟨c0, c1, c2⟩ := HKr.out.1.cells
                    by_cases hlt3 : v < V.length
                    · have hvL : v < L.length := by rw [HLV.out]; exact hlt3
                      have hvR : v < R.length := by rw [HRV.out]; exact hlt3
                      obtain ⟨gp, op_, bl, cl, rfl, hgp, p1, hpi⟩ := HI.out.pars v hvL
                      obtain ⟨gr, or_, br, cr, rfl, hgr, r1, hrf, hrc⟩ := HI.out.rows v hvR
                      obtain ⟨hs1, hs4, hse⟩ := HSZ4.out v hlt3
                      obtain ⟨hse1, hse2⟩ := List.getElem?_eq_some_iff.1 hse
                      obtain ⟨gs, os_, rfl, hgs, t1⟩ := HIr.out v hse1
                      rw [hse2] at t1
                      have hUl := HUP.out v hvL
                      have hcs := HCS.out L[v] hUl
                      have hN1 : 1 ≤ cnt (sizesN V) (toN L[v]) := by have := cnt_pos HFI.out.pos (toN L[v]); rwa [toN_iL] at this
                      have hrs := HS.out.rows.2 R[v] (List.getElem_mem hvR)
                      have HPI := hid hpi
                      have HRF := hid hrf
                      have HP1 := hid p1
                      have HR1 := hid r1
                      have HR8 : Hid (¬ R[v].length = cnt (sizesN V) (toN L[v]) * sz (sizesN V) v → ne = 8) := fun h => HEA.out v hlt3 HZR.out 8 (by
                        rw [rowE, List.getD_eq_getElem?_getD, List.getElem?_eq_getElem hvR, List.getD_eq_getElem?_getD, List.getElem?_eq_getElem hvL]
                        exact if_neg h) (by decide)
                      have HR9' : Hid (R[v].length = cnt (sizesN V) (toN L[v]) * sz (sizesN V) v → ∀ i, i < cnt (sizesN V) (toN L[v]) → rowB (chunkF R[v] (sz (sizesN V) v) i) = false → ne = 9) := fun h i hi hr => HEA.out v hlt3 HZR.out 9 (by
                        rw [rowE, List.getD_eq_getElem?_getD, List.getElem?_eq_getElem hvR, List.getD_eq_getElem?_getD, List.getElem?_eq_getElem hvL]
                        refine (if_pos h).trans (if_neg fun h2 => ?_)
                        have := List.all_eq_true.1 h2 i (List.mem_range.2 hi)
                        rw [Option.getD_some, hr] at this
                        cases this) (by decide)
                      have HR0' : Hid (R[v].length = cnt (sizesN V) (toN L[v]) * sz (sizesN V) v → (∀ i, i < cnt (sizesN V) (toN L[v]) → rowB (chunkF R[v] (sz (sizesN V) v) i) = true) → ∀ j, j < v + 1 → rowE (sizesN V) L R j = 0) := fun h hr => zero_upto HZR.out (by
                        rw [rowE, List.getD_eq_getElem?_getD, List.getElem?_eq_getElem hvR, List.getD_eq_getElem?_getD, List.getElem?_eq_getElem hvL]
                        exact (if_pos h).trans (if_pos (List.all_eq_true.2 fun i hi => hr i (List.mem_range.1 hi))))
                      have HCTv := hid (fun (U : World) (h1 : IntS U (some ⟨gs, os_, none⟩) (iL (sizesN V))) (h2 : IntS U bl (L[v]'hvL)) => HCT.out U (some ⟨gs, os_, none⟩) bl cd6 cl L[v] hUl h1 h2)
                      generalize R[v] = rl at *
                      generalize L[v] = pl at *
                      generalize sz (sizesN V) v = k at *
                      generalize cnt (sizesN V) (toN pl) = N at *
                      have hBv := HKr.out.2
                      have p1' := (hBv.cell (p := ⟨gp, op_ + v, none⟩) hgp).trans p1
                      have HSE : Hid (∃ h : v < (iL (sizesN V)).length, (iL (sizesN V))[v] = ((k : Nat) : Int)) := ⟨hse1, hse2⟩
                      clear hpi hrf p1 r1 hse hse1 hse2 hUl
                      go_wp2_with fail
                      refine (HCTv.out _ HIr.out (HPI.out.below hBv)).mono ?_
                      rintro e w7 ⟨rfl, hb7⟩
                      have HKs := hid (HKr.out.step hb7)
                      have t1' := (hb7.cell (p := ⟨gs, os_ + v, none⟩) hgs).trans t1
                      have HIs := hid (HIr.out.below hb7)
                      have hgs' := Nat.lt_of_lt_of_le hgs hb7.size
                      clear hb7 p1' t1 c0 c1 c2 hBv hgs
                      obtain ⟨c0, c1, c2⟩ := HKs.out.1.cells
                      have r1' := (HKs.out.2.cell (p := ⟨gr, or_ + v, none⟩) hgr).trans HR1.out
                      have hmul : IntKind.i64.wrap ((N : Int) * (k : Int)) = ((N * k : Nat) : Int) := by
                        have h1 : N * k ≤ 65536 * 4 := Nat.mul_le_mul hcs hs4
                        rw [IntKind.wrap_i64, ← Int.natCast_mul]
                        omega
                      generalize hNk : N * k = T at *
                      go_upto_region 28 with fail
                      go_quiet (fail)
                      have HKt : Hid (NK w (w7.drewN nq) (.slice a V.length ca) (.slice (some ⟨gp, op_, none⟩) L.length cb) (.slice (some ⟨gr, or_, none⟩) R.length cc)) := ⟨HKs.out.1, below_drewN HKs.out.2 nq⟩
                      have HIt : Hid (IntS (w7.drewN nq) (some ⟨gs, os_, none⟩) (iL (sizesN V))) := HIs.out
                      clear HKs HIs c0 c1 c2 r1' t1' hgs' HKr HIr hmul
                      generalize w7.drewN nq = w8 at *
                      by_cases hlen : rl.length = T
                      · have hlb : ((rl.length : Int) != (T : Int)) = false := by rw [hlen]; simp
                        have HR9 := hid (HR9'.out hlen)
                        have HR0 := hid (HR0'.out hlen)
                        have hT1 : 1 ≤ T := by rw [← hNk]; exact Nat.mul_le_mul hN1 hs1
                        obtain ⟨gf, of_, rfl, hgf, -⟩ := HRF.out 0 (by omega)
                        have HLEN := hid hlen
                        have HNK := hid hNk
                        have HRS := hid hrs
                        clear HR9' HR0' HR8 hlen hNk hrs
                        rw [hlb]
                        clear hlb
                        go_wp2_with fail
                        go_loopw [12] (fun iv wz => ∃ i : Nat, i ≤ N ∧ iv = .int .i64 i ∧ Hid (∀ j, j < i → rowB (chunkF rl k j) = true) ∧ Hid (NK w wz (.slice a V.length ca) (.slice (some ⟨gp, op_, none⟩) L.length cb) (.slice (some ⟨gr, or_, none⟩) R.length cc)) ∧ Hid (IntS wz (some ⟨gs, os_, none⟩) (iL (sizesN V)))) (fun iv _ => N - (intOf iv).toNat)
                        case atStart => exact ⟨0, Nat.zero_le _, rfl, fun j h => absurd h (by omega), HKt, HIt⟩
                        case round =>
                          obtain ⟨i, hi4, rfl, HRB, HKz, HIz⟩ := hrel
                          clear HKt HIt
                          by_cases hlt4 : i < N
                          · have hT : (i + 1) * k ≤ rl.length := by rw [HLEN.out, ← HNK.out]; exact Nat.mul_le_mul_right k hlt4
                            have hk1 : k ≤ (i + 1) * k := Nat.le_mul_of_pos_left k (by omega)
                            have HFz := hid (HRF.out.below HKz.out.2)
                            obtain ⟨c0, c1, c2⟩ := HKz.out.1.cells
                            have r1 := (HKz.out.2.cell (p := ⟨gr, or_ + v, none⟩) hgr).trans HR1.out
                            obtain ⟨hx1, hx2⟩ := HSE.out
                            obtain ⟨gs', os', e', hgs2, t1⟩ := HIz.out v hx1
                            cases e'
                            rw [hx2] at t1
                            clear hx1 hx2
                            have HCH : Hid (∀ U : World, FrS U (some ⟨gf, of_, none⟩) rl → Calls Tryz.prog 23 #[.slice (some ⟨gf, of_ + i * k * 3, none⟩) k (cr - i * k)] U fun e w' => e = .returned (.bool (rowB (chunkF rl k i))) ∧ Below U.heap.size U w') := fun U hU => by
                              obtain ⟨h1, h2⟩ := hU.chunk hT rfl
                              have h3 := chances_any (some ⟨gf, of_ + i * k * 3, none⟩) (cr - i * k) (chunkF rl k i) U h1 (Nat.le_trans (fw_chunk rl k i) HRS.out.2) (by omega)
                              rwa [h2] at h3
                            have HRX : Hid (∀ i, (∀ j, j < i → rowB (chunkF rl k j) = true) → rowB (chunkF rl k i) = true → ∀ j, j < i + 1 → rowB (chunkF rl k j) = true) := fun i h h' j hj => by
                              rcases Nat.lt_or_ge j i with h2 | h2
                              · exact h j h2
                              · obtain rfl : j = i := by omega
                                exact h'
                            have hr5 := HRS.out.1
                            have e2 : (i + 1) * k = i * k + k := by rw [Nat.add_mul, Nat.one_mul]
                            have hm1 : IntKind.i64.wrap ((i : Int) * (k : Int)) = ((i * k : Nat) : Int) := by
                              rw [IntKind.wrap_i64, ← Int.natCast_mul]
                              omega
                            have hm2 : IntKind.i64.wrap (((i : Int) + 1) * (k : Int)) = (((i + 1) * k : Nat) : Int) := by
                              have : ((i : Int) + 1) = ((i + 1 : Nat) : Int) := by omega
                              rw [IntKind.wrap_i64, this, ← Int.natCast_mul]
                              omega
                            generalize hlo : i * k = lo at *
                            generalize hhi : (i + 1) * k = hi_ at *
                            have hi1 : IntKind.i64.wrap ((i : Int) + 1) = (i : Int) + 1 := by rw [IntKind.wrap_i64]; omega
                            have hc1 : (hi_ : Int) ≤ (cr : Int) := by omega
                            have hc2 : lo ≤ hi_ := by omega
                            have hc3 : ¬ cr = lo := by omega
                            have hc4 : hi_ - lo = k := by omega
                            clear hlo hhi e2 hT hk1
                            go_upto_region 33 with fail
                            refine wp_region_held_drew (S := fun u => u.cell? ⟨w.heap.size, 2, none⟩ = some (.slice (some ⟨gr, or_, none⟩) R.length cc) ∧ u.cell? ⟨gr, or_ + v, none⟩ = some (.slice (some ⟨gf, of_, none⟩) rl.length cr) ∧ u.cell? ⟨gs, os_ + v, none⟩ = some (.int .i64 (k : Nat))) (by kernel_rfl) ⟨c2, r1, t1⟩ (fun hSd => ?_)
                            have HKd : Hid (NK w wr.drew (.slice a V.length ca) (.slice (some ⟨gp, op_, none⟩) L.length cb) (.slice (some ⟨gr, or_, none⟩) R.length cc)) := ⟨HKz.out.1, HKz.out.2.drew⟩
                            have HId : Hid (IntS wr.drew (some ⟨gs, os_, none⟩) (iL (sizesN V))) := HIz.out
                            have HFd : Hid (FrS wr.drew (some ⟨gf, of_, none⟩) rl) := HFz.out
                            have hSg : gs < wr.drew.heap.size := hgs2
                            clear c0 c1 c2 r1 t1 HKz HIz HFz
                            generalize wr.drew = u0 at *
                            (try simp only [List.getElem_toArray, List.getElem_cons_zero, List.getElem_cons_succ])
                            (try simp only [Act.put, List.setIfInBounds_toArray, List.set_cons_zero, List.set_cons_succ])
                            refine wpAnyH_take (i := 0) (oi := _) (v := .pointer (some ⟨w.heap.size, 2, none⟩)) rfl (by kernel_rfl) (by kernel_rfl) (by kernel_rfl) (fun _ _ _ h => h) (Or.inl ⟨by rfl, ?_⟩) (by assumption) ?_
                            · intro u' hSu
                              (try simp only [List.getElem_toArray, List.getElem_cons_zero])
                              go_simp
                            (try simp only [List.getElem_toArray, List.getElem_cons_zero])
                            (try simp only [Act.put, List.setIfInBounds_toArray, List.set_cons_zero, List.set_cons_succ])
                            refine wpAnyH_take (i := 1) (oi := _) (v := .slice (some ⟨gr, or_, none⟩) R.length cc) rfl (by kernel_rfl) (by kernel_rfl) (by kernel_rfl) (fun _ _ _ h => h) (Or.inl ⟨by rfl, ?_⟩) (by assumption) ?_
                            · intro u' hSu
                              (try simp only [List.getElem_toArray, List.getElem_cons_zero, List.getElem_cons_succ])
                              obtain ⟨s0, s1, s2⟩ := hSu
                              go_simp
                            (try simp only [List.getElem_toArray, List.getElem_cons_zero, List.getElem_cons_succ])
                            (try simp only [Act.put, List.setIfInBounds_toArray, List.set_cons_zero, List.set_cons_succ])
                            refine wpAnyH_take (i := 2) (oi := _) (v := .int .i64 (v : Nat)) rfl (by kernel_rfl) (by kernel_rfl) (by kernel_rfl) (fun _ _ _ h => h) (Or.inl ⟨by rfl, ?_⟩) (by assumption) ?_
                            · intro u' hSu
                              (try simp only [List.getElem_toArray, List.getElem_cons_zero, List.getElem_cons_succ])
                              go_simp
                            (try simp only [List.getElem_toArray, List.getElem_cons_zero, List.getElem_cons_succ])
                            (try simp only [Act.put, List.setIfInBounds_toArray, List.set_cons_zero, List.set_cons_succ])
                            refine wpAnyH_take (i := 3) (oi := _) (v := .pointer (some ⟨gr, or_ + v, none⟩)) rfl (by kernel_rfl) (by kernel_rfl) (by kernel_rfl) (fun _ _ _ h => h) (Or.inl ⟨by rfl, ?_⟩) (by assumption) ?_
                            · intro u' hSu
                              (try simp only [List.getElem_toArray, List.getElem_cons_zero, List.getElem_cons_succ])
                              go_simp
                            (try simp only [List.getElem_toArray, List.getElem_cons_zero, List.getElem_cons_succ])
                            (try simp only [Act.put, List.setIfInBounds_toArray, List.set_cons_zero, List.set_cons_succ])
                            refine wpAnyH_take (i := 4) (oi := _) (v := .slice (some ⟨gf, of_, none⟩) rl.length cr) rfl (by kernel_rfl) (by kernel_rfl) (by kernel_rfl) (fun _ _ _ h => h) (Or.inl ⟨by rfl, ?_⟩) (by assumption) ?_
                            · intro u' hSu
                              (try simp only [List.getElem_toArray, List.getElem_cons_zero, List.getElem_cons_succ])
                              obtain ⟨s0, s1, s2⟩ := hSu
                              go_simp
                            (try simp only [List.getElem_toArray, List.getElem_cons_zero, List.getElem_cons_succ])
                            (try simp only [Act.put, List.setIfInBounds_toArray, List.set_cons_zero, List.set_cons_succ])
                            refine wpAnyH_take (i := 5) (oi := _) (v := .int .i64 (i : Nat)) rfl (by kernel_rfl) (by kernel_rfl) (by kernel_rfl) (fun _ _ _ h => h) (Or.inl ⟨by rfl, ?_⟩) (by assumption) ?_
                            · intro u' hSu
                              (try simp only [List.getElem_toArray, List.getElem_cons_zero, List.getElem_cons_succ])
                              go_simp
                            (try simp only [List.getElem_toArray, List.getElem_cons_zero, List.getElem_cons_succ])
                            (try simp only [Act.put, List.setIfInBounds_toArray, List.set_cons_zero, List.set_cons_succ])
                            refine wpAnyH_take (i := 6) (oi := _) (v := .slice (some ⟨gs, os_, none⟩) V.length cd6) rfl (by kernel_rfl) (by kernel_rfl) (by kernel_rfl) (fun _ _ _ h => h) (Or.inl ⟨by rfl, ?_⟩) (by assumption) ?_
                            · intro u' hSu
                              (try simp only [List.getElem_toArray, List.getElem_cons_zero, List.getElem_cons_succ])
                              go_simp
                            (try simp only [List.getElem_toArray, List.getElem_cons_zero, List.getElem_cons_succ])
                            (try simp only [Act.put, List.setIfInBounds_toArray, List.set_cons_zero, List.set_cons_succ])
                            refine wpAnyH_take (i := 7) (oi := _) (v := .int .i64 (v : Nat)) rfl (by kernel_rfl) (by kernel_rfl) (by kernel_rfl) (fun _ _ _ h => h) (Or.inl ⟨by rfl, ?_⟩) (by assumption) ?_
                            · intro u' hSu
                              (try simp only [List.getElem_toArray, List.getElem_cons_zero, List.getElem_cons_succ])
                              go_simp
                            (try simp only [List.getElem_toArray, List.getElem_cons_zero, List.getElem_cons_succ])
                            (try simp only [Act.put, List.setIfInBounds_toArray, List.set_cons_zero, List.set_cons_succ])
                            refine wpAnyH_take (i := 8) (oi := _) (v := .pointer (some ⟨gs, os_ + v, none⟩)) rfl (by kernel_rfl) (by kernel_rfl) (by kernel_rfl) (fun _ _ _ h => h) (Or.inl ⟨by rfl, ?_⟩) (by assumption) ?_
                            · intro u' hSu
                              (try simp only [List.getElem_toArray, List.getElem_cons_zero, List.getElem_cons_succ])
                              go_simp
                            (try simp only [List.getElem_toArray, List.getElem_cons_zero, List.getElem_cons_succ])
                            (try simp only [Act.put, List.setIfInBounds_toArray, List.set_cons_zero, List.set_cons_succ])
                            refine wpAnyH_take (i := 9) (oi := _) (v := .int .i64 (k : Nat)) rfl (by kernel_rfl) (by kernel_rfl) (by kernel_rfl) (fun _ _ _ h => h) (Or.inl ⟨by rfl, ?_⟩) (by assumption) ?_
                            · intro u' hSu
                              (try simp only [List.getElem_toArray, List.getElem_cons_zero, List.getElem_cons_succ])
                              obtain ⟨s0, s1, s2⟩ := hSu
                              go_simp
                            (try simp only [List.getElem_toArray, List.getElem_cons_zero, List.getElem_cons_succ])
                            (try simp only [Act.put, List.setIfInBounds_toArray, List.set_cons_zero, List.set_cons_succ])
                            refine wpAnyH_take (i := 10) (oi := _) (v := .int .i64 (lo : Nat)) rfl (by kernel_rfl) (by kernel_rfl) (by kernel_rfl) (fun _ _ _ h => h) (Or.inl ⟨by rfl, ?_⟩) (by assumption) ?_
                            · intro u' hSu
                              (try simp only [List.getElem_toArray, List.getElem_cons_zero, List.getElem_cons_succ])
                              go_simp
                            (try simp only [List.getElem_toArray, List.getElem_cons_zero, List.getElem_cons_succ])
                            (try simp only [Act.put, List.setIfInBounds_toArray, List.set_cons_zero, List.set_cons_succ])
                            refine wpAnyH_take (i := 11) (oi := _) (v := .int .i64 (i : Nat)) rfl (by kernel_rfl) (by kernel_rfl) (by kernel_rfl) (fun _ _ _ h => h) (Or.inl ⟨by rfl, ?_⟩) (by assumption) ?_
                            · intro u' hSu
                              (try simp only [List.getElem_toArray, List.getElem_cons_zero, List.getElem_cons_succ])
                              go_simp
                            (try simp only [List.getElem_toArray, List.getElem_cons_zero, List.getElem_cons_succ])
                            (try simp only [Act.put, List.setIfInBounds_toArray, List.set_cons_zero, List.set_cons_succ])
                            refine wpAnyH_take (i := 12) (oi := _) (v := .int .i64 ((i : Int) + 1)) rfl (by kernel_rfl) (by kernel_rfl) (by kernel_rfl) (fun _ _ _ h => h) (Or.inl ⟨by rfl, ?_⟩) (by assumption) ?_
                            · intro u' hSu
                              (try simp only [List.getElem_toArray, List.getElem_cons_zero, List.getElem_cons_succ])
                              go_simp
                            (try simp only [List.getElem_toArray, List.getElem_cons_zero, List.getElem_cons_succ])
                            (try simp only [Act.put, List.setIfInBounds_toArray, List.set_cons_zero, List.set_cons_succ])
                            refine wpAnyH_take (i := 13) (oi := _) (v := .slice (some ⟨gs, os_, none⟩) V.length cd6) rfl (by kernel_rfl) (by kernel_rfl) (by kernel_rfl) (fun _ _ _ h => h) (Or.inl ⟨by rfl, ?_⟩) (by assumption) ?_
                            · intro u' hSu
                              (try simp only [List.getElem_toArray, List.getElem_cons_zero, List.getElem_cons_succ])
                              go_simp
                            (try simp only [List.getElem_toArray, List.getElem_cons_zero, List.getElem_cons_succ])
                            (try simp only [Act.put, List.setIfInBounds_toArray, List.set_cons_zero, List.set_cons_succ])
                            refine wpAnyH_take (i := 14) (oi := _) (v := .int .i64 (v : Nat)) rfl (by kernel_rfl) (by kernel_rfl) (by kernel_rfl) (fun _ _ _ h => h) (Or.inl ⟨by rfl, ?_⟩) (by assumption) ?_
                            · intro u' hSu
                              (try simp only [List.getElem_toArray, List.getElem_cons_zero, List.getElem_cons_succ])
                              go_simp
                            (try simp only [List.getElem_toArray, List.getElem_cons_zero, List.getElem_cons_succ])
                            (try simp only [Act.put, List.setIfInBounds_toArray, List.set_cons_zero, List.set_cons_succ])
                            refine wpAnyH_take (i := 15) (oi := _) (v := .pointer (some ⟨gs, os_ + v, none⟩)) rfl (by kernel_rfl) (by kernel_rfl) (by kernel_rfl) (fun _ _ _ h => h) (Or.inl ⟨by rfl, ?_⟩) (by assumption) ?_
                            · intro u' hSu
                              (try simp only [List.getElem_toArray, List.getElem_cons_zero, List.getElem_cons_succ])
                              go_simp
                            (try simp only [List.getElem_toArray, List.getElem_cons_zero, List.getElem_cons_succ])
                            (try simp only [Act.put, List.setIfInBounds_toArray, List.set_cons_zero, List.set_cons_succ])
                            refine wpAnyH_take (i := 16) (oi := _) (v := .int .i64 (k : Nat)) rfl (by kernel_rfl) (by kernel_rfl) (by kernel_rfl) (fun _ _ _ h => h) (Or.inl ⟨by rfl, ?_⟩) (by assumption) ?_
                            · intro u' hSu
                              (try simp only [List.getElem_toArray, List.getElem_cons_zero, List.getElem_cons_succ])
                              obtain ⟨s0, s1, s2⟩ := hSu
                              go_simp
                            (try simp only [List.getElem_toArray, List.getElem_cons_zero, List.getElem_cons_succ])
                            (try simp only [Act.put, List.setIfInBounds_toArray, List.set_cons_zero, List.set_cons_succ])
                            refine wpAnyH_take (i := 17) (oi := _) (v := .int .i64 (hi_ : Nat)) rfl (by kernel_rfl) (by kernel_rfl) (by kernel_rfl) (fun _ _ _ h => h) (Or.inl ⟨by rfl, ?_⟩) (by assumption) ?_
                            · intro u' hSu
                              (try simp only [List.getElem_toArray, List.getElem_cons_zero, List.getElem_cons_succ])
                              go_simp
                            (try simp only [List.getElem_toArray, List.getElem_cons_zero, List.getElem_cons_succ])
                            (try simp only [Act.put, List.setIfInBounds_toArray, List.set_cons_zero, List.set_cons_succ])
                            refine wpAnyH_take (i := 18) (oi := _) (v := .slice (some ⟨gf, of_ + lo * 3, none⟩) k (cr - lo)) rfl (by kernel_rfl) (by kernel_rfl) (by kernel_rfl) (fun _ _ _ h => h) (Or.inl ⟨by rfl, ?_⟩) (by assumption) ?_
                            · intro u' hSu
                              (try simp only [List.getElem_toArray, List.getElem_cons_zero, List.getElem_cons_succ])
                              go_simp
                            (try simp only [List.getElem_toArray, List.getElem_cons_zero, List.getElem_cons_succ])
                            (try simp only [Act.put, List.setIfInBounds_toArray, List.set_cons_zero, List.set_cons_succ])
                            refine wpAnyH_ready (rs := [19]) (by kernel_rfl) (by simp) (AllReadyH.cons rfl ?_ (AllReadyH.nil))
                            · intro K' hK'
                              (try simp only [List.getElem_toArray, List.getElem_cons_zero, List.getElem_cons_succ])
                              go_simp
                              refine (HCH.out _ HFd.out).mono ?_
                              rintro e u1 ⟨rfl, hb⟩
                              have hKn := HKd.out.step hb
                              refine hK'.out _ _ ⟨hKn.1.cells.2.2, (hb.cell (p := ⟨gr, or_ + v, none⟩) (by have := HKd.out.2.size; show gr < _; omega)).trans hSd.2.1, (hb.cell (p := ⟨gs, os_ + v, none⟩) hSg).trans hSd.2.2⟩ (fun hSe => ?_)
                              clear hK' K' hSd
                              have hSd := hSe
                              clear hSe
                              have HKn := hid hKn
                              have HIn := hid (HId.out.below hb)
                              clear hKn hb HKd HId HFd
                              (try simp only [List.getElem_toArray, List.getElem_cons_zero, List.getElem_cons_succ])
                              (try simp only [Act.put, List.setIfInBounds_toArray, List.set_cons_zero, List.set_cons_succ])
                              refine wpAnyH_take (i := 20) (oi := _) (v := .bool (rowB (chunkF rl k i))) rfl (by kernel_rfl) (by kernel_rfl) (by kernel_rfl) (fun _ _ _ h => h) (Or.inl ⟨by rfl, ?_⟩) (by assumption) ?_
                              · intro u' hSu
                                (try simp only [List.getElem_toArray, List.getElem_cons_zero, List.getElem_cons_succ])
                                go_simp
                              (try simp only [List.getElem_toArray, List.getElem_cons_zero, List.getElem_cons_succ])
                              (try simp only [Act.put, List.setIfInBounds_toArray, List.set_cons_zero, List.set_cons_succ])
                              refine wpAnyH_done (by kernel_rfl) ?_ _
                              cases hrb : rowB (chunkF rl k i) with
                              | false =>
                                have HQ := hid (HR9.out i hlt4 hrb)
                                clear hrb
                                go_wp2
                                go_ret
                                exact ⟨by rw [HQ.out]; rfl, HKn.out.2⟩
                              | true =>
                                have HX := hid (HRX.out i HRB.out hrb)
                                clear hrb
                                clear hi1 hc1 hc2 hc3 hc4 hm1 hm2
                                go_wp2
                                go_roundw
                                case rel => exact ⟨i + 1, by omega, by go_num, HX, HKn, HIn⟩
                                case measure => simp [intOf]; omega
                          · obtain rfl : i = N := by omega
                            have HX := hid (HR0.out HRB.out)
                            go_wp2
                            go_roundw
                            case rel => exact ⟨v + 1, by omega, by go_num, HX, HKz, HIz⟩
                            case measure => simp [intOf]; omega
                      · have HQ := hid (HR8.out hlen)
                        have hlb : ((rl.length : Int) != (T : Int)) = true := by
                          have : ¬ (rl.length : Int) = (T : Int) := by omega
                          simpa using this
                        clear hlen HR9' HR0' HR8
                        go_wp2
                        go_ret
                        exact ⟨by rw [HQ.out]; rfl, HKt.out.2⟩
                    · obtain rfl : v = V.length := by omega
                      have HQ := hid (HE0.out HZR.out)
                      go_wp2
                      go_ret
                      exact ⟨by rw [HQ.out]; rfl, HKr.out.2⟩
            · have HQ : Hid (ne = nme) := by
                have h1 := HVE1.out hn0
                show _ = _
                rw [HNV'.out (by rw [h1]; exact hn0), h1]
              have hqb : (nme == 0) = false := by simpa using hn0
              clear hn0 HVE1 HVE2
              go_wp2
              go_ret
              exact ⟨by rw [HQ.out]; rfl, HK.out.2⟩
      · have HQ := hid (HNG.out HLV.out HRV.out hg)
        have hqb : (gcE L == 0) = false := by simpa using hg
        clear hg HNG HNV HNR HFS
        generalize gcE L = q at *
        go_wp2
        go_ret
        exact ⟨by rw [HQ.out]; rfl, HK2.out.2⟩
    · have HQ := hid (HN8.out fun h => hRV h.2)
      have hlv : ((L.length : Int) != (V.length : Int)) = false := by rw [hLV]; simp
      have hrv : ((R.length : Int) != (V.length : Int)) = true := by
        have : ¬ (R.length : Int) = (V.length : Int) := by omega
        simpa using this
      clear hLV hRV HN8
      go_enter Tryz.func10, Tryz.ntmps10
      go_wp2
      go_ret
      exact ⟨by rw [HQ.out]; rfl, HK0.out.2⟩
  · have HQ := hid (HN8.out fun h => hLV h.1)
    have hlv : ((L.length : Int) != (V.length : Int)) = true := by
      have : ¬ (L.length : Int) = (V.length : Int) := by omega
      simpa using this
    clear hLV HN8
    go_enter Tryz.func10, Tryz.ntmps10
    go_wp2
    go_ret
    exact ⟨by rw [HQ.out]; rfl, HK0.out.2⟩
end Go.Proofs.YtmdjhefcohcjhaaGreatDoor

