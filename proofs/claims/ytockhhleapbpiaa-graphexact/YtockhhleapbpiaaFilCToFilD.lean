/- The document's answer: lacks. -/
import Derived.Test.YtockhhleapbpiaaFilTToFilB
namespace Go.Proofs.Ytockhhleapbpiaa
open Go.RowKit Go.Shelf

theorem prsB_succ (f : Nat → Nat → Bool) (m : Nat) : prsB f (m + 1) = prsB f m + cntB (f m) m := rfl
theorem cntB_yes {f : Nat → Bool} {m : Nat} (h : f m = true) : cntB f (m + 1) = cntB f m + 1 := by rw [cntB, if_pos h]
theorem cntB_no {f : Nat → Bool} {m : Nat} (h : f m = false) : cntB f (m + 1) = cntB f m := by rw [cntB, if_neg (by rw [h]; decide), Nat.add_zero]
theorem cntB_le (f : Nat → Bool) : ∀ m, cntB f m ≤ m
  | 0 => Nat.le_refl _
  | m + 1 => by
    have := cntB_le f m
    cases h : f m
    · rw [cntB_no h]; omega
    · rw [cntB_yes h]; omega
theorem prsB_le (f : Nat → Nat → Bool) : ∀ m, prsB f m ≤ m * m
  | 0 => Nat.le_refl _
  | m + 1 => by
    have h1 := prsB_le f m
    have h2 := cntB_le (f m) m
    rw [prsB_succ, Nat.add_mul, Nat.mul_add]
    omega

set_option maxRecDepth 100000 in
set_option maxHeartbeats 4000000 in
theorem lacks_any (B G n v : Nat) (R : Nat → Nat) (e : Nat → Nat → Bool) (d : Option Addr) (cd : Nat) (o : List Nat) (w : World) (hM : Mat w B G n n R e) (hv : v < n) (hn : n ≤ 8) (ho : IntS w d (iL o)) (hol : o.length ≤ 8) :
    Calls Try.prog 52 #[.slice (some ⟨G, 0, none⟩) n n, .int .i64 (v : Nat), .slice d o.length cd] w fun r w' => r = .returned (.int .i64 (prsB (lkF e o v) n : Nat)) ∧ w' = w := by
  have HIN : Hid (∀ x : Nat, Calls Try.prog 26 #[.int .i64 (x : Nat), .slice d o.length cd] w fun r w' => r = .returned (.bool (decide (x ∈ o))) ∧ w' = w) := fun x => by
    have := rIn_any (x : Int) d cd (iL o) w ho (by rw [iL_length]; omega)
    rw [iL_length, inB_iL o (by omega : (0 : Int) ≤ (x : Int)), Int.toNat_natCast] at this
    exact this
  have HSV := hid (hM.slice hv hv)
  have HSA : Hid (∀ a, a < n → w.cell? ⟨G, a, none⟩ = some (.slice (some ⟨R a, 0, none⟩) n n)) := fun a ha => hM.slice ha ha
  have HC : Hid (∀ a b, a < n → b < n → w.cell? ⟨R a, b, none⟩ = some (.bool (e a b))) := fun a b ha hb => hM.cell ha ha hb
  have HLK : Hid (∀ a b, lkF e o v a b = (!decide (a ∈ o) && (!decide (b ∈ o) && (e v a && (e v b && !e a b))))) := fun a b => rfl
  have HP0 : Hid (prsB (lkF e o v) 0 = 0) := rfl
  have HPS : Hid (∀ a, prsB (lkF e o v) (a + 1) = prsB (lkF e o v) a + cntB (lkF e o v a) a) := fun a => rfl
  have HC0 : Hid (∀ a, cntB (lkF e o v a) 0 = 0) := fun a => rfl
  have HCY : Hid (∀ a b, lkF e o v a b = true → cntB (lkF e o v a) (b + 1) = cntB (lkF e o v a) b + 1) := fun a b h => cntB_yes h
  have HCN : Hid (∀ a b, lkF e o v a b = false → cntB (lkF e o v a) (b + 1) = cntB (lkF e o v a) b) := fun a b h => cntB_no h
  have HPL : Hid (∀ a, a ≤ 8 → prsB (lkF e o v) a ≤ 64) := fun a ha => by
    have h1 := prsB_le (lkF e o v) a
    have h2 := Nat.mul_le_mul ha ha
    exact Nat.le_trans h1 h2
  have HCL : Hid (∀ a b, cntB (lkF e o v a) b ≤ b) := fun a b => cntB_le _ _
  clear ho hM
  generalize lkF e o v = L at *
  generalize prsB L = PL at *
  go_enter Try.func52, Try.ntmps52
  go_wp2_with fail
  go_loopw [7, 8] (fun nv av wr => ∃ a : Nat, a ≤ n ∧ av = .int .i64 a ∧ nv = .int .i64 (PL a : Nat) ∧ wr = w) (fun _ av _ => n - (intOf av).toNat)
  case atStart => exact ⟨0, Nat.zero_le _, rfl, by rw [HP0.out]; rfl, rfl⟩
  case round =>
    obtain ⟨a, ha, rfl, rfl, rfl⟩ := hrel
    by_cases han : a < n
    · have HCa0 := hid (HC0.out a)
      have HPa := hid (HPS.out a)
      have hpl := HPL.out a (by omega)
      have HCYa := hid (HCY.out a)
      have HCNa := hid (HCN.out a)
      have HCLa := hid (HCL.out a)
      have HLKa := hid (HLK.out a)
      generalize L a = La at *
      clear HPS HPL HC0 HCY HCN HCL HLK
      generalize hpa : PL a = pa at *
      clear hpa
      generalize cntB La = CL at *
      go_wp2_with fail
      go_loopw [7, 9] (fun nv bv wr' => ∃ b : Nat, b ≤ a ∧ bv = .int .i64 b ∧ nv = .int .i64 ((pa + CL b : Nat)) ∧ wr' = wr) (fun _ bv _ => a - (intOf bv).toNat)
      case atStart => exact ⟨0, Nat.zero_le _, rfl, by rw [HCa0.out]; rfl, rfl⟩
      case round =>
        obtain ⟨b, hb, rfl, rfl, rfl⟩ := hrel
        by_cases hba : b < a
        · have hcl := HCLa.out b
          have HY := hid (HCYa.out b)
          have HN := hid (HCNa.out b)
          have HE := hid (HLKa.out b)
          have hsa := HSA.out a han
          have c1 := HC.out v a hv han
          have c2 := HC.out v b hv (by omega)
          have c3 := HC.out a b han (by omega)
          have hsv := HSV.out
          generalize La b = q at *
          generalize e v a = q1 at *
          generalize e v b = q2 at *
          generalize e a b = q3 at *
          generalize CL b = cb at *
          go_wp2_with fail
          refine (HIN.out a).mono ?_
          rintro r w1 ⟨rfl, rfl⟩
          go_wp2_with fail
          refine (HIN.out b).mono ?_
          rintro r w1 ⟨rfl, rfl⟩
          generalize decide (a ∈ o) = p1 at *
          generalize decide (b ∈ o) = p2 at *
          cases p1 with
          | true =>
            have HS := hid (HN.out HE.out)
            clear HY HN HE
            go_wp2
            go_roundw
            case rel => exact ⟨b + 1, by omega, by go_num, by rw [HS.out]; first | rfl | go_num, by first | rfl | trivial⟩
            case measure => simp [intOf]; omega
          | false =>
            cases p2 with
            | true =>
              have HS := hid (HN.out HE.out)
              clear HY HN HE
              go_wp2
              go_roundw
              case rel => exact ⟨b + 1, by omega, by go_num, by rw [HS.out]; first | rfl | go_num, by first | rfl | trivial⟩
              case measure => simp [intOf]; omega
            | false =>
              cases q1 with
              | false =>
                have HS := hid (HN.out HE.out)
                clear HY HN HE
                go_wp2
                go_roundw
                case rel => exact ⟨b + 1, by omega, by go_num, by rw [HS.out]; first | rfl | go_num, by first | rfl | trivial⟩
                case measure => simp [intOf]; omega
              | true =>
                cases q2 with
                | false =>
                  have HS := hid (HN.out HE.out)
                  clear HY HN HE
                  go_wp2
                  go_roundw
                  case rel => exact ⟨b + 1, by omega, by go_num, by rw [HS.out]; first | rfl | go_num, by first | rfl | trivial⟩
                  case measure => simp [intOf]; omega
                | true =>
                  cases q3 with
                  | true =>
                    have HS := hid (HN.out HE.out)
                    clear HY HN HE
                    go_wp2
                    go_roundw
                    case rel => exact ⟨b + 1, by omega, by go_num, by rw [HS.out]; first | rfl | go_num, by first | rfl | trivial⟩
                    case measure => simp [intOf]; omega
                  | false =>
                    have HS := hid (HY.out HE.out)
                    clear HY HN HE
                    go_wp2
                    go_roundw
                    case rel => exact ⟨b + 1, by omega, by go_num, by rw [HS.out]; first | rfl | go_num, by first | rfl | trivial⟩
                    case measure => simp [intOf]; omega
        · obtain rfl : b = a := by omega
          go_wp2
          go_roundw
          case rel => exact ⟨b + 1, by omega, by go_num, by rw [HPa.out], by first | rfl | trivial⟩
          case measure => simp [intOf]; omega
    · obtain rfl : a = n := by omega
      go_wp2
      go_ret
      exact ⟨rfl, rfl⟩
end Go.Proofs.Ytockhhleapbpiaa


/- The document's answer Fill: what its memory holds, step by step. -/
namespace Go.Proofs.Ytockhhleapbpiaa
open Go.RowKit Go.Shelf

/-- Edges under way: all pairs of the bag with one of the first i, and of the next one with the first j. -/
def exB (e : Nat → Nat → Bool) (b : List Nat) (i j v u : Nat) : Bool := e v u || (decide (v ≠ u) && ((decide (v ∈ b.take i) && decide (u ∈ b)) || (decide (b[i]? = some v) && decide (u ∈ b.take j))))
theorem exB_start (e : Nat → Nat → Bool) (b : List Nat) (v u : Nat) : exB e b 0 0 v u = e v u := by simp [exB]
theorem exB_next (e : Nat → Nat → Bool) {b : List Nat} {i : Nat} (hi : i < b.length) (v u : Nat) : exB e b i b.length v u = exB e b (i + 1) 0 v u := by
  rw [exB, exB, List.take_succ_eq_append_getElem hi, List.getElem?_eq_getElem hi, List.take_length]
  congr 2
  refine Bool.eq_iff_iff.2 ?_
  simp only [Bool.or_eq_true, Bool.and_eq_true, decide_eq_true_eq, List.mem_append, List.mem_singleton, List.take_zero, List.not_mem_nil, Option.some.injEq]
  constructor
  · rintro (⟨a, c⟩ | ⟨a, c⟩)
    · exact .inl ⟨.inl a, c⟩
    · exact .inl ⟨.inr a.symm, c⟩
  · rintro (⟨a | a, c⟩ | ⟨_, c⟩)
    · exact .inl ⟨a, c⟩
    · exact .inr ⟨a.symm, c⟩
    · exact absurd c (by simp)
theorem exB_end (e : Nat → Nat → Bool) (b : List Nat) (v u : Nat) : exB e b b.length 0 v u = (e v u || (decide (v ≠ u) && (decide (v ∈ b) && decide (u ∈ b)))) := by
  rw [exB, List.take_length]; simp
theorem exB_same (e : Nat → Nat → Bool) {b : List Nat} {i j : Nat} (hi : i < b.length) (hj : j < b.length) (h : b[i] = b[j]) (v u : Nat) : exB e b i (j + 1) v u = exB e b i j v u := by
  rw [exB, exB, List.take_succ_eq_append_getElem hj, List.getElem?_eq_getElem hi]
  congr 1
  refine Bool.eq_iff_iff.2 ?_
  simp only [Bool.or_eq_true, Bool.and_eq_true, decide_eq_true_eq, List.mem_append, List.mem_singleton, Option.some.injEq]
  refine and_congr_right fun hne => or_congr_right (and_congr_right fun hv => ⟨fun hu => hu.resolve_right fun hu => hne (by rw [← hv, hu, h]), .inl⟩)
theorem exB_put (e : Nat → Nat → Bool) {b : List Nat} {i j : Nat} (hi : i < b.length) (hj : j < b.length) (h : b[i] ≠ b[j]) (v u : Nat) : exB e b i (j + 1) v u = if v = b[i] ∧ u = b[j] then true else exB e b i j v u := by
  by_cases hc : v = b[i] ∧ u = b[j]
  · rw [if_pos hc, hc.1, hc.2, exB, decide_eq_true h, decide_eq_true (p := b[i]? = some b[i]) (List.getElem?_eq_getElem hi), decide_eq_true (p := b[j] ∈ b.take (j + 1)) (by rw [List.take_succ_eq_append_getElem hj]; exact List.mem_append_right _ List.mem_cons_self)]
    simp
  · rw [if_neg hc, exB, exB, List.take_succ_eq_append_getElem hj, List.getElem?_eq_getElem hi]
    congr 1
    refine Bool.eq_iff_iff.2 ?_
    simp only [Bool.or_eq_true, Bool.and_eq_true, decide_eq_true_eq, List.mem_append, List.mem_singleton, Option.some.injEq]
    refine and_congr_right fun _ => or_congr_right (and_congr_right fun hv => ⟨fun hu => hu.resolve_right fun hu => hc ⟨hv.symm, hu⟩, .inl⟩)
/-- What lies there behind k nodes. -/
structure FW (w : World) (P : List (List Nat)) (n k : Nat) (R : Nat → Nat) (G : Nat) (ov bv : Value) (Bs : List PI2) (W : World) : Prop where
  mat : Mat W w.heap.size G n n R (emB P n k)
  ord : RwI W w.heap.size ov (iL ((List.range k).map (outV P n)))
  bag : OwI W w.heap.size bv Bs
  bgs : Bs.map (·.2) = (List.range k).map fun i => iL (bagN P n i)
  apt : ApT ov Bs
  low : Below w.heap.size w W
theorem OwI.below {w w' : World} {B : Nat} {y : Value} {P : List PI2} (h : OwI w B y P) (hb : Below w.heap.size w w') : OwI w' B y P := ⟨own_kp h.1 (KpT.below hb), fun p hp => own_kp (h.2 p hp) (KpT.below hb)⟩
theorem FW.below {w : World} {P : List (List Nat)} {n k : Nat} {R : Nat → Nat} {G : Nat} {ov bv : Value} {Bs : List PI2} {W W' : World} (h : FW w P n k R G ov bv Bs W) (hb : Below W.heap.size W W') : FW w P n k R G ov bv Bs W' :=
  ⟨h.mat.below hb, h.ord.under hb, h.bag.below hb, h.bgs, h.apt, h.low.trans (hb.mono h.low.size)⟩
/-- While the bag's edges are put in. -/
structure FM (w U : World) (P : List (List Nat)) (n k : Nat) (R : Nat → Nat) (G : Nat) (ov bv : Value) (Bs : List PI2) (x : Value) (e : Nat → Nat → Bool) (W : World) : Prop where
  mat : Mat W w.heap.size G n n R e
  ord : RwI W w.heap.size ov (iL ((List.range k).map (outV P n)))
  bag : OwI W w.heap.size bv Bs
  bgs : Bs.map (·.2) = (List.range k).map fun i => iL (bagN P n i)
  apt : ApT ov Bs
  new : RwI W U.heap.size x (iL (bagN P n k))
  old : ∀ g, ov.ownBlock = some g → g < U.heap.size
  big : w.heap.size ≤ U.heap.size
  low : Below w.heap.size w W
theorem FM.below {w U : World} {P : List (List Nat)} {n k : Nat} {R : Nat → Nat} {G : Nat} {ov bv : Value} {Bs : List PI2} {x : Value} {e : Nat → Nat → Bool} {W W' : World} (h : FM w U P n k R G ov bv Bs x e W) (hb : Below W.heap.size W W') : FM w U P n k R G ov bv Bs x e W' :=
  ⟨h.mat.below hb, h.ord.under hb, h.bag.below hb, h.bgs, h.apt, h.new.under hb, h.old, h.big, h.low.trans (hb.mono h.low.size)⟩
theorem FM.drewN {w U : World} {P : List (List Nat)} {n k : Nat} {R : Nat → Nat} {G : Nat} {ov bv : Value} {Bs : List PI2} {x : Value} {e : Nat → Nat → Bool} {W : World} (h : FM w U P n k R G ov bv Bs x e W) (m : Nat) : FM w U P n k R G ov bv Bs x e (W.drewN m) := h.below (below_drewN (Below.refl _ W) m)
theorem FM.congr {w U : World} {P : List (List Nat)} {n k : Nat} {R : Nat → Nat} {G : Nat} {ov bv : Value} {Bs : List PI2} {x : Value} {e e' : Nat → Nat → Bool} {W : World} (h : FM w U P n k R G ov bv Bs x e W) (he : ∀ v u, e v u = e' v u) : FM w U P n k R G ov bv Bs x e' W :=
  ⟨h.mat.congr fun v u _ _ => he v u, h.ord, h.bag, h.bgs, h.apt, h.new, h.old, h.big, h.low⟩
theorem FM.set {w U : World} {P : List (List Nat)} {n k : Nat} {R : Nat → Nat} {G : Nat} {ov bv : Value} {Bs : List PI2} {x : Value} {e e' : Nat → Nat → Bool} {W : World} (h : FM w U P n k R G ov bv Bs x e W) {v u : Nat} (hv : v < n) (he : ∀ v' u', e' v' u' = if v' = v ∧ u' = u then true else e v' u') : FM w U P n k R G ov bv Bs x e' (W.setCell ⟨R v, u, none⟩ (.bool true)) := by
  have hr := h.mat.row v hv hv
  have k1 : KpT 3 W (W.setCell ⟨R v, u, none⟩ (.bool true)) := KpT.set hr (by decide) u _
  have k2 : KpT 23 W (W.setCell ⟨R v, u, none⟩ (.bool true)) := KpT.set hr (by decide) u _
  exact ⟨h.mat.set hv hv he, own_kp h.ord k1, ⟨own_kp h.bag.1 k2, fun p hp => own_kp (h.bag.2 p hp) k1⟩, h.bgs, h.apt, own_kp h.new k1, h.old, h.big, h.low.setCell (p := ⟨R v, u, none⟩) (h.mat.low v hv) _⟩
theorem FW.mid {w U : World} {P : List (List Nat)} {n k : Nat} {R : Nat → Nat} {G : Nat} {ov bv : Value} {Bs : List PI2} {x : Value} {W : World} (h : FW w P n k R G ov bv Bs U) (hb : Below U.heap.size U W) (hx : RwI W U.heap.size x (iL (bagN P n k))) : FM w U P n k R G ov bv Bs x (emB P n k) W :=
  ⟨h.mat.below hb, h.ord.under hb, h.bag.below hb, h.bgs, h.apt, hx, fun g hg => (h.ord.lt g hg).2, h.low.size, h.low.trans (hb.mono h.low.size)⟩
/-- The node is put behind the others. -/
theorem FM.push {w U : World} {P : List (List Nat)} {n k : Nat} {R : Nat → Nat} {G : Nat} {ov ov' bv : Value} {Bs : List PI2} {x : Value} {e : Nat → Nat → Bool} {W W' : World} (h : FM w U P n k R G ov bv Bs x e W) (hg : W.grownBy W' ov.ownBlock) (hn : ov'.ownBlock = ov.ownBlock ∨ ∀ g, ov'.ownBlock = some g → W.heap.size ≤ g) (ho : RwI W' w.heap.size ov' (iL ((List.range k).map (outV P n)) ++ [((outV P n k : Nat) : Int)])) :
    Mat W' w.heap.size G n n R e ∧ RwI W' w.heap.size ov' (iL ((List.range (k + 1)).map (outV P n))) ∧ OwI W' w.heap.size bv Bs ∧ RwI W' w.heap.size x (iL (bagN P n k)) ∧ ApT ov' (Bs ++ [(x, iL (bagN P n k))]) ∧ Below w.heap.size w W' := by
  have hne : ∀ g, x.ownBlock = some g → ov.ownBlock ≠ some g := fun g hg e' => by
    have h1 := own_from h.new g hg
    have h2 := h.old g e'
    omega
  refine ⟨h.mat.keep (KpT.grown hg (own_typed h.ord) (by decide)) (KpT.grown hg (own_typed h.ord) (by decide)), by rw [List.range_succ, List.map_append, iL_append]; exact ho, h.bag.grown h.apt h.ord hg, own_low ((h.new).kept hg ?_) h.big, fun p hp g hg' => ?_, h.low.grown hg h.low.size (own_from h.ord)⟩
  · cases e' : x.ownBlock with
    | none => exact .inl rfl
    | some g => exact .inr fun e2 => hne g e' e2.symm
  · rcases List.mem_append.1 hp with hp | hp
    · exact ApT.grown h.bag h.apt hn p hp g hg'
    · rw [List.mem_singleton.1 hp] at hg'
      rcases hn with hn | hn
      · rw [hn]; exact hne g hg'
      · intro e'
        have := hn g e'
        have := (h.new.lt g hg').2
        omega
/-- The bag is put behind the others. -/
theorem FW.next {w : World} {P : List (List Nat)} {n k : Nat} {R : Nat → Nat} {G : Nat} {ov bv bv' : Value} {Bs : List PI2} {x : Value} {W W' : World} (hm : Mat W w.heap.size G n n R (emB P n (k + 1))) (ho : RwI W w.heap.size ov (iL ((List.range (k + 1)).map (outV P n)))) (hb : OwI W w.heap.size bv Bs) (hx : RwI W w.heap.size x (iL (bagN P n k))) (ha : ApT ov (Bs ++ [(x, iL (bagN P n k))])) (hl : Below w.heap.size w W) (hs : Bs.map (·.2) = (List.range k).map fun i => iL (bagN P n i))
    (hr : W'.ownsRow w.heap.size 23 1 bv' (Bs.length + 1) (Bs.map (·.1) ++ [x])) (hg : W.grownBy W' bv.ownBlock) : FW w P n (k + 1) R G ov bv' (Bs ++ [(x, iL (bagN P n k))]) W' := by
  have kt : ∀ t, t ≠ 23 → KpT t W W' := fun t ht => KpT.grown hg (own_typed hb.1) ht
  refine ⟨hm.keep ?_ (kt _ (by decide)), own_kp ho (kt _ (by decide)), ⟨by rw [List.length_append, List.map_append]; exact hr, fun p hp => ?_⟩, by rw [List.map_append, hs, List.range_succ, List.map_append]; rfl, ha, hl.grown hg hl.size (own_from hb.1)⟩
  · exact kt _ (by decide)
  · rcases List.mem_append.1 hp with hp | hp
    · exact own_kp (hb.2 p hp) (kt _ (by decide))
    · rw [List.mem_singleton.1 hp]; exact own_kp hx (kt _ (by decide))
/-- What is found so far, as the answer holds it. -/
def bsI : Option (Nat × Nat) → Int
  | none => -1
  | some (b, _) => (b : Int)
def lsI : Option (Nat × Nat) → Nat
  | none => 0
  | some (_, m) => m
theorem dn_out {P : List (List Nat)} {n k : Nat} (hF : FI P n k) (hk : k < n) (h8 : n ≤ 8) : bsI (dnN (lackN (flS P n k).nei) (flS P n k).lft n n) = ((outV P n k : Nat) : Int) := by
  have hs : ∀ u ∈ (flS P n k).lft, u < n := fun u hu => ((hF.left u).1 hu).1
  have h1 := dn_few (P := (flS P n k).nei) (s := (flS P n k).lft) h8 hs
  have h2 := dnN_spec (f := lackN (flS P n k).nei) (s := (flS P n k).lft) (n := n) n (Nat.le_refl _)
  have hv := hF.here hk h8
  rw [outV, ← h1]
  revert h2
  cases dnN (lackN (flS P n k).nei) (flS P n k).lft n n with
  | none => exact fun h => (h _ hv (by omega) (hs _ hv)).elim
  | some p =>
    obtain ⟨b, m⟩ := p
    exact fun _ => rfl
theorem bagN_lt {P : List (List Nat)} {n k : Nat} (hF : FI P n k) (hk : k < n) (h8 : n ≤ 8) : ∀ x ∈ bagN P n k, x < n := fun x hx => by
  have hv := hF.here hk h8
  rcases (hF.bag hk h8).1 hx with rfl | hx
  · exact ((hF.left _).1 hv).1
  · exact ((hF.left _).1 (hF.sym _ hv x hx).1).1
theorem bagN_len (P : List (List Nat)) (n k : Nat) : (bagN P n k).length ≤ 8 := memU_len _ _
theorem bgL_yes {P : List (List Nat)} {n k u : Nat} (h1 : ¬ u ∈ (List.range k).map (outV P n)) (h2 : u = outV P n k ∨ emB P n k (outV P n k) u = true) : bgL P n k (u + 1) = bgL P n k u ++ [u] := by
  rw [bgL, List.range_succ, List.filter_append, bgL]
  congr 1
  have e1 : decide (u ∈ (List.range k).map (outV P n)) = false := decide_eq_false h1
  have e2 : (decide (u = outV P n k) || emB P n k (outV P n k) u) = true := by
    rcases h2 with h2 | h2
    · rw [decide_eq_true h2]; rfl
    · rw [h2, Bool.or_true]
  rw [List.filter_cons_of_pos (by rw [e1, e2]; rfl)]; rfl
theorem bgL_no {P : List (List Nat)} {n k u : Nat} (h : (!decide (u ∈ (List.range k).map (outV P n)) && (decide (u = outV P n k) || emB P n k (outV P n k) u)) = false) : bgL P n k (u + 1) = bgL P n k u := by
  rw [bgL, List.range_succ, List.filter_append, bgL, List.filter_cons_of_neg (by rw [h]; decide)]
  exact List.append_nil _
theorem bgL_len (P : List (List Nat)) (n k u : Nat) : (bgL P n k u).length ≤ u := by
  have := List.length_filter_le (fun u => !decide (u ∈ (List.range k).map (outV P n)) && (decide (u = outV P n k) || emB P n k (outV P n k) u)) (List.range u)
  rwa [List.length_range] at this
end Go.Proofs.Ytockhhleapbpiaa

