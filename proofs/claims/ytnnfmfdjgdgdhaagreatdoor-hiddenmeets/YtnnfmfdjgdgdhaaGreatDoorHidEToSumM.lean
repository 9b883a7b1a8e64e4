/- forward of package hidden. -/
import Derived.Test.YtnnfmfdjgdgdhaaGreatDoorHidDOwn
import Derived.Test.YtnnfmfdjgdgdhaaGreatDoorMadBToCofI
import Derived.Test.YtnnfmfdjgdgdhaaGreatDoorConFToRtD
import Derived.Test.YtnnfmfdjgdgdhaaGreatDoorSwapNToMadA
import Derived.Test.YtnnfmfdjgdgdhaaGreatDoorHidCToProdB
namespace Go.Proofs.YtnnfmfdjgdgdhaaGreatDoor
open Go.RowKit Go.Shelf

theorem wp_make_full {P : Program} (w : World) {o : Oper} {a : Act} {K : Act → World → Prop} {Q : Exit → Act → World → Prop} (l c : Operand) (t : TypeId) (hop : o.op = Op.makeSlice t l c)
    (base : Nat) (e : TypeId) (i : TypeInfo) (z : Value) (size : Nat) (h1 : P.underlying t = some (.slice e)) (h2 : P.info? e = some i) (h3 : i.zero = some z) (h4 : i.size = size)
    (kl kc : IntKind) (L C : Int) (n : Nat) (hl : a.eval l = .int kl L) (hc : a.eval c = .int kc C) (hL : L = (n : Int)) (hC : C = (n : Int)) (b2 : i.bytes * n ≤ 281474976710656) (b3 : n ≤ maxLen) (b4 : base ≤ w.heap.size)
    (hK : ∀ w', w'.ownsRow base e size (.slice (some ⟨w.heap.size, 0, none⟩) n n) n (madeCells z.cells (n * size)).toList → w.grownBy w' none → K (a.put o.dst (.slice (some ⟨w.heap.size, 0, none⟩) n n)) w') : o.wp P a w K Q := by
  obtain ⟨w', hrun, r1, r2⟩ := run_make_full (P := P) w base t e i z size h1 h2 h3 h4 kl kc n b2 b3 b4
  subst hL
  subst hC
  unfold Oper.wp
  simp [execOp, hop, hl, hc, hrun, Result.andThen]
  exact hK w' r1 r2
/-- The block G holds slices of fractions. -/
def RowV (w : World) (G : Nat) (X : List Value) : Prop := w.heap[G]? = some (.cells X.toArray 24 (0, 0))
theorem RowV.cell {w : World} {g : Nat} {X : List Value} (h : RowV w g X) (j : Nat) (hj : j < X.length) : w.cell? ⟨g, j, none⟩ = some X[j] := by
  rw [cell_of_row w g j _ _ (0, 0) h]
  simp [hj]
theorem RowV.fz {w : World} {g : Nat} {X : List Value} (h : RowV w g X) (j : Nat) : w.frozen? ⟨g, j, none⟩ = false := frozen_of_row w g j _ _ h
theorem RowV.lt {w : World} {g : Nat} {X : List Value} (h : RowV w g X) : g < w.heap.size := (Array.getElem?_eq_some_iff.1 h).1
theorem RowV.below {w w' : World} {g b : Nat} {X : List Value} (h : RowV w g X) (hb : Below b w w') (hg : g < b) : RowV w' g X := (hb.block g hg).trans h
theorem RowV.set {w : World} {g : Nat} {X : List Value} (h : RowV w g X) (j : Nat) (v : Value) : RowV (w.setCell ⟨g, j, none⟩ v) g (X.set j v) := by
  have h1 : (w.setCell ⟨g, j, none⟩ v).heap[g]? = some (.cells (X.toArray.setIfInBounds j v) 24 (0, 0)) := heap_setCell_same w g j _ _ _ h
  rw [RowV, h1]
  simp
theorem made_slices (n : Nat) : (madeCells (Value.slice none 0 0).cells (n * 1)).toList = List.replicate n (.slice none 0 0) := by
  rw [show (Value.slice none 0 0).cells = #[Value.slice none 0 0] from rfl, toList_madeCells_one, Nat.mul_one]
/-- Lists of fractions that come one by one. -/
structure FwS (w : World) (s L G t : Nat) (F : Nat → Nat → Rat) (U : World) : Prop where
  ex : ∃ X : List Value, X.length = L ∧ RowV U G X ∧ ∀ k (hk : k < X.length), k < t → ∃ g, X[k] = .slice (some ⟨g, 0, none⟩) s s ∧ G < g ∧ RowF U g (lF s (F k))
  bel : Below w.heap.size w U
theorem FwS.step {w U U' : World} {s L G t : Nat} {F : Nat → Nat → Rat} (h : FwS w s L G t F U) (hb : Below U.heap.size U U') : FwS w s L G t F U' := by
  obtain ⟨X, h1, h2, h3⟩ := h.ex
  refine ⟨⟨X, h1, h2.below hb h2.lt, fun k hk ht => ?_⟩, h.bel.trans (hb.mono h.bel.size)⟩
  obtain ⟨g, e1, e2, e3⟩ := h3 k hk ht
  exact ⟨g, e1, e2, e3.below hb e3.lt⟩
theorem FwS.drew {w U : World} {s L G t : Nat} {F : Nat → Nat → Rat} (h : FwS w s L G t F U) : FwS w s L G t F U.drew := h.step (Below.refl _ _).drew
theorem FwS.lt {w U : World} {s L G t : Nat} {F : Nat → Nat → Rat} (h : FwS w s L G t F U) : G < U.heap.size := by
  obtain ⟨X, _, h2, _⟩ := h.ex
  exact h2.lt
theorem FwS.rows {w U : World} {s L G : Nat} {F : Nat → Nat → Rat} (h : FwS w s L G L F U) : FsS U (some ⟨G, 0, none⟩) ((List.range L).map fun t => lF s (F t)) := fun k hk => by
  obtain ⟨X, h1, h2, h3⟩ := h.ex
  have hk' : k < L := by simpa using hk
  obtain ⟨g, e1, _, e3⟩ := h3 k (by omega) hk'
  have e : ((List.range L).map fun t => lF s (F t))[k] = lF s (F k) := by simp
  rw [e, lF_length]
  exact ⟨G, 0, _, s, rfl, h2.lt, by rw [Nat.zero_add, h2.cell k (by omega), e1], e3.fr, Nat.le_refl _⟩
/-- What a step begins with. -/
def HC.inn (h : HC) : Nat → Nat → Rat
  | 0, j => h.st j
  | t + 1, j => sumR (fun i => h.alp t i * h.mv i j) h.s
theorem HC.alp_inn (h : HC) : ∀ t i, h.alp t i = h.inn t i * h.sh t i
  | 0, _ => rfl
  | _ + 1, _ => rfl
/-- A hidden chain in memory stands for these numbers. -/
structure HidV (h : HC) (m : Nat) (l : List Fr) (R1 R2 : List (List Fr)) (Q : List Nat) : Prop where
  ok : HidOK h.s m l R1 R2
  L : Q.length = h.L
  q : ∀ x ∈ Q, x < m
  st : Lst h.s h.st l
  mv : ∀ i (hi : i < R1.length), Lst h.s (h.mv i) R1[i]
  sh : ∀ t (ht : t < Q.length) i (hi : i < R2.length), ∃ hx : Q[t] < R2[i].length, frQ R2[i][Q[t]] = h.sh t i ∧ R2[i][Q[t]].2.1.size + R2[i][Q[t]].2.2.size ≤ 1500
  sm : h.Sml
theorem HidV.inn {h : HC} {m : Nat} {l : List Fr} {R1 R2 : List (List Fr)} {Q : List Nat} (v : HidV h m l R1 R2 Q) : ∀ t i, t < h.L → i < h.s → qw (h.inn t i) ≤ 1500
  | 0, i, _, hi => ((v.sm.st i hi)).qw (by omega)
  | t + 1, j, ht, hj => (Sm.sum v.sm.s4 fun i hi => (v.sm.alp t i (by omega) hi).mul (v.sm.mv i hi j hj)).qw (by have := v.sm.L8; omega)
theorem HidV.mvs {h : HC} {m : Nat} {l : List Fr} {R1 R2 : List (List Fr)} {Q : List Nat} (v : HidV h m l R1 R2 Q) (t : Nat) (ht : t < h.L) (i j : Nat) (hi : i < h.s) (hj : j < h.s) : qw (h.alp t i * h.mv i j) ≤ 1500 := ((v.sm.alp t i ht hi).mul (v.sm.mv i hi j hj)).qw (by have := v.sm.L8; omega)
theorem HidV.alps {h : HC} {m : Nat} {l : List Fr} {R1 R2 : List (List Fr)} {Q : List Nat} (v : HidV h m l R1 R2 Q) (t : Nat) (ht : t < h.L) : Lst h.s (h.alp t) (lF h.s (h.alp t)) := Lst.mk' fun i hi => (v.sm.alp t i ht hi).qw (by have := v.sm.L8; omega)

/-- What the walk asks of the numbers. -/
structure FwH (h : HC) (m n : Nat) (Q : List Nat) (l : List Fr) (R1 R2 : List (List Fr)) : Prop where
  L : Q.length = h.L
  q : ∀ x ∈ Q, x < m
  st : Lst n h.st l
  mv : ∀ i (hi : i < R1.length), Lst n (h.mv i) R1[i]
  sh : ∀ t (ht : t < Q.length) i (hi : i < R2.length), ∃ hx : Q[t] < R2[i].length, frQ R2[i][Q[t]] = h.sh t i ∧ R2[i][Q[t]].2.1.size + R2[i][Q[t]].2.2.size ≤ 1500

set_option maxRecDepth 100000 in
set_option maxHeartbeats 4000000 in
theorem hiForward_any (a b c d : Option Addr) (ca cb cc cd n L m : Nat) (l : List Fr) (R1 R2 : List (List Fr)) (Q : List Nat) (h : HC) (w : World) (hI : HidI w a b c n m l R1 R2) (hV : HidV h m l R1 R2 Q) (hsn : h.s = n) (hL : h.L = L) (hQ : IntS w d (iL Q)) :
    Calls Tryz.prog 20 #[.agg #[.slice a n ca, .slice b n cb, .slice c n cc], .slice d L cd] w fun e w' => ∃ G, e = .returned (.slice (some ⟨G, 0, none⟩) L L) ∧ w.heap.size ≤ G ∧ FsS w' (some ⟨G, 0, none⟩) ((List.range L).map fun t => lF n (h.alp t)) ∧ Below w.heap.size w w' := by
  obtain ⟨i0, hi0, hz0, hz1, hz2⟩ := info_parts Tryz.infoFracs
  have hn4 := hV.sm.s4
  have hL8 := hV.sm.L8
  have hn1 := hV.ok.n1
  have hm4 := hV.ok.m4
  have hok := hV.ok
  have HSN := hid hsn
  have HL := hid hL
  have HIN := hid hV.inn
  have HMS := hid hV.mvs
  have HAS := hid hV.alps
  have hv := hV
  obtain ⟨-, hq1, hq2, hst, hmv, hsh, -⟩ := hv
  rw [hsn] at hn4 hn1 hok HIN HMS HAS hst hmv
  rw [hL] at hL8 HIN HMS HAS
  have HOK := hid hok
  have HV : Hid (FwH h m n Q l R1 R2) := ⟨hq1, hq2, hst, hmv, hsh⟩
  have HI := hid hI
  have HQ := hid hQ
  clear hI hV hQ hsn hL hok hq1 hq2 hst hmv hsh
  have hA := (Below.refl w.heap.size w).alloc (Nat.le_refl _) (HC3 (.slice a n ca) (.slice b n cb) (.slice c n cc))
  have hHB := HBox.new w (.slice a n ca) (.slice b n cb) (.slice c n cc)
  have hsz : (w.alloc (HC3 (.slice a n ca) (.slice b n cb) (.slice c n cc))).heap.size = w.heap.size + 1 := by simp
  have HDL : Hid (w.heap.size + 1 ≤ (w.alloc (HC3 (.slice a n ca) (.slice b n cb) (.slice c n cc))).heap.size) := by show _ ≤ _; omega
  clear hsz
  go_enter Tryz.func20, Tryz.ntmps20
  go_upto_region 1 with fail
  generalize (w.alloc (HC3 (.slice a n ca) (.slice b n cb) (.slice c n cc))) = W at *
  have HH : Hid (HBox W.drew w.heap.size (.slice a n ca) (.slice b n cb) (.slice c n cc)) := hHB
  have HB0 := hid hA.drew
  have HDS : Hid (W.heap.size ≤ W.drew.heap.size) := Nat.le_refl W.heap.size
  have HDL2 : Hid (w.heap.size + 1 ≤ W.drew.heap.size) := HDL.out
  clear HDL
  have HDL := HDL2
  clear HDL2 hHB hA
  refine wp_region_held_drew (S := fun u => u.cell? ⟨w.heap.size, 0, none⟩ = some (.slice a n ca)) (by kernel_rfl) HH.out.cells.1 (fun hSd => ?_)
  generalize W.drew = u0 at *
  refine wpAnyH_take (i := 0) (oi := _) (v := .slice d L cd) rfl (by kernel_rfl) (by kernel_rfl) (by kernel_rfl) (fun _ _ _ h => h) (Or.inl ⟨by rfl, ?_⟩) (by assumption) ?_
  · intro u' hSu
    (try simp only [List.getElem_toArray, List.getElem_cons_zero])
    go_simp
  (try simp only [List.getElem_toArray, List.getElem_cons_zero])
  (try simp only [Act.put, List.setIfInBounds_toArray, List.set_cons_zero, List.set_cons_succ])
  refine wpAnyH_take (i := 1) (oi := _) (v := .int .i64 (L : Nat)) rfl (by kernel_rfl) (by kernel_rfl) (by kernel_rfl) (fun _ _ _ h => h) (Or.inl ⟨by rfl, ?_⟩) (by assumption) ?_
  · intro u' hSu
    (try simp only [List.getElem_toArray, List.getElem_cons_zero, List.getElem_cons_succ])
    go_simp
  (try simp only [List.getElem_toArray, List.getElem_cons_zero, List.getElem_cons_succ])
  (try simp only [Act.put, List.setIfInBounds_toArray, List.set_cons_zero, List.set_cons_succ])
  refine wpAnyH_take (i := 3) (oi := _) (v := .pointer (some ⟨w.heap.size, 0, none⟩)) rfl (by kernel_rfl) (by kernel_rfl) (by kernel_rfl) (fun _ _ _ h => h) (Or.inl ⟨by rfl, ?_⟩) (by assumption) ?_
  · intro u' hSu
    (try simp only [List.getElem_toArray, List.getElem_cons_zero, List.getElem_cons_succ])
    go_simp
  (try simp only [List.getElem_toArray, List.getElem_cons_zero, List.getElem_cons_succ])
  (try simp only [Act.put, List.setIfInBounds_toArray, List.set_cons_zero, List.set_cons_succ])
  refine wpAnyH_take (i := 4) (oi := _) (v := .slice a n ca) rfl (by kernel_rfl) (by kernel_rfl) (by kernel_rfl) (fun _ _ _ h => h) (Or.inl ⟨by rfl, ?_⟩) (by assumption) ?_
  · intro u' hSu
    (try simp only [List.getElem_toArray, List.getElem_cons_zero, List.getElem_cons_succ])
    obtain s0 := hSu
    go_simp
  (try simp only [List.getElem_toArray, List.getElem_cons_zero, List.getElem_cons_succ])
  (try simp only [Act.put, List.setIfInBounds_toArray, List.set_cons_zero, List.set_cons_succ])
  refine wpAnyH_ready (rs := [2]) (by kernel_rfl) (by simp) (AllReadyH.cons rfl ?_ (AllReadyH.nil))
  · intro K' hK'
    rw [if_pos (by rfl)]
    refine wp_make_full _ _ _ 25 rfl W.heap.size 24 i0 (.slice none 0 0) 1 Tryz.underlying25 hi0 hz0 hz1 .i64 .i64 _ _ L rfl rfl (by go_num) (by go_num) (by rw [hz2]; omega) (by unfold maxLen; omega) (by exact HDS.out) ?_
    intro w2 hown2 hgrow2
    have hB2 : Below u0.heap.size u0 w2 := (Below.refl _ u0).grown hgrow2 (Nat.le_refl _) (fun k e => by cases e)
    have hb2 := block_of_own hown2
    rw [made_slices] at hb2
    have HK0 : Hid (FwS w n L u0.heap.size 0 h.alp w2) := ⟨⟨_, List.length_replicate, hb2, fun k _ h => absurd h (by omega)⟩, (HB0.out.trans (hB2.mono HB0.out.size))⟩
    replace HH := hid (HH.out.below hB2 HH.out.lt)
    refine hK'.out _ _ HH.out.cells.1 (fun hSe => ?_)
    clear hK' K' hSd hown2 hgrow2 hb2 hB2
    (try simp only [List.getElem_toArray, List.getElem_cons_zero, List.getElem_cons_succ])
    (try simp only [Act.put, List.setIfInBounds_toArray, List.set_cons_zero, List.set_cons_succ])
    refine wpAnyH_take (i := 5) (oi := _) (v := .slice (some ⟨u0.heap.size, 0, none⟩) L L) rfl (by kernel_rfl) (by kernel_rfl) (by kernel_rfl) (fun _ _ _ h => h) (Or.inl ⟨by rfl, ?_⟩) (by assumption) ?_
    · intro u' hSu
      (try simp only [List.getElem_toArray, List.getElem_cons_zero, List.getElem_cons_succ])
      go_simp
    (try simp only [List.getElem_toArray, List.getElem_cons_zero, List.getElem_cons_succ])
    (try simp only [Act.put, List.setIfInBounds_toArray, List.set_cons_zero, List.set_cons_succ])
    refine wpAnyH_take (i := 6) (oi := _) (v := .slice a n ca) rfl (by kernel_rfl) (by kernel_rfl) (by kernel_rfl) (fun _ _ _ h => h) (Or.inl ⟨by rfl, ?_⟩) (by assumption) ?_
    · intro u' hSu
      (try simp only [List.getElem_toArray, List.getElem_cons_zero, List.getElem_cons_succ])
      go_simp
    (try simp only [List.getElem_toArray, List.getElem_cons_zero, List.getElem_cons_succ])
    (try simp only [Act.put, List.setIfInBounds_toArray, List.set_cons_zero, List.set_cons_succ])
    refine wpAnyH_done (by kernel_rfl) ?_ _
    clear hSe
    obtain ⟨G, hGe⟩ : ∃ G, u0.heap.size = G := ⟨_, rfl⟩
    simp only [hGe] at HK0 ⊢
    have hGw : w.heap.size < G := by have h1 := HB0.out.size; have h2 := HDL.out; omega
    clear hGe
    have HR0 : Hid (FrS w2 a l ∧ Lst n (h.inn 0) l) := ⟨HI.out.st.below HK0.out.bel, HV.out.st⟩
    clear HB0 HDS HDL
    go_wp2_with fail
    go_loopw [6, 16] (fun rv iv wr => ∃ t : Nat, t ≤ L ∧ iv = .int .i64 t ∧ (∃ (dr : Option Addr) (cr : Nat) (r : List Fr), rv = .slice dr n cr ∧ Hid (FrS wr dr r ∧ (t < L → Lst n (h.inn t) r))) ∧ Hid (FwS w n L G t h.alp wr) ∧ Hid (HBox wr w.heap.size (.slice a n ca) (.slice b n cb) (.slice c n cc))) (fun _ iv _ => L - (intOf iv).toNat)
    case atStart => exact ⟨0, Nat.zero_le _, rfl, ⟨a, ca, l, rfl, HR0.out.1, fun _ => HR0.out.2⟩, HK0, HH⟩
    case round =>
      obtain ⟨t, ht, rfl, ⟨dr, cr, r, rfl, HRR⟩, HK, HX⟩ := hrel
      clear HK0 HH HR0
      by_cases hlt : t < L
      · have htQ : t < Q.length := by rw [HV.out.L, HL.out]; exact hlt
        have hti : t < (iL Q).length := by rw [iL_length]; exact htQ
        obtain ⟨gq, oq, rfl, hgq, q0⟩ := (HQ.out.below HK.out.bel) t hti
        have eq : (iL Q)[t] = ((Q[t] : Nat) : Int) := by simp [iL]
        rw [eq] at q0
        have hq4 : Q[t] < m := HV.out.q _ (List.getElem_mem htQ)
        have HSH := hid (fun (U : World) (hU : Below w.heap.size w U) (hr : FrS U dr r) => hShown_any a b c dr n n ca cb cc cr n Q[t] R2 r (h.inn t) (h.sh t) U ((HI.out.below hU).sh) hr (HRR.out.2 hlt) HOK.out.sh.len (HV.out.sh t htQ) (fun i hi => by rw [HOK.out.sh.each i hi]; omega) (by omega))
        have HST := hid (fun (U : World) (hU : Below w.heap.size w U) (g : Nat) (hr : FrS U (some ⟨g, 0, none⟩) (lF n (h.alp t))) => chStep_yes (some ⟨g, 0, none⟩) b n cb n (lF n (h.alp t)) R1 (h.alp t) h.mv U hr ((HI.out.below hU).mv) (HAS.out t hlt) HOK.out.mv HV.out.mv (HMS.out t hlt) (by omega) (by omega))
        have HAE : Hid ((lF n fun i => h.inn t i * h.sh t i) = lF n (h.alp t)) := lF_congr fun i _ => (h.alp_inn t i).symm
        have HIE : Hid (t + 1 < L → Lst n (h.inn (t + 1)) (lF n fun j => sumR (fun i => h.alp t i * h.mv i j) n)) := fun h1 => by
          have e : (lF n fun j => sumR (fun i => h.alp t i * h.mv i j) n) = lF n (h.inn (t + 1)) := lF_congr fun j _ => by rw [HC.inn, HSN.out]
          rw [e]
          exact Lst.mk' fun i hi => HIN.out (t + 1) i h1 hi
        rw [HAE.out] at HSH
        generalize Q[t] = qt at *
        clear eq hti htQ HAE
        obtain ⟨e0, e1, e2⟩ := HX.out.cells
        go_wp2_with fail
        refine (HSH.out _ HK.out.bel HRR.out.1).mono ?_
        rintro e w3 ⟨gt, rfl, hgt, hr3, hb3⟩
        have hGgt : G < gt := Nat.lt_of_lt_of_le HK.out.lt hgt
        replace HK := hid (HK.out.step hb3)
        replace HX := hid (HX.out.below hb3 HX.out.lt)
        obtain ⟨X, hx1, hx2, hx3⟩ := HK.out.ex
        have k0 := hx2.cell t (by omega)
        have f0 := hx2.fz t
        have hset := hx2.set t (.slice (some ⟨gt, 0, none⟩) n n)
        have HSB := hid (HK.out.bel.setCell (p := ⟨G, t, none⟩) (show w.heap.size ≤ G by omega) (.slice (some ⟨gt, 0, none⟩) n n))
        have HR3 : Hid (RowF (w3.setCell ⟨G, t, none⟩ (.slice (some ⟨gt, 0, none⟩) n n)) gt (lF n (h.alp t))) := hr3.off G t _ (by omega)
        have HK4 : Hid (FwS w n L G (t + 1) h.alp (w3.setCell ⟨G, t, none⟩ (.slice (some ⟨gt, 0, none⟩) n n))) := by
          refine ⟨⟨_, by rw [List.length_set]; exact hx1, hset, fun k hk hkt => ?_⟩, HSB.out⟩
          have hk' : k < X.length := by rw [List.length_set] at hk; exact hk
          by_cases hkt2 : k = t
          · subst hkt2
            exact ⟨gt, by simp, hGgt, HR3.out⟩
          · obtain ⟨g, g1, g2, g3⟩ := hx3 k hk' (by omega)
            refine ⟨g, by rw [List.getElem_set_ne (by omega)]; exact g1, g2, g3.off G t _ (by omega)⟩
        have HX4 : Hid (HBox (w3.setCell ⟨G, t, none⟩ (.slice (some ⟨gt, 0, none⟩) n n)) w.heap.size (.slice a n ca) (.slice b n cb) (.slice c n cc)) := (Below.heap_setCell w3 ⟨G, t, none⟩ _ w.heap.size (by simp; omega)).trans HX.out
        have HTC : Hid ((w3.setCell ⟨G, t, none⟩ (.slice (some ⟨gt, 0, none⟩) n n)).cell? ⟨G, t, none⟩ = some (.slice (some ⟨gt, 0, none⟩) n n)) := by
          have h9 := hset.cell t (by rw [List.length_set]; omega)
          show _ = _
          rw [h9]
          simp
        generalize X[t]'(by omega) = xt at *
        clear hx3 hset HK HX hr3 hb3 q0 e0 e1 e2 hx1 hx2 HSB HSH HRR
        go_upto_region 6 with fail
        clear k0 f0
        generalize (w3.setCell ⟨G, t, none⟩ (.slice (some ⟨gt, 0, none⟩) n n)) = W4 at *
        have HB4 : Hid (Below W4.heap.size W4 W4.drew) := (Below.refl _ W4).drew
        have HELD : Hid (∀ u, Below W4.heap.size W4 u → u.cell? ⟨w.heap.size, 1, none⟩ = some (.slice b n cb) ∧ u.cell? ⟨G, t, none⟩ = some (.slice (some ⟨gt, 0, none⟩) n n)) := fun u hu => ⟨(HX4.out.below hu HX4.out.lt).cells.2.1, (hu.cell (p := ⟨G, t, none⟩) HK4.out.lt).trans HTC.out⟩
        refine wp_region_held_drew (S := fun u => u.cell? ⟨w.heap.size, 1, none⟩ = some (.slice b n cb) ∧ u.cell? ⟨G, t, none⟩ = some (.slice (some ⟨gt, 0, none⟩) n n)) (by kernel_rfl) (HELD.out _ HB4.out) (fun hSd => ?_)
        generalize W4.drew = u4 at *
        refine wpAnyH_take (i := 0) (oi := _) (v := .slice (some ⟨G, 0, none⟩) L L) rfl (by kernel_rfl) (by kernel_rfl) (by kernel_rfl) (fun _ _ _ h => h) (Or.inl ⟨by rfl, ?_⟩) (by assumption) ?_
        · intro u' hSu
          (try simp only [List.getElem_toArray, List.getElem_cons_zero])
          go_simp
        (try simp only [List.getElem_toArray, List.getElem_cons_zero])
        (try simp only [Act.put, List.setIfInBounds_toArray, List.set_cons_zero, List.set_cons_succ])
        refine wpAnyH_take (i := 1) (oi := _) (v := .int .i64 (t : Nat)) rfl (by kernel_rfl) (by kernel_rfl) (by kernel_rfl) (fun _ _ _ h => h) (Or.inl ⟨by rfl, ?_⟩) (by assumption) ?_
        · intro u' hSu
          (try simp only [List.getElem_toArray, List.getElem_cons_zero, List.getElem_cons_succ])
          go_simp
        (try simp only [List.getElem_toArray, List.getElem_cons_zero, List.getElem_cons_succ])
        (try simp only [Act.put, List.setIfInBounds_toArray, List.set_cons_zero, List.set_cons_succ])
        refine wpAnyH_take (i := 2) (oi := _) (v := .pointer (some ⟨G, t, none⟩)) rfl (by kernel_rfl) (by kernel_rfl) (by kernel_rfl) (fun _ _ _ h => h) (Or.inl ⟨by rfl, ?_⟩) (by assumption) ?_
        · intro u' hSu
          (try simp only [List.getElem_toArray, List.getElem_cons_zero, List.getElem_cons_succ])
          go_simp
        (try simp only [List.getElem_toArray, List.getElem_cons_zero, List.getElem_cons_succ])
        (try simp only [Act.put, List.setIfInBounds_toArray, List.set_cons_zero, List.set_cons_succ])
        refine wpAnyH_take (i := 3) (oi := _) (v := .slice (some ⟨gt, 0, none⟩) n n) rfl (by kernel_rfl) (by kernel_rfl) (by kernel_rfl) (fun _ _ _ h => h) (Or.inl ⟨by rfl, ?_⟩) (by assumption) ?_
        · intro u' hSu
          (try simp only [List.getElem_toArray, List.getElem_cons_zero, List.getElem_cons_succ])
          obtain ⟨s0, s1⟩ := hSu
          go_simp
        (try simp only [List.getElem_toArray, List.getElem_cons_zero, List.getElem_cons_succ])
        (try simp only [Act.put, List.setIfInBounds_toArray, List.set_cons_zero, List.set_cons_succ])
        refine wpAnyH_take (i := 4) (oi := _) (v := .pointer (some ⟨w.heap.size, 1, none⟩)) rfl (by kernel_rfl) (by kernel_rfl) (by kernel_rfl) (fun _ _ _ h => h) (Or.inl ⟨by rfl, ?_⟩) (by assumption) ?_
        · intro u' hSu
          (try simp only [List.getElem_toArray, List.getElem_cons_zero, List.getElem_cons_succ])
          go_simp
        (try simp only [List.getElem_toArray, List.getElem_cons_zero, List.getElem_cons_succ])
        (try simp only [Act.put, List.setIfInBounds_toArray, List.set_cons_zero, List.set_cons_succ])
        refine wpAnyH_take (i := 5) (oi := _) (v := .slice b n cb) rfl (by kernel_rfl) (by kernel_rfl) (by kernel_rfl) (fun _ _ _ h => h) (Or.inl ⟨by rfl, ?_⟩) (by assumption) ?_
        · intro u' hSu
          (try simp only [List.getElem_toArray, List.getElem_cons_zero, List.getElem_cons_succ])
          obtain ⟨s0, s1⟩ := hSu
          go_simp
        (try simp only [List.getElem_toArray, List.getElem_cons_zero, List.getElem_cons_succ])
        (try simp only [Act.put, List.setIfInBounds_toArray, List.set_cons_zero, List.set_cons_succ])
        refine wpAnyH_ready (rs := [6]) (by kernel_rfl) (by simp) (AllReadyH.cons rfl ?_ (AllReadyH.nil))
        · intro K' hK'
          (try simp only [List.getElem_toArray, List.getElem_cons_zero, List.getElem_cons_succ])
          go_simp
          refine (HST.out _ (HK4.out.bel.trans (HB4.out.mono HK4.out.bel.size)) gt ((HR3.out.below HB4.out HR3.out.lt).fr)).mono ?_
          rintro e u5 ⟨g2, rfl, hg2, hr2, hb⟩
          replace HB4 := hid (HB4.out.trans (hb.mono HB4.out.size))
          refine hK'.out _ _ (HELD.out _ HB4.out) (fun hSe => ?_)
          clear hK' K' hSd hb
          (try simp only [List.getElem_toArray, List.getElem_cons_zero, List.getElem_cons_succ])
          (try simp only [Act.put, List.setIfInBounds_toArray, List.set_cons_zero, List.set_cons_succ])
          refine wpAnyH_take (i := 7) (oi := _) (v := .tuple #[.slice (some ⟨g2, 0, none⟩) n n, .int .i64 0]) rfl (by kernel_rfl) (by kernel_rfl) (by kernel_rfl) (fun _ _ _ h => h) (Or.inl ⟨by rfl, ?_⟩) (by assumption) ?_
          · intro u' hSu
            (try simp only [List.getElem_toArray, List.getElem_cons_zero, List.getElem_cons_succ])
            go_simp
          (try simp only [List.getElem_toArray, List.getElem_cons_zero, List.getElem_cons_succ])
          (try simp only [Act.put, List.setIfInBounds_toArray, List.set_cons_zero, List.set_cons_succ])
          refine wpAnyH_take (i := 8) (oi := _) (v := .slice (some ⟨g2, 0, none⟩) n n) rfl (by kernel_rfl) (by kernel_rfl) (by kernel_rfl) (fun _ _ _ h => h) (Or.inl ⟨by rfl, ?_⟩) (by assumption) ?_
          · intro u' hSu
            (try simp only [List.getElem_toArray, List.getElem_cons_zero, List.getElem_cons_succ])
            go_simp
          (try simp only [List.getElem_toArray, List.getElem_cons_zero, List.getElem_cons_succ])
          (try simp only [Act.put, List.setIfInBounds_toArray, List.set_cons_zero, List.set_cons_succ])
          refine wpAnyH_take (i := 9) (oi := _) (v := .int .i64 0) rfl (by kernel_rfl) (by kernel_rfl) (by kernel_rfl) (fun _ _ _ h => h) (Or.inl ⟨by rfl, ?_⟩) (by assumption) ?_
          · intro u' hSu
            (try simp only [List.getElem_toArray, List.getElem_cons_zero, List.getElem_cons_succ])
            go_simp
          (try simp only [List.getElem_toArray, List.getElem_cons_zero, List.getElem_cons_succ])
          (try simp only [Act.put, List.setIfInBounds_toArray, List.set_cons_zero, List.set_cons_succ])
          refine wpAnyH_take (i := 10) (oi := _) (v := .slice (some ⟨g2, 0, none⟩) n n) rfl (by kernel_rfl) (by kernel_rfl) (by kernel_rfl) (fun _ _ _ h => h) (Or.inl ⟨by rfl, ?_⟩) (by assumption) ?_
          · intro u' hSu
            (try simp only [List.getElem_toArray, List.getElem_cons_zero, List.getElem_cons_succ])
            go_simp
          (try simp only [List.getElem_toArray, List.getElem_cons_zero, List.getElem_cons_succ])
          (try simp only [Act.put, List.setIfInBounds_toArray, List.set_cons_zero, List.set_cons_succ])
          refine wpAnyH_done (by kernel_rfl) ?_ _
          clear hSe
          have HN2 : Hid (FrS u5 (some ⟨g2, 0, none⟩) (lF n fun j => sumR (fun i => h.alp t i * h.mv i j) n)) := hr2.fr
          have HK5 := hid (HK4.out.step HB4.out)
          have HX5 := hid (HX4.out.below HB4.out HX4.out.lt)
          clear hr2
          go_wp2
          go_roundw
          case rel => exact ⟨t + 1, by omega, by go_num, ⟨some ⟨g2, 0, none⟩, n, _, rfl, HN2.out, HIE.out⟩, HK5, HX5⟩
          case measure => simp [intOf]; omega
      · obtain rfl : t = L := by omega
        go_wp2
        go_ret
        exact ⟨G, rfl, by omega, HK.out.rows, HK.out.bel⟩
end Go.Proofs.YtnnfmfdjgdgdhaaGreatDoor


/- Nets: the number that a net has for a variable's value: likely of package net, rowAt of the document's answer. -/
namespace Go.Proofs.YtnnfmfdjgdgdhaaGreatDoor
open Go.RowKit Go.Shelf

theorem cnt_le_all {S : List Nat} (h : ∀ v, sz S v ≤ 4) {vs : List Nat} (hl : vs.length ≤ 8) : cnt S vs ≤ 65536 := cnt_small h hl
theorem pos_take_le {S : List Nat} (hp : ∀ v, sz S v ≤ 4) (f : Nat → Nat) (hf : ∀ u, f u < sz S u) {P : List Nat} (hl : P.length ≤ 8) (i : Nat) : pos S f (P.take i) ≤ 65536 := by
  have h1 := pos_lt f hf (P.take i)
  have h2 := cnt_small hp (vs := P.take i) (by rw [List.length_take]; omega)
  omega
/-- Where the number stands. -/
def likT (S : List Nat) (P : List Nat) (f : Nat → Nat) (v : Nat) : Nat := pos S f P * sz S v + f v
theorem likT_lt {S P : List Nat} {f : Nat → Nat} (hf : ∀ u, f u < sz S u) (v : Nat) : likT S P f v < cnt S P * sz S v := by
  have h1 := pos_lt f hf P
  have h2 := hf v
  rw [likT]
  calc pos S f P * sz S v + f v < pos S f P * sz S v + sz S v := by omega
    _ = (pos S f P + 1) * sz S v := by rw [Nat.add_mul, Nat.one_mul]
    _ ≤ cnt S P * sz S v := Nat.mul_le_mul_right _ h1

end Go.Proofs.YtnnfmfdjgdgdhaaGreatDoor


/- Nets: how likely all values are: joint of the document's answer. -/
namespace Go.Proofs.YtnnfmfdjgdgdhaaGreatDoor
open Go.RowKit Go.Shelf

/-- A net that may be. -/
structure NOK (V : List Vr) (L : List (List Int)) (R : List (List Fr)) : Prop where
  len : L.length = V.length
  lenR : R.length = V.length
  n8 : V.length ≤ 8
  fine : Fine (iL (sizesN V))
  up : ∀ v (h : v < L.length), Up L[v] V.length
  rows : ∀ v (h : v < L.length) (h' : v < R.length), R[v].length = cnt (sizesN V) (toN L[v]) * sz (sizesN V) v
theorem firstE_zero {f : Nat → Int} : ∀ {n : Nat}, firstE f n = 0 → ∀ j, j < n → f j = 0
  | 0, _, j, hj => by omega
  | n + 1, hz, j, hj => by
    rw [firstE] at hz
    by_cases e : firstE f n = 0
    · rw [if_pos e] at hz
      rcases Nat.lt_or_ge j n with h2 | h2
      · exact firstE_zero e j h2
      · obtain rfl : j = n := by omega
        exact hz
    · rw [if_neg e] at hz; exact absurd hz e
theorem netE_ok {V : List Vr} {L : List (List Int)} {R : List (List Fr)} (h : netE V L R = 0) : NOK V L R := by
  rw [netE] at h
  by_cases h1 : L.length = V.length ∧ R.length = V.length
  · rw [if_pos h1] at h
    by_cases h2 : gcE L = 0
    · rw [if_pos h2] at h
      by_cases h3 : varsE V = 0
      · rw [if_pos h3] at h
        obtain ⟨hf, h8, hu⟩ := fine_sizes h1.1 h2 h3
        refine ⟨h1.1, h1.2, by omega, hf, fun v hv => by rw [← h1.1]; exact hu v hv, fun v hv hr => ?_⟩
        have h4 := firstE_zero h v (by omega)
        rw [rowE, List.getD_eq_getElem?_getD, List.getElem?_eq_getElem hr, List.getD_eq_getElem?_getD, List.getElem?_eq_getElem hv] at h4
        by_cases h5 : R[v].length = cnt (sizesN V) (toN L[v]) * sz (sizesN V) v
        · exact h5
        · simp only [Option.getD_some] at h4
          rw [if_neg h5] at h4
          exact absurd h4 (by decide)
      · rw [if_neg h3] at h; exact absurd h h3
    · rw [if_neg h2] at h; exact absurd h h2
  · rw [if_neg h1] at h; exact absurd h (by decide)
/-- The number of a variable. -/
def likF (V : List Vr) (L : List (List Int)) (R : List (List Fr)) (f : Nat → Nat) (v : Nat) : Fr := celF (R.getD v []) (likT (sizesN V) (toN (L.getD v [])) f v)
/-- The product of the first. -/
def prodV (V : List Vr) (L : List (List Int)) (R : List (List Fr)) (f : Nat → Nat) : Nat → Rat
  | 0 => 1
  | k + 1 => prodV V L R f k * frQ (likF V L R f k)
theorem likF_eq {V : List Vr} {L : List (List Int)} {R : List (List Fr)} {f : Nat → Nat} {v : Nat} (hL : v < L.length) (hR : v < R.length) : likF V L R f v = celF R[v] (likT (sizesN V) (toN L[v]) f v) := by
  rw [likF, List.getD_eq_getElem?_getD, List.getElem?_eq_getElem hR, List.getD_eq_getElem?_getD, List.getElem?_eq_getElem hL]
  rfl
theorem prodV_zero {V : List Vr} {L : List (List Int)} {R : List (List Fr)} {f : Nat → Nat} {v : Nat} (h : frQ (likF V L R f v) = 0) : ∀ n, v < n → prodV V L R f n = 0
  | 0, hn => by omega
  | n + 1, hn => by
    rw [prodV]
    rcases Nat.lt_or_ge v n with h1 | h1
    · rw [prodV_zero h n h1, Rat.zero_mul]
    · obtain rfl : v = n := by omega
      rw [h, Rat.mul_zero]
theorem likF_size {V : List Vr} {L : List (List Int)} {R : List (List Fr)} {f : Nat → Nat} (hok : NOK V L R) (hf : ∀ u, f u < sz (sizesN V) u) (hw : ∀ l ∈ R, fw l ≤ 4200) {v : Nat} (hv : v < V.length) : (likF V L R f v).2.1.size + (likF V L R f v).2.2.size ≤ 4200 := by
  have hL : v < L.length := by rw [hok.len]; exact hv
  have hR : v < R.length := by rw [hok.lenR]; exact hv
  rw [likF_eq hL hR]
  have h1 := likT_lt (S := sizesN V) (P := toN L[v]) hf v
  rw [← hok.rows v hL hR] at h1
  have h2 := celF_size h1
  have h3 := hw R[v] (List.getElem_mem hR)
  omega
theorem prodV_size {V : List Vr} {L : List (List Int)} {R : List (List Fr)} {f : Nat → Nat} (hok : NOK V L R) (hf : ∀ u, f u < sz (sizesN V) u) (hw : ∀ l ∈ R, fw l ≤ 4200) : ∀ k, k ≤ V.length → qw (prodV V L R f k) ≤ 2 + k * 4201
  | 0, _ => qw_one2
  | k + 1, hk => by
    have h1 := prodV_size hok hf hw k (by omega)
    have h2 := likF_size hok hf hw (v := k) (by omega)
    have h3 := qw_val (likF V L R f k).1 (likF V L R f k).2.1 (likF V L R f k).2.2
    have h4 := qw_mul (prodV V L R f k) (frQ (likF V L R f k))
    rw [prodV, Nat.add_mul, Nat.one_mul]
    have h5 : qw (frQ (likF V L R f k)) ≤ 4201 := by
      show qw (val _ _ _) ≤ 4201
      omega
    omega
theorem C_flds (q : Rat) : C q = .agg #[.bool (sgn q), .string (nu q), .string (de q)] := rfl
end Go.Proofs.YtnnfmfdjgdgdhaaGreatDoor


/- Nets: Joint of the document's answer. -/
namespace Go.Proofs.YtnnfmfdjgdgdhaaGreatDoor
open Go.RowKit Go.Shelf

def allI (n : Nat) : List Int := iL (List.range n)
theorem allI_length (n : Nat) : (allI n).length = n := by simp [allI, iL]
/-- What Joint answers: the error. -/
def jE (V : List Vr) (L : List (List Int)) (R : List (List Fr)) (at_ : List Int) : Int := if netE V L R = 0 then (indexA (iL (sizesN V)) (allI V.length) at_).2 else netE V L R
/-- What Joint answers: the number. -/
def jF (V : List Vr) (L : List (List Int)) (R : List (List Fr)) (at_ : List Int) : Fr := if jE V L R at_ = 0 then qF (prodV V L R (fun u => (toN at_).getD u 0) V.length) else (false, ⟨#[]⟩, ⟨#[]⟩)
theorem index_zero {sizes vars l : List Int} (h : (indexA sizes vars l).2 = 0) : l.length = vars.length ∧ ∀ i, i < vars.length → valB (toN sizes) (toN vars) l i = true := by
  rw [indexA] at h
  by_cases h1 : countB sizes vars = true
  · rw [if_pos h1] at h
    by_cases h2 : l.length = vars.length
    · rw [if_pos h2] at h
      by_cases h3 : (List.range vars.length).all (valB (toN sizes) (toN vars) l) = true
      · exact ⟨h2, fun i hi => List.all_eq_true.1 h3 i (List.mem_range.2 hi)⟩
      · rw [if_neg h3] at h; exact absurd h (by decide)
    · rw [if_neg h2] at h; exact absurd h (by decide)
  · rw [if_neg h1] at h; exact absurd h (by decide)
/-- Values that Index takes are values. -/
theorem at_fit {V : List Vr} {at_ : List Int} (hS : Fine (iL (sizesN V))) (h : (indexA (iL (sizesN V)) (allI V.length) at_).2 = 0) :
    at_.length = V.length ∧ iL (toN at_) = at_ ∧ (∀ u, (toN at_).getD u 0 < sz (sizesN V) u) ∧ ∀ u, u < V.length → (toN at_)[u]? = some ((toN at_).getD u 0) := by
  obtain ⟨h1, h2⟩ := index_zero h
  rw [allI_length] at h1 h2
  have hp := hS.pos
  rw [toN_iL] at hp
  have hv : ∀ i (hi : i < at_.length), 0 ≤ at_[i] ∧ at_[i] < (sz (sizesN V) i : Int) := fun i hi => by
    have := h2 i (by omega)
    rw [valB, decide_eq_true_iff, toN_iL, allI, toN_iL, getD_eq hi, List.getD_eq_getElem?_getD, List.getElem?_range (by omega)] at this
    exact this
  refine ⟨h1, ?_, fun u => ?_, fun u hu => ?_⟩
  · apply List.ext_getElem
    · simp [iL, toN]
    · intro i h3 h4
      have := hv i h4
      simp only [iL, toN, List.getElem_map]
      omega
  · by_cases hu : u < at_.length
    · rw [List.getD_eq_getElem?_getD, List.getElem?_eq_getElem (by rw [toN_length]; exact hu), Option.getD_some, toN_get hu]
      have := hv u hu
      omega
    · rw [List.getD_eq_getElem?_getD, List.getElem?_eq_none (by rw [toN_length]; omega)]
      exact sz_pos hp u
  · rw [List.getD_eq_getElem?_getD, List.getElem?_eq_getElem (by rw [toN_length]; omega)]
    rfl

end Go.Proofs.YtnnfmfdjgdgdhaaGreatDoor


/- Nets: Given of the document's answer. -/
namespace Go.Proofs.YtnnfmfdjgdgdhaaGreatDoor
open Go.RowKit Go.Shelf

/-- A variable and what it hangs on. -/
def gU (L : List (List Int)) (v : Nat) : List Int := togL (L.getD v []) [(v : Int)]
/-- Given's cells. -/
def gL (V : List Vr) (L : List (List Int)) (R : List (List Fr)) (v : Nat) : List Fr := (List.range (cnt (sizesN V) (toN (gU L v)))).map fun K => qF (frQ (likF V L R (asg (sizesN V) (toN (gU L v)) K) v))
theorem up_one {v n : Nat} (h : v < n) : Up [(v : Int)] n := up_iff.2 ⟨fun x hx => by have := List.mem_singleton.1 hx; omega, List.pairwise_singleton _ _⟩
theorem inB_one (i v : Nat) : inB (i : Int) [(v : Int)] = ((i : Int) == (v : Int)) := by
  rw [Bool.eq_iff_iff, inB_mem, beq_iff_eq]
  simp
end Go.Proofs.YtnnfmfdjgdgdhaaGreatDoor


/- Nets: what Given of package net stands on. -/
namespace Go.Proofs.YtnnfmfdjgdgdhaaGreatDoor
open Go.RowKit Go.Shelf

theorem cnt_perm {S : List Nat} {a b : List Nat} (h : a.Perm b) : cnt S a = cnt S b := by
  induction h with
  | nil => rfl
  | cons x _ ih => simp only [cnt, ih]
  | swap x y l => simp only [cnt]; rw [Nat.mul_left_comm]
  | trans _ _ h1 h2 => exact h1.trans h2
theorem noSelf_of {L : List (List Int)} {V : List Vr} {R : List (List Fr)} (h : netE V L R = 0) {v : Nat} (hv : v < L.length) : ¬ v ∈ toN L[v] := by
  rw [netE] at h
  by_cases h1 : L.length = V.length ∧ R.length = V.length
  · rw [if_pos h1] at h
    by_cases h2 : gcE L = 0
    · rw [gcE] at h2
      by_cases h3 : gB L = true
      · rw [gB, Bool.and_eq_true, Bool.and_eq_true, noSelf, List.all_eq_true] at h3
        have := h3.2 v (List.mem_range.2 hv)
        rw [List.getD_eq_getElem?_getD, List.getElem?_eq_getElem hv] at this
        simpa using this
      · rw [if_neg h3] at h2; cases h2
    · rw [if_neg h2] at h; exact absurd h h2
  · rw [if_neg h1] at h; cases h
/-- The variable and what it hangs on, put in order. -/
theorem sort_gU {L : List (List Int)} {v n : Nat} (hvL : v < L.length) (hup : Up L[v] n) (hno : ¬ v ∈ toN L[v]) : (([(v : Int)] ++ L[v]).mergeSort fun x y => decide (x ≤ y)) = gU L v := by
  have eLv : L.getD v [] = L[v] := by rw [List.getD_eq_getElem?_getD, List.getElem?_eq_getElem hvL]; rfl
  obtain ⟨h1, h2⟩ := togL_rise L[v] [(v : Int)]
  rw [gU, eLv]
  have hnv : ¬ (v : Int) ∈ L[v] := fun h => hno (by rw [toN]; exact List.mem_map.2 ⟨_, h, Int.toNat_natCast v⟩)
  have hp : (([(v : Int)] ++ L[v]).mergeSort fun x y => decide (x ≤ y)).Pairwise (fun x y => decide (x ≤ y) = true) := List.pairwise_mergeSort (fun a b c h1 h2 => by simp at h1 h2 ⊢; omega) (fun a b => by simp; omega) _
  have hn0 : ([(v : Int)] ++ L[v]).Nodup := by
    rw [List.singleton_append, List.nodup_cons]
    exact ⟨hnv, (up_iff.1 hup).2.imp fun h => by omega⟩
  have hn : (([(v : Int)] ++ L[v]).mergeSort fun x y => decide (x ≤ y)).Nodup := (List.mergeSort_perm _ _).nodup_iff.2 hn0
  refine rise_extI ?_ h1 fun x => ?_
  · rw [List.pairwise_iff_getElem]
    intro i j hi hj hij
    have q1 := List.pairwise_iff_getElem.1 hp i j hi hj hij
    have q2 := List.pairwise_iff_getElem.1 hn i j hi hj hij
    have q1' := of_decide_eq_true q1
    omega
  · rw [List.mem_mergeSort, h2, List.mem_append]
    exact Or.comm
theorem cnt_gU {L : List (List Int)} {v n : Nat} (S : List Nat) (hvL : v < L.length) (hup : Up L[v] n) (hno : ¬ v ∈ toN L[v]) : cnt S (toN (gU L v)) = cnt S (toN L[v]) * sz S v := by
  rw [← sort_gU hvL hup hno]
  have h : (([(v : Int)] ++ L[v]).mergeSort fun x y => decide (x ≤ y)).Perm ([(v : Int)] ++ L[v]) := List.mergeSort_perm _ _
  have h2 := cnt_perm (S := S) (h.map Int.toNat)
  rw [toN, h2, List.map_append, List.map_cons, List.map_nil, List.singleton_append, cnt, Int.toNat_natCast, Nat.mul_comm]
  rfl
/-- Values are written over others, one by one. -/
def mixF (A f : Nat → Nat) (vs : List Nat) (i : Nat) : Nat → Nat := fun u => if u ∈ vs.take i then f u else A u
theorem mixF_zero (A f : Nat → Nat) (vs : List Nat) : mixF A f vs 0 = A := by funext u; simp [mixF]
theorem mixF_succ (A f : Nat → Nat) {vs : List Nat} (n : Nat) {i : Nat} (h : i < vs.length) : (spr n (mixF A f vs i)).set vs[i] (f vs[i]) = spr n (mixF A f vs (i + 1)) := by
  rw [spr_set]
  refine spr_congr fun u _ => ?_
  rw [withV, mixF, mixF, List.take_succ_eq_append_getElem h]
  by_cases e : u = vs[i]
  · rw [if_pos e, if_pos (List.mem_append.2 (.inr (List.mem_singleton.2 e))), e]
  · rw [if_neg e]
    by_cases e2 : u ∈ vs.take i
    · rw [if_pos e2, if_pos (List.mem_append.2 (.inl e2))]
    · rw [if_neg e2, if_neg (fun hh => by rcases List.mem_append.1 hh with hh | hh; exact e2 hh; exact e (List.mem_singleton.1 hh))]
theorem mixF_all {A f : Nat → Nat} {vs : List Nat} (hA : ∀ u, ¬ u ∈ vs → A u = 0) (hf : ∀ u, ¬ u ∈ vs → f u = 0) : mixF A f vs vs.length = f := by
  funext u
  rw [mixF, List.take_length]
  by_cases e : u ∈ vs
  · rw [if_pos e]
  · rw [if_neg e, hA u e, hf u e]
end Go.Proofs.YtnnfmfdjgdgdhaaGreatDoor


/- Plain: all assignments of a net together are as likely as 1; what is given of a variable is 1 for each assignment of its parents. -/
namespace Go.Proofs.YtnnfmfdjgdgdhaaGreatDoor
open Go.RowKit Go.Shelf

/-- So many numbers together. -/
def sumQ (g : Nat → Rat) : Nat → Rat
  | 0 => 0
  | n + 1 => sumQ g n + g n
theorem sumQ_congr {g h : Nat → Rat} : ∀ {n : Nat}, (∀ x, x < n → g x = h x) → sumQ g n = sumQ h n
  | 0, _ => rfl
  | n + 1, e => by rw [sumQ, sumQ, sumQ_congr fun x hx => e x (by omega), e n (by omega)]
theorem sumQ_zero : ∀ n, sumQ (fun _ => 0) n = 0
  | 0 => rfl
  | n + 1 => by rw [sumQ, sumQ_zero n, Rat.add_zero]
theorem sumQ_add (g h : Nat → Rat) : ∀ n, sumQ (fun x => g x + h x) n = sumQ g n + sumQ h n
  | 0 => by simp [sumQ, Rat.add_zero]
  | n + 1 => by
    rw [sumQ, sumQ, sumQ, sumQ_add g h n]
    rw [Rat.add_assoc, Rat.add_assoc, ← Rat.add_assoc (sumQ h n), Rat.add_comm (sumQ h n) (g n), Rat.add_assoc]
theorem sumQ_mul (c : Rat) (g : Nat → Rat) : ∀ n, sumQ (fun x => c * g x) n = c * sumQ g n
  | 0 => by simp [sumQ, Rat.mul_zero]
  | n + 1 => by rw [sumQ, sumQ, sumQ_mul c g n, Rat.mul_add]
theorem sumQ_swap (g : Nat → Nat → Rat) (m : Nat) : ∀ n, sumQ (fun x => sumQ (fun y => g x y) m) n = sumQ (fun y => sumQ (fun x => g x y) n) m
  | 0 => by simp only [sumQ]; rw [sumQ_zero]
  | n + 1 => by
    rw [sumQ, sumQ_swap g m n, ← sumQ_add]
    rfl
theorem sumQ_split (g : Nat → Rat) (m : Nat) : ∀ n, sumQ g (m + n) = sumQ g m + sumQ (fun y => g (m + y)) n
  | 0 => by simp [sumQ, Rat.add_zero]
  | n + 1 => by rw [← Nat.add_assoc, sumQ, sumQ_split g m n, sumQ, Rat.add_assoc]
theorem sumQ_prod (g : Nat → Rat) (b : Nat) : ∀ a, sumQ g (a * b) = sumQ (fun x => sumQ (fun y => g (x * b + y)) b) a
  | 0 => by rw [Nat.zero_mul]; rfl
  | a + 1 => by rw [Nat.add_mul, Nat.one_mul, sumQ_split, sumQ_prod g b a, sumQ]
/-- Sums within sums, the first variable outermost. -/
def nsum (S : List Nat) : List Nat → ((Nat → Nat) → Rat) → (Nat → Nat) → Rat
  | [], F, f => F f
  | v :: vs, F, f => sumQ (fun x => nsum S vs F (withV f v x)) (sz S v)
/-- One over another, where it speaks. -/
def over (vs : List Nat) (f g : Nat → Nat) : Nat → Nat := fun u => if u ∈ vs then g u else f u
theorem over_nil (f g : Nat → Nat) : over [] f g = f := by funext u; simp [over]
theorem nsum_all {S : List Nat} (F : (Nat → Nat) → Rat) : ∀ (vs : List Nat) (f : Nat → Nat), vs.Nodup → sumQ (fun k => F (over vs f (asg S vs k))) (cnt S vs) = nsum S vs F f
  | [], f, _ => by
    show 0 + F (over [] f _) = F f
    rw [over_nil, Rat.zero_add]
  | v :: vs, f, hn => by
    rw [List.nodup_cons] at hn
    rw [cnt, sumQ_prod, nsum]
    refine sumQ_congr fun x hx => ?_
    rw [← nsum_all F vs (withV f v x) hn.2]
    refine sumQ_congr fun y hy => ?_
    congr 1
    funext u
    have h1 : (x * cnt S vs + y) / cnt S vs = x := by rw [Nat.mul_comm, Nat.mul_add_div (by omega), Nat.div_eq_of_lt hy, Nat.add_zero]
    have h2 : (x * cnt S vs + y) % cnt S vs = y := by rw [Nat.mul_comm, Nat.mul_add_mod, Nat.mod_eq_of_lt hy]
    simp only [over, asg, h1, h2, withV, List.mem_cons]
    by_cases e : u = v
    · subst e
      rw [if_pos (.inl rfl), if_pos rfl, if_neg hn.1, if_pos rfl]
    · rw [if_neg e]
      by_cases e2 : u ∈ vs
      · rw [if_pos (.inr e2), if_pos e2]
      · rw [if_neg (fun h => h.elim e e2), if_neg e2, if_neg e]
theorem nsum_congr {S : List Nat} {F G : (Nat → Nat) → Rat} (h : ∀ g, (∀ u, g u < sz S u) → F g = G g) : ∀ (vs : List Nat) (f : Nat → Nat), (∀ u, f u < sz S u) → nsum S vs F f = nsum S vs G f
  | [], f, hf => h f hf
  | v :: vs, f, hf => by
    rw [nsum, nsum]
    refine sumQ_congr fun x hx => nsum_congr h vs _ fun u => ?_
    rw [withV]
    by_cases e : u = v
    · rw [if_pos e, e]; exact hx
    · rw [if_neg e]; exact hf u
theorem nsum_snoc {S : List Nat} (F : (Nat → Nat) → Rat) (v : Nat) : ∀ (vs : List Nat) (f : Nat → Nat), nsum S (vs ++ [v]) F f = nsum S vs (fun g => sumQ (fun x => F (withV g v x)) (sz S v)) f
  | [], f => rfl
  | u :: vs, f => by
    rw [List.cons_append, nsum, nsum]
    exact sumQ_congr fun x _ => nsum_snoc F v vs _
theorem nsum_perm {S : List Nat} (F : (Nat → Nat) → Rat) {a b : List Nat} (h : a.Perm b) : a.Nodup → ∀ f, nsum S a F f = nsum S b F f := by
  induction h with
  | nil => intro _ f; rfl
  | cons x _ ih =>
    intro hn f
    rw [List.nodup_cons] at hn
    rw [nsum, nsum]
    exact sumQ_congr fun y _ => ih hn.2 _
  | swap x y l =>
    intro hn f
    have hne : y ≠ x := by
      rw [List.nodup_cons] at hn
      exact fun e => hn.1 (by rw [e]; exact List.mem_cons_self)
    simp only [nsum]
    rw [sumQ_swap]
    refine sumQ_congr fun p _ => sumQ_congr fun q _ => ?_
    rw [withV_comm f q p (Ne.symm hne)]
  | trans h1 _ ih1 ih2 =>
    intro hn f
    rw [ih1 hn f, ih2 (h1.nodup_iff.1 hn) f]
/-- The product over some. -/
def prodS (V : List Vr) (L : List (List Int)) (R : List (List Fr)) (f : Nat → Nat) : List Nat → Rat
  | [] => 1
  | v :: vs => frQ (likF V L R f v) * prodS V L R f vs
theorem prodS_append (V : List Vr) (L : List (List Int)) (R : List (List Fr)) (f : Nat → Nat) (b : List Nat) : ∀ a, prodS V L R f (a ++ b) = prodS V L R f a * prodS V L R f b
  | [] => by rw [List.nil_append, prodS, Rat.one_mul]
  | v :: a => by rw [List.cons_append, prodS, prodS, prodS_append V L R f b a, Rat.mul_assoc]
theorem prodS_range (V : List Vr) (L : List (List Int)) (R : List (List Fr)) (f : Nat → Nat) : ∀ n, prodV V L R f n = prodS V L R f (List.range n)
  | 0 => rfl
  | n + 1 => by rw [prodV, prodS_range V L R f n, List.range_succ, prodS_append, prodS, prodS, Rat.mul_one]
theorem prodS_perm {V : List Vr} {L : List (List Int)} {R : List (List Fr)} {f : Nat → Nat} {a b : List Nat} (h : a.Perm b) : prodS V L R f a = prodS V L R f b := by
  induction h with
  | nil => rfl
  | cons x _ ih => rw [prodS, prodS, ih]
  | swap x y l => simp only [prodS]; rw [← Rat.mul_assoc, ← Rat.mul_assoc, Rat.mul_comm (frQ (likF V L R f y))]
  | trans _ _ h1 h2 => exact h1.trans h2
/-- What a variable hangs on. -/
theorem likF_with {V : List Vr} {L : List (List Int)} {R : List (List Fr)} {f : Nat → Nat} {u v x : Nat} (h1 : u ≠ v) (h2 : ¬ v ∈ toN (L.getD u [])) : likF V L R (withV f v x) u = likF V L R f u := by
  rw [likF, likF, likT, likT]
  have e : pos (sizesN V) (withV f v x) (toN (L.getD u [])) = pos (sizesN V) f (toN (L.getD u [])) := pos_congr _ fun z hz => by
    rw [withV, if_neg]
    intro e
    exact h2 (e ▸ hz)
  rw [e, withV, if_neg h1]
theorem prodS_with {V : List Vr} {L : List (List Int)} {R : List (List Fr)} {f : Nat → Nat} {v x : Nat} : ∀ {o : List Nat}, (∀ u ∈ o, u ≠ v ∧ ¬ v ∈ toN (L.getD u [])) → prodS V L R (withV f v x) o = prodS V L R f o
  | [], _ => rfl
  | u :: o, h => by
    obtain ⟨h1, h2⟩ := h u List.mem_cons_self
    rw [prodS, prodS, likF_with h1 h2, prodS_with fun z hz => h z (List.mem_cons_of_mem _ hz)]
theorem fsum_sumQ : ∀ (l : List Fr), fsum l = sumQ (fun x => frQ (celF l x)) l.length := by
  intro l
  have key : ∀ n, n ≤ l.length → fsum (l.take n) = sumQ (fun x => frQ (celF l x)) n := by
    intro n
    induction n with
    | zero => intro _; rfl
    | succ n ih =>
      intro hn
      rw [List.take_succ_eq_append_getElem (by omega), fsum_snoc, ih (by omega), sumQ, celF_eq (by omega)]
      rfl
  have := key l.length (Nat.le_refl _)
  rwa [List.take_length] at this
/-- Each row is 1 together. -/
theorem row_one {V : List Vr} {L : List (List Int)} {R : List (List Fr)} (h0 : netE V L R = 0) {v : Nat} (hv : v < V.length) {f : Nat → Nat} (hf : ∀ u, f u < sz (sizesN V) u) : sumQ (fun x => frQ (likF V L R (withV f v x) v)) (sz (sizesN V) v) = 1 := by
  have hok := netE_ok h0
  have hvL : v < L.length := by rw [hok.len]; exact hv
  have hvR : v < R.length := by rw [hok.lenR]; exact hv
  have hno := noSelf_of h0 hvL
  have hlen := hok.rows v hvL hvR
  have hp := pos_lt f hf (toN L[v])
  have hrow : rowB (chunkF R[v] (sz (sizesN V) v) (pos (sizesN V) f (toN L[v]))) = true := by
    have h1 : firstE (rowE (sizesN V) L R) V.length = 0 := by
      rw [netE] at h0
      by_cases h1 : L.length = V.length ∧ R.length = V.length
      · rw [if_pos h1] at h0
        by_cases h2 : gcE L = 0
        · rw [if_pos h2] at h0
          by_cases h3 : varsE V = 0
          · rwa [if_pos h3] at h0
          · rw [if_neg h3] at h0; exact absurd h0 h3
        · rw [if_neg h2] at h0; exact absurd h0 h2
      · rw [if_neg h1] at h0; exact absurd h0 (by decide)
    have h2 := firstE_zero h1 v hv
    rw [rowE, List.getD_eq_getElem?_getD, List.getElem?_eq_getElem hvR, List.getD_eq_getElem?_getD, List.getElem?_eq_getElem hvL] at h2
    simp only [Option.getD_some] at h2
    rw [if_pos hlen] at h2
    by_cases h3 : ((List.range (cnt (sizesN V) (toN L[v]))).all fun i => rowB (chunkF R[v] (sz (sizesN V) v) i)) = true
    · rw [List.all_eq_true] at h3
      exact h3 _ (List.mem_range.2 hp)
    · rw [if_neg h3] at h2; exact absurd h2 (by decide)
  rw [rowB, Bool.and_eq_true] at hrow
  have hs : fsum (chunkF R[v] (sz (sizesN V) v) (pos (sizesN V) f (toN L[v]))) = 1 := of_decide_eq_true hrow.2
  have hmul : (pos (sizesN V) f (toN L[v]) + 1) * sz (sizesN V) v ≤ R[v].length := by rw [hlen]; exact Nat.mul_le_mul_right _ hp
  have e1 : (pos (sizesN V) f (toN L[v]) + 1) * sz (sizesN V) v = pos (sizesN V) f (toN L[v]) * sz (sizesN V) v + sz (sizesN V) v := by rw [Nat.add_mul, Nat.one_mul]
  have hcl : (chunkF R[v] (sz (sizesN V) v) (pos (sizesN V) f (toN L[v]))).length = sz (sizesN V) v := by
    rw [chunkF, List.length_take, List.length_drop]
    omega
  rw [fsum_sumQ, hcl] at hs
  rw [← hs]
  refine sumQ_congr fun x hx => ?_
  rw [likF_eq hvL hvR, likT]
  have e2 : pos (sizesN V) (withV f v x) (toN L[v]) = pos (sizesN V) f (toN L[v]) := pos_congr _ fun z hz => by
    rw [withV, if_neg]
    intro e
    exact hno (e ▸ hz)
  rw [e2, withV, if_pos rfl, celF_eq (by omega), celF_eq (by omega)]
  simp only [chunkF, List.getElem_take, List.getElem_drop]
/-- What stands there has all that it hangs on there. -/
theorem ord_closed (P : List (List Nat)) : ∀ k, ∀ u ∈ ordN P k, ∀ z ∈ P.getD u [], z ∈ ordN P k
  | 0, u, hu => by cases hu
  | k + 1, u, hu => by
    rw [ordN] at hu ⊢
    cases e : nextV P (ordN P k) with
    | none =>
      rw [e] at hu
      exact ord_closed P k u hu
    | some v =>
      rw [e] at hu
      intro z hz
      refine List.mem_append.2 (.inl ?_)
      rcases List.mem_append.1 hu with h | h
      · exact ord_closed P k u h z hz
      · obtain rfl := List.mem_singleton.1 h
        have hfree : freeB P (ordN P k) u = true := List.find?_some e
        rw [freeB, Bool.and_eq_true] at hfree
        exact of_decide_eq_true hfree.2 z hz
/-- An order in which what a variable hangs on stands ahead of it: all of it together is 1. -/
theorem nsum_order {V : List Vr} {L : List (List Int)} {R : List (List Fr)} (h0 : netE V L R = 0) : ∀ k, (ordN (parN L) k).length = k → k ≤ L.length → (ordN (parN L) k).Nodup ∧ ∀ f, (∀ u, f u < sz (sizesN V) u) → nsum (sizesN V) (ordN (parN L) k) (fun g => prodS V L R g (ordN (parN L) k)) f = 1
  | 0, _, _ => ⟨List.nodup_nil, fun _ _ => rfl⟩
  | k + 1, hl, hk => by
    have hok := netE_ok h0
    have hln := ord_len (parN L) k
    cases e : nextV (parN L) (ordN (parN L) k) with
    | none =>
      rw [ordN, e] at hl
      exact absurd hl (by show (ordN (parN L) k).length ≠ _; omega)
    | some v =>
      have e1 := ord_some e
      rw [e1] at hl ⊢
      rw [List.length_append, List.length_singleton] at hl
      obtain ⟨hn, hs⟩ := nsum_order h0 k (by omega) (by omega)
      have hfree : freeB (parN L) (ordN (parN L) k) v = true := List.find?_some e
      rw [freeB, Bool.and_eq_true] at hfree
      have hnv : ¬ v ∈ ordN (parN L) k := by simpa using hfree.1
      have hvl : v < L.length := by have := List.mem_range.1 (List.mem_of_find?_eq_some e); rwa [parN_length] at this
      refine ⟨?_, fun f hf => ?_⟩
      · rw [List.nodup_append]
        refine ⟨hn, by simp, fun a ha b hb => ?_⟩
        rw [List.mem_singleton.1 hb]
        exact fun e => hnv (e ▸ ha)
      · rw [nsum_snoc, ← hs f hf]
        refine nsum_congr (fun g hg => ?_) _ f hf
        rw [sumQ_congr (h := fun x => prodS V L R g (ordN (parN L) k) * frQ (likF V L R (withV g v x) v))]
        · rw [sumQ_mul, row_one h0 (by rw [← hok.len]; exact hvl) hg, Rat.mul_one]
        · intro x _
          rw [prodS_append, prodS, prodS, Rat.mul_one, prodS_with]
          intro u hu
          refine ⟨fun e => hnv (e ▸ hu), fun hp => ?_⟩
          exact hnv (ord_closed (parN L) k u hu v (by
            have hul := ord_lt (parN L) k u hu
            rw [parN_length] at hul
            rw [parN_get hul]
            rw [List.getD_eq_getElem?_getD, List.getElem?_eq_getElem hul] at hp
            exact hp))
end Go.Proofs.YtnnfmfdjgdgdhaaGreatDoor


/- Plain: a net's numbers, all together; what is left of what is given. -/
namespace Go.Proofs.YtnnfmfdjgdgdhaaGreatDoor
open Go.RowKit Go.Shelf

theorem nodup_le : ∀ (n : Nat) (l : List Nat), l.Nodup → (∀ x ∈ l, x < n) → l.length ≤ n
  | 0, l, _, h => by
    cases l with
    | nil => exact Nat.le_refl _
    | cons a l => exact absurd (h a List.mem_cons_self) (by omega)
  | n + 1, l, hn, h => by
    by_cases hm : n ∈ l
    · have h1 := List.length_erase_of_mem hm
      have h2 := nodup_le n (l.erase n) (hn.erase n) (fun x hx => by
        have h3 := h x (List.mem_of_mem_erase hx)
        have hne : x ≠ n := fun e => by subst e; exact hn.not_mem_erase hx
        omega)
      have h4 := List.length_pos_of_mem hm
      omega
    · have h2 := nodup_le n l hn (fun x hx => by
        have h3 := h x hx
        have hne : x ≠ n := fun e => hm (e ▸ hx)
        omega)
      omega
theorem perm_range : ∀ (n : Nat) (l : List Nat), l.Nodup → (∀ x ∈ l, x < n) → l.length = n → l.Perm (List.range n)
  | 0, l, _, _, h => by
    have := List.length_eq_zero_iff.1 h
    subst this
    exact List.Perm.refl _
  | n + 1, l, hn, h, hl => by
    have hm : n ∈ l := Classical.byContradiction fun hm => by
      have := nodup_le n l hn (fun x hx => by
        have h3 := h x hx
        have hne : x ≠ n := fun e => hm (e ▸ hx)
        omega)
      omega
    have h1 := List.length_erase_of_mem hm
    have h2 := perm_range n (l.erase n) (hn.erase n) (fun x hx => by
      have h3 := h x (List.mem_of_mem_erase hx)
      have hne : x ≠ n := fun e => by subst e; exact hn.not_mem_erase hx
      omega) (by omega)
    rw [List.range_succ]
    exact (List.perm_cons_erase hm).trans ((h2.cons n).trans (List.perm_append_singleton n (List.range n)).symm)
theorem ord_all {V : List Vr} {L : List (List Int)} {R : List (List Fr)} (h : netE V L R = 0) : (ordN (parN L) L.length).length = L.length := by
  rw [netE] at h
  by_cases h1 : L.length = V.length ∧ R.length = V.length
  · rw [if_pos h1] at h
    by_cases h2 : gcE L = 0
    · rw [gcE] at h2
      by_cases h3 : gB L = true
      · rw [if_pos h3] at h2
        by_cases h4 : (ordN (parN L) L.length).length < L.length
        · rw [if_pos h4] at h2; cases h2
        · have := ord_len (parN L) L.length
          omega
      · rw [if_neg h3] at h2; cases h2
    · rw [if_neg h2] at h; exact absurd h h2
  · rw [if_neg h1] at h; cases h
theorem over_all {S vs : List Nat} (k : Nat) : over vs (fun _ => 0) (asg S vs k) = asg S vs k := by
  funext u
  rw [over]
  by_cases e : u ∈ vs
  · rw [if_pos e]
  · rw [if_neg e, asg_out e]
/-- All assignments together are as likely as 1. -/
theorem total_one {V : List Vr} {L : List (List Int)} {R : List (List Fr)} (h0 : netE V L R = 0) : sumQ (fun k => prodV V L R (asg (sizesN V) (List.range V.length) k) V.length) (cnt (sizesN V) (List.range V.length)) = 1 := by
  have hok := netE_ok h0
  have hps : Pos (sizesN V) := by have := hok.fine.pos; rwa [toN_iL] at this
  obtain ⟨hn, hs⟩ := nsum_order h0 L.length (ord_all h0) (Nat.le_refl _)
  have hp : (ordN (parN L) L.length).Perm (List.range V.length) := by
    rw [← hok.len]
    refine perm_range L.length _ hn (fun x hx => ?_) (ord_all h0)
    have := ord_lt (parN L) L.length x hx
    rwa [parN_length] at this
  have hz : ∀ u, (fun _ : Nat => 0) u < sz (sizesN V) u := fun u => sz_pos hps u
  have e := nsum_all (S := sizesN V) (fun g => prodV V L R g V.length) (List.range V.length) (fun _ => 0) List.nodup_range
  rw [sumQ_congr (h := fun k => prodV V L R (asg (sizesN V) (List.range V.length) k) V.length) fun k _ => by rw [over_all]] at e
  rw [e, ← nsum_perm _ hp hn, ← hs (fun _ => 0) hz]
  refine nsum_congr (fun g _ => ?_) _ _ hz
  rw [prodS_range]
  exact (prodS_perm hp).symm
theorem outQ_sum (g : Nat → Rat) : ∀ m, outQ false g m = sumQ g (m + 1)
  | 0 => by show g 0 = 0 + g 0; rw [Rat.zero_add]
  | m + 1 => by
    rw [outQ, outQ_sum g m]
    rfl
theorem likF_congr {V : List Vr} {L : List (List Int)} {R : List (List Fr)} {f g : Nat → Nat} {v : Nat} (h : ∀ u, u = v ∨ u ∈ toN (L.getD v []) → f u = g u) : likF V L R f v = likF V L R g v := by
  rw [likF, likF, likT, likT, pos_congr (sizesN V) (f := f) (g := g) fun u hu => h u (.inr hu), h v (.inl rfl)]
/-- What is given, the variable taken out: 1 everywhere. -/
theorem out_one {V : List Vr} {L : List (List Int)} {R : List (List Fr)} (h0 : netE V L R = 0) {v : Nat} (hv : v < V.length) {rest : List Nat} : ∀ K (h : K < (outL (sizesN V) (toN (gU L v)) rest v false (gL V L R v)).length), (outL (sizesN V) (toN (gU L v)) rest v false (gL V L R v))[K] = qF 1 := by
  have hok := netE_ok h0
  have hvL : v < L.length := by rw [hok.len]; exact hv
  have hps : Pos (sizesN V) := by have := hok.fine.pos; rwa [toN_iL] at this
  have eLv : L.getD v [] = L[v] := by rw [List.getD_eq_getElem?_getD, List.getElem?_eq_getElem hvL]; rfl
  have hup : Up (gU L v) V.length := by rw [gU, eLv]; exact togL_up (hok.up v hvL) (up_one hv)
  have hmem : ∀ u, u = v ∨ u ∈ toN (L.getD v []) → u ∈ toN (gU L v) := fun u hu => by
    obtain ⟨_, h2⟩ := togL_rise (L.getD v []) [(v : Int)]
    rcases hu with rfl | hu
    · exact List.mem_map.2 ⟨(u : Int), (h2 _).2 (.inr (List.mem_singleton.2 rfl)), Int.toNat_natCast u⟩
    · obtain ⟨z, hz, rfl⟩ := List.mem_map.1 hu
      exact List.mem_map.2 ⟨z, (h2 _).2 (.inl hz), rfl⟩
  intro K hK
  have hK' : K < cnt (sizesN V) rest := by simpa [outL] using hK
  have hf := fun z => asg_lt hps rest K z hK'
  have hsv := sz_pos hps v
  simp only [outL, List.getElem_map, List.getElem_range]
  congr 1
  rw [frQ_outN, outQ_sum, show sz (sizesN V) v - 1 + 1 = sz (sizesN V) v by omega, ← row_one h0 hv hf]
  refine sumQ_congr fun x hx => ?_
  have hw : ∀ u, withV (asg (sizesN V) rest K) v x u < sz (sizesN V) u := fun u => by
    rw [withV]
    by_cases e : u = v
    · rw [if_pos e, e]; exact hx
    · rw [if_neg e]; exact hf u
  rw [gL, celF_map _ (pos_lt _ hw _), frQ_qF]
  congr 1
  exact likF_congr fun u hu => asg_pos hps hw hup.nodup u (hmem u hu)
end Go.Proofs.YtnnfmfdjgdgdhaaGreatDoor

