/- Package graph: comings. -/
import Derived.Test.YtockhhleapbpiaaCntAToListA
import Derived.Test.YtockhhleapbpiaaFilAOwn
import Derived.Test.YtockhhleapbpiaaWayAToMarkA
import Derived.Maps.OwnSet
import Derived.DeepKeys4
import Derived.Test.YtockhhleapbpiaaAbvPToOrdD
namespace Go.Proofs.Ytockhhleapbpiaa
open Go.RowKit Go.Shelf

attribute [local go_sem] Oper.semAt_some

/-- An append leaves a row where it was, or makes a new block. -/
theorem run_append_new {P : Program} (w : World) (base : Nat) (t ty e : TypeId) (i : TypeInfo) (z : Value) (size bytes : Nat) (ht : P.underlying t = some (.slice e)) (hi : P.info? e = some i) (hz : i.zero = some z) (hsize : i.size = size) (hby : i.bytes = bytes) (hzs : z.cells.size = size) (hsz : 0 < size)
    (v : Value) (n : Nat) (xs : List Value) (hown : w.ownsRow base e size v n xs) (a : Addr) (m c : Nat) (news : List Value) (hl : news.length = m * size) (hnews : ∀ j u, news[j]? = some u → w.cell? (a.add j) = some u) (h1 : ∀ u ∈ news, u.oneCell' = true)
    (h63 : n + m ≤ maxLen) (hbytes : (n + m) * bytes ≤ 140737488355328) (hbase : base ≤ w.heap.size) (hm : 0 < m) :
    ∃ v' w', (Builtin.append_ #[t, t] ty #[v, .slice (some a) m c]).run P w = .ok v' w' ∧ w'.ownsRow base e size v' (n + m) (xs ++ news) ∧ w.grownBy w' v.ownBlock ∧ (v'.ownBlock = v.ownBlock ∨ ∀ k, v'.ownBlock = some k → w.heap.size ≤ k) := by
  obtain ⟨v', w', hr, h2, h3, -⟩ := run_append_own (P := P) w base t ty e i z size bytes ht hi hz hsize hby hzs hsz v n xs hown a m c news hl hnews h1 h63 hbytes hbase
  refine ⟨v', w', hr, h2, h3, ?_⟩
  have hsmall : n + m ≤ 9223372036854775807 := by simp only [maxLen] at h63; omega
  subst hsize
  subst hby
  rcases hown.2 with ⟨h4, h5⟩ | ⟨g', cap, cur, h4, hbg, hg', hnc, hcm, hcs, htake⟩
  · right
    have e' := run_append_nil (P := P) w t ty e i z ht hi hz a m c news hl hnews hm (by omega) (by
      have hb := hbytes
      rw [h5, Nat.zero_add] at hb
      omega)
    rw [h4] at hr
    rw [hr] at e'
    cases e'
    intro k hk
    cases hk
    exact Nat.le_refl _
  · rw [h4] at hr
    by_cases hroom : n + m ≤ cap
    · left
      have hfit : n * i.size + news.length ≤ cur.size := by rw [hl, hcs, ← Nat.add_mul]; exact Nat.mul_le_mul_right _ hroom
      have e' := run_append_room (P := P) w t ty e i ht hi g' n cap cur hg' a m c news hl hnews h1 hroom hfit
      rw [hr] at e'
      cases e'
      rw [h4]; rfl
    · right
      have hown' := hown
      rw [h4] at hown'
      have e' := run_append_grow (P := P) w t ty e i z ht hi hz ⟨g', 0, none⟩ n cap xs hown'.1 (World.ownsRow.cells hown' rfl) a m c news hl hnews (by omega) (by omega) (growslice_fits (by omega) hbytes)
      rw [hr] at e'
      cases e'
      intro k hk
      cases hk
      exact Nat.le_refl _
theorem wpListIn_append_new {F : Fence} {n : Nat} {P : Program} (w : World) {ops : Array Oper} {rest : List Oper} {o : Oper} {a : Act} {Q : Exit → Act → World → Prop}
    (hg : o.guard = none) (s x : Operand) (t : TypeId) (hop : o.op = Op.call { callee := Callee.builtin Builtin.append, args := #[s, x], argTypes := #[t, t] })
    (base : Nat) (e : TypeId) (i : TypeInfo) (z : Value) (size bytes : Nat) (h1 : P.underlying t = some (.slice e)) (h2 : P.info? e = some i) (h3 : i.zero = some z) (h4 : i.size = size) (h5 : i.bytes = bytes) (h6 : z.cells.size = size) (h7 : 0 < size)
    (v : Value) (k : Nat) (xs : List Value) (hs : a.eval s = v) (hown : w.ownsRow base e size v k xs) (ad : Addr) (m c : Nat) (news : List Value) (hx : a.eval x = .slice (some ad) m c) (hn : news.length = m * size)
    (hc : ∀ j u, news[j]? = some u → w.cell? (ad.add j) = some u) (h1c : ∀ u ∈ news, u.oneCell' = true) (b1 : k + m ≤ maxLen) (b2 : (k + m) * bytes ≤ 140737488355328) (b3 : base ≤ w.heap.size) (hm : 0 < m)
    (hK : ∀ v' w', w'.ownsRow base e size v' (k + m) (xs ++ news) → w.grownBy w' v.ownBlock → (v'.ownBlock = v.ownBlock ∨ ∀ k, v'.ownBlock = some k → w.heap.size ≤ k) → wpListIn F n P ops Q rest (a.put o.dst v') w') :
    wpListIn F n P ops Q (o :: rest) a w := by
  refine wpListIn_plain hg fun K hK' => ?_
  obtain ⟨v', w', hrun, r1, r2, r3⟩ := run_append_new (P := P) w base t o.type e i z size bytes h1 h2 h3 h4 h5 h6 h7 v k xs hown ad m c news hn hc h1c b1 b2 b3 hm
  unfold Oper.wpIn
  refine ⟨?_, ?_⟩
  · simp [Oper.about, hop, resolve, Target.leads, Sem.run_pure]
  · rw [Oper.semAt_plain F _ _ (by rw [hop]; intro c hc'; cases hc')]
    simp [execOp, hop, resolve, invoke, builtin, hs, hx, hrun, Result.andThen]
    exact hK' _ _ (hK v' w' r1 r2 r3)
/-- How a way comes to nodes, as it lies there. -/
def cmC : List (Nat × Bool) → List Value
  | [] => []
  | p :: l => .int .i64 (p.1 : Nat) :: .bool p.2 :: cmC l
theorem cmC_length : ∀ l, (cmC l).length = l.length * 2
  | [] => rfl
  | p :: l => by
    show (cmC l).length + 1 + 1 = (l.length + 1) * 2
    rw [cmC_length l]; omega
theorem cmC_append (m : List (Nat × Bool)) : ∀ l, cmC (l ++ m) = cmC l ++ cmC m
  | [] => rfl
  | q :: l => by
    show _ :: _ :: cmC (l ++ m) = _ :: _ :: (cmC l ++ cmC m)
    rw [cmC_append m l]
def OwC (w : World) (B : Nat) (v : Value) (l : List (Nat × Bool)) : Prop := w.ownsRow B 93 2 v l.length (cmC l)
theorem Try.infoComing : (Try.prog.info? 93).map (fun i => (i.zero, i.size, i.bytes)) = some (some (.agg #[.int .i64 0, .bool false]), 2, 16) := by kernel_rfl
/-- Where a row grows, or its like anew. -/
def GrS (w V : World) (lv v : Value) : Prop := w.grownBy V lv.ownBlock ∧ (v.ownBlock = lv.ownBlock ∨ ∀ g, v.ownBlock = some g → w.heap.size ≤ g)
theorem ownFrom_grownO {β : Type} {w : World} {row : Option Nat} {B : Nat} (hB : w.heap.size ≤ B) : OwnFrom B (fun (_ : β) W => w.grownBy W row) := fun _ W W' r hs hg hr => ⟨hg.os.trans hs.os, hg.tape.trans hs.tape, hg.output.trans hs.output, Nat.le_trans hs.size hg.size, fun k hk hne => (hg.block k (Nat.lt_of_lt_of_le hk hs.size) (fun e => by
  have := (hr k e.symm).1
  omega)).trans (hs.block k hk hne)⟩
theorem two_new (w : World) (a b : Value) (t : TypeId) : ∀ j u, [a, b][j]? = some u → (w.alloc (.cells #[a, b] t)).cell? ((⟨w.heap.size, 0, none⟩ : Addr).add j) = some u := fun j u hj => by
  have h := heap_alloc_new w (.cells #[a, b] t)
  match j, hj with
  | 0, hj => cases hj; exact (cell_of_row _ w.heap.size 0 _ _ (0, 0) h).trans rfl
  | 1, hj => cases hj; exact (cell_of_row _ w.heap.size 1 _ _ (0, 0) h).trans rfl
  | j + 2, hj => simp at hj
/-- The frame goes on where a row that is the same, or new, grows. -/
theorem GrS.more {w V V' : World} {lv v v' : Value} {tmp : Obj} (h : GrS w V lv v) (hg : (V.alloc tmp).grownBy V' v.ownBlock) (hn : v'.ownBlock = v.ownBlock ∨ ∀ k, v'.ownBlock = some k → (V.alloc tmp).heap.size ≤ k) (b j : Nat) (hb : w.heap.size ≤ b) (y : Value) : GrS w (V'.setCell ⟨b, j, none⟩ y) lv v' := by
  have hs := h.1.size
  have ha : V.heap.size ≤ (V.alloc tmp).heap.size := ((Below.refl V.heap.size V).alloc (Nat.le_refl _) tmp).size
  refine ⟨⟨hg.os.trans h.1.os, hg.tape.trans h.1.tape, hg.output.trans h.1.output, Nat.le_trans (Nat.le_trans hs ha) (Nat.le_trans hg.size (by simp)), fun k hk hne => ?_⟩, ?_⟩
  · refine (Below.heap_setCell V' ⟨b, j, none⟩ y k (by show k ≠ b; omega)).trans ((hg.block k (by omega) fun e => ?_).trans ((((Below.refl V.heap.size V).alloc (Nat.le_refl _) tmp).block k (by omega)).trans (h.1.block k hk hne)))
    rcases h.2 with h2 | h2
    · exact hne (by rw [e, h2])
    · have := h2 k e.symm
      omega
  · rcases hn with hn | hn
    · rcases h.2 with h2 | h2
      · exact .inl (hn.trans h2)
      · exact .inr fun g hg' => h2 g (by rw [← hn]; exact hg')
    · exact .inr fun g hg' => by
        have := hn g hg'
        omega

set_option maxRecDepth 100000 in
set_option maxHeartbeats 1000000 in
theorem comings_any (B : Nat) (lv : Value) (l : List (Nat × Bool)) (s : List Nat) (c : Bool) (w : World) (hs : ∀ u ∈ s, u < 8) (hl : OwC w B lv l) (hll : l.length ≤ 1000) (hB : B ≤ w.heap.size) :
    Calls Try.prog 74 #[lv, .int .u32 (mskN s : Nat), .bool c] w fun e w' => ∃ v, e = .returned v ∧ OwC w' B v (l ++ (memU s 8).map fun u => (u, c)) ∧ GrS w w' lv v := by
  refine (callsIn_wide (n := 6)).1 ?_
  obtain ⟨i0, hi, hz0, hz1, hz2⟩ := info_parts Try.infoComing
  obtain ⟨dl, nl, cl, rfl⟩ : ∃ d n c, lv = .slice d n c := by
    rcases hl.2 with ⟨h1, -⟩ | ⟨g, cap, cur, h1, -⟩
    · exact ⟨_, _, _, h1⟩
    · exact ⟨_, _, _, h1⟩
  refine callsIn_of_wp_marks Try.func74 rfl trivial ?_ rfl
  simp only [Try.ntmps74, List.size_toArray, List.length_cons, List.length_nil, Nat.reduceAdd, Nat.reduceSub, Array.replicate_succ, Array.replicate_zero, List.push_toArray, List.append_toArray, List.nil_append, List.cons_append]
  have HL := hid hl
  clear hl
  gi_wp2_with fail
  have bO := Boxed.new w 90 (.slice dl nl cl)
  have bO2 := bO.alloc (.cells #[.bool c] 4)
  have bC := Boxed.new (w.alloc (.cells #[.slice dl nl cl] 90)) 4 (.bool c)
  have hA1 := (Below.refl w.heap.size w).alloc (Nat.le_refl _) (.cells #[.slice dl nl cl] 90)
  have hsz1 : (w.alloc (.cells #[.slice dl nl cl] 90)).heap.size = w.heap.size + 1 := by simp
  have hA2 := hA1.alloc hA1.size (.cells #[.bool c] 4)
  rw [hsz1] at bC
  have hg0 : w.grownBy ((w.alloc (.cells #[.slice dl nl cl] 90)).alloc (.cells #[.bool c] 4)) (Value.slice dl nl cl).ownBlock := ⟨hA2.os, hA2.tape, hA2.output, hA2.size, fun k hk _ => hA2.block k hk⟩
  refine wp_each (by omega) s hs rfl rfl
    (fun k V => (∃ v, Boxed V w.heap.size 90 v ∧ V.ownsRow B 93 2 v (l ++ (memU s k).map fun u => (u, c)).length (cmC (l ++ (memU s k).map fun u => (u, c))) ∧ (v.ownBlock = (Value.slice dl nl cl).ownBlock ∨ ∀ g, v.ownBlock = some g → w.heap.size ≤ g)) ∧ Boxed V (w.heap.size + 1) 4 (.bool c) ∧ w.grownBy V (Value.slice dl nl cl).ownBlock)
    (OwnFrom.and (Own.from (holdsRow_own B w.heap.size 90 93 2 (fun k : Nat => (l ++ (memU s k).map fun u => (u, c)).length) (fun k => cmC (l ++ (memU s k).map fun u => (u, c))) (fun _ v => v.ownBlock = (Value.slice dl nl cl).ownBlock ∨ ∀ g, v.ownBlock = some g → w.heap.size ≤ g)) _) (OwnFrom.and (Own.from (boxed_own (w.heap.size + 1) 4 (fun _ : Nat => .bool c)) _) (ownFrom_grownO hA2.size)))
    ⟨⟨_, bO2, by simpa [memU] using (World.ownsRow.alloc (World.ownsRow.alloc HL.out _) _), .inl rfl⟩, bC, hg0⟩
    (fun k => { tmps := #[.slice dl nl cl, .int .u32 (mskN s : Nat), .bool c, .pointer (some ⟨w.heap.size, 0, none⟩), undef, .pointer (some ⟨w.heap.size + 1, 0, none⟩), .slice none 0 0, .int .i64 (k : Nat), .int .u32 (mskN s : Nat), .func (.func 47) #[.int .u32 (mskN s : Nat)] #[], .int .i64 (k : Nat), undef, undef, undef, undef, undef, undef, undef], defers := [] }) ?assign ?body ?skip ?done
  case assign =>
    intro l k W K hK
    gi_wp2
    exact hK
  case body =>
    rintro r k V hk hm ⟨⟨v, hv, hrow, hsf⟩, hvc, hgr⟩
    have hc := hv.cell
    have hcc := hvc.cell
    have hm8 := memU_len s k
    have hlen : (l ++ (memU s k).map fun u => (u, c)).length ≤ 1008 := by rw [List.length_append, List.length_map]; omega
    have hBV : B ≤ V.heap.size := Nat.le_trans hB hgr.size
    have HG : GrS w V (Value.slice dl nl cl) v := ⟨hgr, hsf⟩
    generalize hLL : (l ++ (memU s k).map fun u => (u, c)) = LL at *
    gi_wp2_with (gi_at_builtin; refine wpListIn_append_new _ rfl _ _ 90 rfl B 93 i0 (.agg #[.int .i64 0, .bool false]) 2 16 Try.underlying90 hi hz0 hz1 hz2 rfl (by decide) _ _ _ rfl (hrow.alloc _) ⟨V.heap.size, 0, none⟩ 1 1 [.int .i64 (k : Nat), .bool c] rfl rfl (two_new _ _ _ _) (by simp [Value.oneCell']) (by unfold maxLen; omega) (by omega) (by simp; omega) (by decide) ?_; intro v' w3 hown' hgrow hnew; obtain ⟨g', cap', rfl⟩ := ownsRow_succ hown'; obtain ⟨hv1, hv2, hr2, hk2, hb2⟩ := hv.appended (by decide) hrow hBV hB hown' hgrow; have hc1 := hv1.cell; have hf1 := hv1.frozen)
    have hvc1 : Boxed w3 (w.heap.size + 1) 4 (.bool c) := (hvc.alloc _).kept hgrow (hvc.not_row (by decide) hrow)
    have hG2 := HG.more hgrow hnew w.heap.size 0 (Nat.le_refl _) (.slice (some ⟨g', 0, none⟩) (LL.length + 1) cap')
    have eLL : (l ++ (memU s (k + 1)).map fun u => (u, c)) = LL ++ [(k, c)] := by rw [memU_yes hm, List.map_append, ← List.append_assoc, hLL]; rfl
    refine ⟨hk2.from _, ⟨⟨_, hv2, ?_, hG2.2⟩, boxed_offB hvc1 w.heap.size 0 _ (by omega), hG2.1⟩⟩
    rw [eLL, List.length_append, cmC_append]
    exact hr2
  case skip =>
    rintro k V hk hm h
    rwa [memU_no hm]
  case done =>
    rintro D V hD ⟨⟨v, hv, hrow, hsf⟩, hvc, hgr⟩ hK
    have hc := hv.cell
    gi_wp2
    refine ⟨by simp, .inl ⟨_, _, rfl, run_takeDeferred hK, ?_⟩⟩
    refine ⟨_, results_tmp rfl _ _ _, v, rfl, ownsRow_putObj hrow _ hK rfl, ⟨hgr.os, hgr.tape, hgr.output, Nat.le_trans hgr.size (by simp), fun k hk hne => (World.putObj_heap_other (by simp at hD; omega)).trans (hgr.block k hk hne)⟩, hsf⟩
end Go.Proofs.Ytockhhleapbpiaa


/- Package graph: isOpen: the map of comings, and what is come to. -/
namespace Go.Proofs.Ytockhhleapbpiaa
open Go.RowKit Go.Shelf

/-- A coming as a key. -/
def keyV (p : Nat × Bool) : Value := .agg #[.int .i64 (p.1 : Nat), .bool p.2]
theorem laidOutO : laidOutB Try.prog = true := by kernel_rfl
theorem keyedC : Maps.Keyed Try.prog 93 := Maps.Keyed.of_law (deep_law_laid laidOutO (m := 3) (by decide) (of_decide_eq_true (by kernel_rfl)) (by kernel_rfl) (by kernel_rfl))
theorem key_some (v : Nat) (c : Bool) (hv : v < 8) : (keyOf Try.prog 93 (keyV (v, c))).isSome = true := by
  have h : v = 0 ∨ v = 1 ∨ v = 2 ∨ v = 3 ∨ v = 4 ∨ v = 5 ∨ v = 6 ∨ v = 7 := by omega
  rcases h with rfl | rfl | rfl | rfl | rfl | rfl | rfl | rfl
  all_goals
    cases c
    all_goals exact of_decide_eq_true (by kernel_rfl)
theorem key_fun : ∃ kl : Nat × Bool → Lit, ∀ p : Nat × Bool, p.1 < 8 → keyOf Try.prog 93 (keyV p) = some (kl p) := by
  refine ⟨fun p => (keyOf Try.prog 93 (keyV p)).getD (.bool false), fun p hp => ?_⟩
  obtain ⟨l, hl⟩ := Option.isSome_iff_exists.1 (key_some p.1 p.2 hp)
  have hl' : keyOf Try.prog 93 (keyV p) = some l := hl
  show _ = some ((keyOf Try.prog 93 (keyV p)).getD (.bool false))
  rw [hl']; rfl
theorem key_inj {kl : Nat × Bool → Lit} (hk : ∀ p : Nat × Bool, p.1 < 8 → keyOf Try.prog 93 (keyV p) = some (kl p)) {p q : Nat × Bool} (hp : p.1 < 8) (hq : q.1 < 8) (h : kl p = kl q) : p = q := by
  have h1 := hk p hp
  have h2 := hk q hq
  rw [h] at h1
  have e := keyedC.inj h1 h2
  obtain ⟨p1, p2⟩ := p
  obtain ⟨q1, q2⟩ := q
  simp only [keyV, Value.agg.injEq, Array.mk.injEq, List.cons.injEq, Value.int.injEq, Value.bool.injEq, true_and, and_true] at e
  obtain ⟨e1, e2⟩ := e
  have : p1 = q1 := by omega
  rw [this, e2]
/-- The map holds just these. -/
structure BnM (kl : Nat × Bool → Lit) (W : World) (b : Nat) (S : List (Nat × Bool)) (D : DataW Unit) : Prop where
  own : W.ownsMap Try.prog 93 (unitElem (H := Unit)) b S.length D
  has : ∀ p : Nat × Bool, p.1 < 8 → Maps.has D (kl p) = decide (p ∈ S)
theorem BnM.new (kl : Nat × Bool → Lit) (w : World) : BnM kl (w.alloc (.map #[] 0)) w.heap.size [] (.map []) := ⟨World.ownsMap_made w _ _ _, fun _ _ => rfl⟩
theorem BnM.put {kl : Nat × Bool → Lit} (hk : ∀ p : Nat × Bool, p.1 < 8 → keyOf Try.prog 93 (keyV p) = some (kl p)) {W W' : World} {b : Nat} {S : List (Nat × Bool)} {D : DataW Unit} (h : BnM kl W b S D) {p : Nat × Bool} (hp : p.1 < 8) {d : DataW Unit} (h' : W'.ownsMap Try.prog 93 (unitElem (H := Unit)) b (S.length + 1) (D.put (kl p) d)) : BnM kl W' b (p :: S) (D.put (kl p) d) := by
  refine ⟨h', fun q hq => ?_⟩
  by_cases e : kl q = kl p
  · have e' := key_inj hk hq hp e
    rw [e', Maps.has_put_same h.own.isMap (keyedC.key (hk p hp)), decide_eq_true List.mem_cons_self]
  · rw [Maps.has_put_other e, h.has q hq]
    refine decide_eq_decide.2 ⟨List.mem_cons_of_mem _, fun hm => ?_⟩
    rcases List.mem_cons.1 hm with e' | hm
    · exact absurd (by rw [e']) e
    · exact hm
theorem BnM.kept {kl : Nat × Bool → Lit} {W W' : World} {b : Nat} {S : List (Nat × Bool)} {D : DataW Unit} (h : BnM kl W b S D) {row : Option Nat} (hg : W.grownBy W' row) (hne : some b ≠ row) : BnM kl W' b S D := ⟨h.own.kept hg hne, h.has⟩
end Go.Proofs.Ytockhhleapbpiaa


/- Plain: what isOpen has met and what waits: at the end just what is come to. -/
namespace Go.Proofs.Ytockhhleapbpiaa
open Go.RowKit Go.Shelf

/-- What comes behind a coming. -/
def sucC (P : List (List Nat)) (n : Nat) (z an : List Nat) (p : Nat × Bool) : List (Nat × Bool) :=
  (if (p.2 && !decide (p.1 ∈ z) || !p.2 && decide (p.1 ∈ an)) = true then (memU (P.getD p.1 []) 8).map fun u => (u, true) else []) ++ (if p.1 ∈ z then [] else (memU (chL P p.1 n) 8).map fun u => (u, false))
/-- What was met, and what waits. -/
structure OpS (P : List (List Nat)) (n : Nat) (x y z an : List Nat) (S W : List (Nat × Bool)) : Prop where
  low : ∀ p, p ∈ S ∨ p ∈ W → p.1 < n ∧ RcW (fun u v => u ∈ P.getD v []) (· ∈ x) (· ∈ z) (· ∈ an) p.1 p.2
  nd : S.Nodup
  noy : ∀ p ∈ S, ¬ p.1 ∈ y
  suc : ∀ p ∈ S, ∀ q ∈ sucC P n z an p, q ∈ S ∨ q ∈ W
  start : ∀ v ∈ x, (v, true) ∈ S ∨ (v, true) ∈ W
  len : W.length ≤ 8 + 16 * S.length
theorem OpS.new {P : List (List Nat)} {n : Nat} {x y z an : List Nat} (hx : ∀ v ∈ x, v < n) (h8 : n ≤ 8) : OpS P n x y z an [] ((memU x 8).map fun u => (u, true)) := by
  refine ⟨fun p hp => ?_, List.nodup_nil, (fun p hp => by cases hp), (fun p hp => by cases hp), fun v hv => .inr (List.mem_map.2 ⟨v, memU_mem.2 ⟨by have := hx v hv; omega, hv⟩, rfl⟩), ?_⟩
  · rcases hp with hp | hp
    · cases hp
    · obtain ⟨v, hv, rfl⟩ := List.mem_map.1 hp
      exact ⟨hx v (memU_mem.1 hv).2, .start (memU_mem.1 hv).2⟩
  · have := memU_len x 8
    rw [List.length_map, List.length_nil]
    omega
/-- It was met before. -/
theorem OpS.skip {P : List (List Nat)} {n : Nat} {x y z an : List Nat} {S T : List (Nat × Bool)} {p : Nat × Bool} (h : OpS P n x y z an S (T ++ [p])) (hp : p ∈ S) : OpS P n x y z an S T := by
  have sub : ∀ q, q ∈ S ∨ q ∈ T ++ [p] → q ∈ S ∨ q ∈ T := fun q hq => by
    rcases hq with hq | hq
    · exact .inl hq
    · rcases List.mem_append.1 hq with hq | hq
      · exact .inr hq
      · rw [List.mem_singleton.1 hq]; exact .inl hp
  refine ⟨fun q hq => h.low q (hq.imp id fun hq => List.mem_append_left _ hq), h.nd, h.noy, fun q hq r hr => sub r (h.suc q hq r hr), fun v hv => sub _ (h.start v hv), ?_⟩
  have := h.len
  rw [List.length_append, List.length_singleton] at this
  omega
/-- It is new. -/
theorem OpS.add {P : List (List Nat)} {n : Nat} {x y z an : List Nat} (hP : ∀ v, ∀ u ∈ P.getD v [], u < n ∧ v < n) {S T : List (Nat × Bool)} {p : Nat × Bool} (h : OpS P n x y z an S (T ++ [p])) (hp : ¬ p ∈ S) (hy : ¬ p.1 ∈ y) : OpS P n x y z an (p :: S) (T ++ sucC P n z an p) := by
  obtain ⟨hpl, hpr⟩ := h.low p (.inr (List.mem_append_right _ List.mem_cons_self))
  have sub : ∀ q, q ∈ S ∨ q ∈ T ++ [p] → q ∈ p :: S ∨ q ∈ T ++ sucC P n z an p := fun q hq => by
    rcases hq with hq | hq
    · exact .inl (List.mem_cons_of_mem _ hq)
    · rcases List.mem_append.1 hq with hq | hq
      · exact .inr (List.mem_append_left _ hq)
      · rw [List.mem_singleton.1 hq]; exact .inl List.mem_cons_self
  have hsuc : ∀ q ∈ sucC P n z an p, q.1 < n ∧ RcW (fun u v => u ∈ P.getD v []) (· ∈ x) (· ∈ z) (· ∈ an) q.1 q.2 := fun q hq => by
    rcases List.mem_append.1 hq with hq | hq
    · by_cases hc : (p.2 && !decide (p.1 ∈ z) || !p.2 && decide (p.1 ∈ an)) = true
      · rw [if_pos hc] at hq
        obtain ⟨u, hu, rfl⟩ := List.mem_map.1 hq
        have hu' := (memU_mem.1 hu).2
        refine ⟨(hP _ _ hu').1, ?_⟩
        obtain ⟨v, c⟩ := p
        cases c with
        | true =>
          have hz : ¬ v ∈ z := fun hz => by simp [hz] at hc
          exact .up hpr hz hu'
        | false =>
          have ha : v ∈ an := by simpa using hc
          exact .meet hpr ha hu'
      · rw [if_neg hc] at hq; cases hq
    · by_cases hz : p.1 ∈ z
      · rw [if_pos hz] at hq; cases hq
      · rw [if_neg hz] at hq
        obtain ⟨u, hu, rfl⟩ := List.mem_map.1 hq
        obtain ⟨h1, h2⟩ := chL_mem.1 (memU_mem.1 hu).2
        exact ⟨h1, .down hpr hz h2⟩
  refine ⟨fun q hq => ?_, List.nodup_cons.2 ⟨hp, h.nd⟩, fun q hq => ?_, fun q hq r hr => ?_, fun v hv => sub _ (h.start v hv), ?_⟩
  · rcases hq with hq | hq
    · rcases List.mem_cons.1 hq with rfl | hq
      · exact ⟨hpl, hpr⟩
      · exact h.low q (.inl hq)
    · rcases List.mem_append.1 hq with hq | hq
      · exact h.low q (.inr (List.mem_append_left _ hq))
      · exact hsuc q hq
  · rcases List.mem_cons.1 hq with rfl | hq
    · exact hy
    · exact h.noy q hq
  · rcases List.mem_cons.1 hq with rfl | hq
    · exact .inr (List.mem_append_right _ hr)
    · exact sub r (h.suc q hq r hr)
  · have h1 := h.len
    have h2 : (sucC P n z an p).length ≤ 16 := by
      have a1 := memU_len (P.getD p.1 []) 8
      have a2 := memU_len (chL P p.1 n) 8
      rw [sucC, List.length_append]
      split <;> split <;> simp only [List.length_map, List.length_nil] <;> omega
    rw [List.length_append, List.length_singleton] at h1
    rw [List.length_append, List.length_cons]
    omega
/-- Nothing waits: all that is come to was met. -/
theorem OpS.fin {P : List (List Nat)} {n : Nat} {x y z an : List Nat} (hP : ∀ v, ∀ u ∈ P.getD v [], u < n ∧ v < n) (h8 : n ≤ 8) {S : List (Nat × Bool)} (h : OpS P n x y z an S []) : ¬ ∃ v c, v ∈ y ∧ RcW (fun u v => u ∈ P.getD v []) (· ∈ x) (· ∈ z) (· ∈ an) v c := by
  have key : ∀ v c, RcW (fun u v => u ∈ P.getD v []) (· ∈ x) (· ∈ z) (· ∈ an) v c → (v, c) ∈ S := fun v c hr => by
    have sub : ∀ p q, p ∈ S → q ∈ sucC P n z an p → q ∈ S := fun p q hp hq => (h.suc p hp q hq).elim id fun h => by cases h
    induction hr using RcW.ind with
    | start hx => exact (h.start _ hx).elim id fun h => by cases h
    | @up v p _ hz hp ih => exact sub _ _ ih (List.mem_append_left _ (by
        rw [if_pos (by simp [hz])]
        exact List.mem_map.2 ⟨p, memU_mem.2 ⟨by have := (hP _ _ hp).1; omega, hp⟩, rfl⟩))
    | @down v w c _ hz hp ih => exact sub _ _ ih (List.mem_append_right _ (by
        rw [if_neg hz]
        exact List.mem_map.2 ⟨w, memU_mem.2 ⟨by have := (hP _ _ hp).2; omega, chL_mem.2 ⟨(hP _ _ hp).2, hp⟩⟩, rfl⟩))
    | @meet v p _ ha hp ih => exact sub _ _ ih (List.mem_append_left _ (by
        rw [if_pos (by simp [ha])]
        exact List.mem_map.2 ⟨p, memU_mem.2 ⟨by have := (hP _ _ hp).1; omega, hp⟩, rfl⟩))
  rintro ⟨v, c, hy, hr⟩
  exact h.noy _ (key v c hr) hy
theorem OpS.few {P : List (List Nat)} {n : Nat} {x y z an : List Nat} {S W : List (Nat × Bool)} (h : OpS P n x y z an S W) (h8 : n ≤ 8) : S.length ≤ 16 := by
  have hnd : (S.map fun p => p.1 * 2 + (if p.2 = true then 1 else 0)).Nodup := List.pairwise_map.2 (h.nd.imp fun {a b} hab e => hab (by
    obtain ⟨a1, a2⟩ := a
    obtain ⟨b1, b2⟩ := b
    cases a2 <;> cases b2 <;> simp at e ⊢ <;> omega))
  have := nd_len hnd (m := List.range 16) fun v hv => by
    obtain ⟨p, hp, rfl⟩ := List.mem_map.1 hv
    have := (h.low p (.inl hp)).1
    refine List.mem_range.2 ?_
    split <;> omega
  simpa using this
end Go.Proofs.Ytockhhleapbpiaa

