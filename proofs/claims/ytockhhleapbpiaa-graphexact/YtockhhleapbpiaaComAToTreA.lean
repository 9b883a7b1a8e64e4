/- Package graph: comings. -/
import Derived.Test.YtockhhleapbpiaaSliBToListA
import Derived.Test.YtockhhleapbpiaaFilAOwn
import Derived.Test.YtockhhleapbpiaaTabR1ToTabR3
namespace Go.Proofs.Ytockhhleapbpiaa
open Go.RowKit Go.Shelf

attribute [local go_sem] Oper.semAt_some

/-- An append leaves a row where it was, or makes a new block. -/
theorem run_append_new {P : Program} (w : World) (base : Nat) (t ty e : TypeId) (i : TypeInfo) (z : Value) (size bytes : Nat) (ht : P.underlying t = some (.slice e)) (hi : P.info? e = some i) (hz : i.zero = some z) (hsize : i.size = size) (hby : i.bytes = bytes) (hzs : z.cells.size = size) (hsz : 0 < size)
    (v : Value) (n : Nat) (xs : List Value) (hown : w.ownsRow base e size v n xs) (a : Addr) (m c : Nat) (news : List Value) (hl : news.length = m * size) (hnews : ∀ j u, news[j]? = some u → w.cell? (a.add j) = some u) (h1 : ∀ u ∈ news, u.oneCell' = true)
    (h63 : n + m ≤ maxLen) (hbytes : (n + m) * bytes ≤ 140737488355328) (hbase : base ≤ w.heap.size) (hm : 0 < m) :
    ∃ v' w', (Builtin.append_ #[t, t] ty #[v, .slice (some a) m c]).run P w = .ok v' w' ∧ w'.ownsRow base e size v' (n + m) (xs ++ news) ∧ w.grownBy w' v.ownBlock ∧ (v'.ownBlock = v.ownBlock ∨ ∀ k, v'.ownBlock = some k → w.heap.size ≤ k) := by
  obtain ⟨v', w', hr, h2, h3, -⟩ := run_append_own (P := P) w base t ty e i z size bytes ht hi hz hsize hby hzs hsz v n xs hown a m c news hl hnews h1 h63 hbytes hbase
  refine ⟨v', w', hr, h2, h3, ?_⟩
  have hsmall : n + m ≤ 9223372036854775807 := by simp only [maxLen] at h63; omega
  subst hsize
  subst hby
  rcases hown.2 with ⟨h4, h5⟩ | ⟨g', cap, cur, h4, hbg, hg', hnc, hcm, hcs, htake⟩
  · right
    have e' := run_append_nil (P := P) w t ty e i z ht hi hz a m c news hl hnews hm (by omega) (by
      have hb := hbytes
      rw [h5, Nat.zero_add] at hb
      omega)
    rw [h4] at hr
    rw [hr] at e'
    cases e'
    intro k hk
    cases hk
    exact Nat.le_refl _
  · rw [h4] at hr
    by_cases hroom : n + m ≤ cap
    · left
      have hfit : n * i.size + news.length ≤ cur.size := by rw [hl, hcs, ← Nat.add_mul]; exact Nat.mul_le_mul_right _ hroom
      have e' := run_append_room (P := P) w t ty e i ht hi g' n cap cur hg' a m c news hl hnews h1 hroom hfit
      rw [hr] at e'
      cases e'
      rw [h4]; rfl
    · right
      have hown' := hown
      rw [h4] at hown'
      have e' := run_append_grow (P := P) w t ty e i z ht hi hz ⟨g', 0, none⟩ n cap xs hown'.1 (World.ownsRow.cells hown' rfl) a m c news hl hnews (by omega) (by omega) (growslice_fits (by omega) hbytes)
      rw [hr] at e'
      cases e'
      intro k hk
      cases hk
      exact Nat.le_refl _
theorem wpListIn_append_new {F : Fence} {n : Nat} {P : Program} (w : World) {ops : Array Oper} {rest : List Oper} {o : Oper} {a : Act} {Q : Exit → Act → World → Prop}
    (hg : o.guard = none) (s x : Operand) (t : TypeId) (hop : o.op = Op.call { callee := Callee.builtin Builtin.append, args := #[s, x], argTypes := #[t, t] })
    (base : Nat) (e : TypeId) (i : TypeInfo) (z : Value) (size bytes : Nat) (h1 : P.underlying t = some (.slice e)) (h2 : P.info? e = some i) (h3 : i.zero = some z) (h4 : i.size = size) (h5 : i.bytes = bytes) (h6 : z.cells.size = size) (h7 : 0 < size)
    (v : Value) (k : Nat) (xs : List Value) (hs : a.eval s = v) (hown : w.ownsRow base e size v k xs) (ad : Addr) (m c : Nat) (news : List Value) (hx : a.eval x = .slice (some ad) m c) (hn : news.length = m * size)
    (hc : ∀ j u, news[j]? = some u → w.cell? (ad.add j) = some u) (h1c : ∀ u ∈ news, u.oneCell' = true) (b1 : k + m ≤ maxLen) (b2 : (k + m) * bytes ≤ 140737488355328) (b3 : base ≤ w.heap.size) (hm : 0 < m)
    (hK : ∀ v' w', w'.ownsRow base e size v' (k + m) (xs ++ news) → w.grownBy w' v.ownBlock → (v'.ownBlock = v.ownBlock ∨ ∀ k, v'.ownBlock = some k → w.heap.size ≤ k) → wpListIn F n P ops Q rest (a.put o.dst v') w') :
    wpListIn F n P ops Q (o :: rest) a w := by
  refine wpListIn_plain hg fun K hK' => ?_
  obtain ⟨v', w', hrun, r1, r2, r3⟩ := run_append_new (P := P) w base t o.type e i z size bytes h1 h2 h3 h4 h5 h6 h7 v k xs hown ad m c news hn hc h1c b1 b2 b3 hm
  unfold Oper.wpIn
  refine ⟨?_, ?_⟩
  · simp [Oper.about, hop, resolve, Target.leads, Sem.run_pure]
  · rw [Oper.semAt_plain F _ _ (by rw [hop]; intro c hc'; cases hc')]
    simp [execOp, hop, resolve, invoke, builtin, hs, hx, hrun, Result.andThen]
    exact hK' _ _ (hK v' w' r1 r2 r3)
/-- How a way comes to nodes, as it lies there. -/
def cmC : List (Nat × Bool) → List Value
  | [] => []
  | p :: l => .int .i64 (p.1 : Nat) :: .bool p.2 :: cmC l
theorem cmC_length : ∀ l, (cmC l).length = l.length * 2
  | [] => rfl
  | p :: l => by
    show (cmC l).length + 1 + 1 = (l.length + 1) * 2
    rw [cmC_length l]; omega
theorem cmC_append (m : List (Nat × Bool)) : ∀ l, cmC (l ++ m) = cmC l ++ cmC m
  | [] => rfl
  | q :: l => by
    show _ :: _ :: cmC (l ++ m) = _ :: _ :: (cmC l ++ cmC m)
    rw [cmC_append m l]
def OwC (w : World) (B : Nat) (v : Value) (l : List (Nat × Bool)) : Prop := w.ownsRow B 93 2 v l.length (cmC l)
theorem Try.infoComing : (Try.prog.info? 93).map (fun i => (i.zero, i.size, i.bytes)) = some (some (.agg #[.int .i64 0, .bool false]), 2, 16) := by kernel_rfl
/-- Where a row grows, or its like anew. -/
def GrS (w V : World) (lv v : Value) : Prop := w.grownBy V lv.ownBlock ∧ (v.ownBlock = lv.ownBlock ∨ ∀ g, v.ownBlock = some g → w.heap.size ≤ g)
theorem ownFrom_grownO {β : Type} {w : World} {row : Option Nat} {B : Nat} (hB : w.heap.size ≤ B) : OwnFrom B (fun (_ : β) W => w.grownBy W row) := fun _ W W' r hs hg hr => ⟨hg.os.trans hs.os, hg.tape.trans hs.tape, hg.output.trans hs.output, Nat.le_trans hs.size hg.size, fun k hk hne => (hg.block k (Nat.lt_of_lt_of_le hk hs.size) (fun e => by
  have := (hr k e.symm).1
  omega)).trans (hs.block k hk hne)⟩
theorem two_new (w : World) (a b : Value) (t : TypeId) : ∀ j u, [a, b][j]? = some u → (w.alloc (.cells #[a, b] t)).cell? ((⟨w.heap.size, 0, none⟩ : Addr).add j) = some u := fun j u hj => by
  have h := heap_alloc_new w (.cells #[a, b] t)
  match j, hj with
  | 0, hj => cases hj; exact (cell_of_row _ w.heap.size 0 _ _ (0, 0) h).trans rfl
  | 1, hj => cases hj; exact (cell_of_row _ w.heap.size 1 _ _ (0, 0) h).trans rfl
  | j + 2, hj => simp at hj
/-- The frame goes on where a row that is the same, or new, grows. -/
theorem GrS.more {w V V' : World} {lv v v' : Value} {tmp : Obj} (h : GrS w V lv v) (hg : (V.alloc tmp).grownBy V' v.ownBlock) (hn : v'.ownBlock = v.ownBlock ∨ ∀ k, v'.ownBlock = some k → (V.alloc tmp).heap.size ≤ k) (b j : Nat) (hb : w.heap.size ≤ b) (y : Value) : GrS w (V'.setCell ⟨b, j, none⟩ y) lv v' := by
  have hs := h.1.size
  have ha : V.heap.size ≤ (V.alloc tmp).heap.size := ((Below.refl V.heap.size V).alloc (Nat.le_refl _) tmp).size
  refine ⟨⟨hg.os.trans h.1.os, hg.tape.trans h.1.tape, hg.output.trans h.1.output, Nat.le_trans (Nat.le_trans hs ha) (Nat.le_trans hg.size (by simp)), fun k hk hne => ?_⟩, ?_⟩
  · refine (Below.heap_setCell V' ⟨b, j, none⟩ y k (by show k ≠ b; omega)).trans ((hg.block k (by omega) fun e => ?_).trans ((((Below.refl V.heap.size V).alloc (Nat.le_refl _) tmp).block k (by omega)).trans (h.1.block k hk hne)))
    rcases h.2 with h2 | h2
    · exact hne (by rw [e, h2])
    · have := h2 k e.symm
      omega
  · rcases hn with hn | hn
    · rcases h.2 with h2 | h2
      · exact .inl (hn.trans h2)
      · exact .inr fun g hg' => h2 g (by rw [← hn]; exact hg')
    · exact .inr fun g hg' => by
        have := hn g hg'
        omega

set_option maxRecDepth 100000 in
set_option maxHeartbeats 1000000 in
theorem comings_any (B : Nat) (lv : Value) (l : List (Nat × Bool)) (s : List Nat) (c : Bool) (w : World) (hs : ∀ u ∈ s, u < 8) (hl : OwC w B lv l) (hll : l.length ≤ 1000) (hB : B ≤ w.heap.size) :
    Calls Try.prog 74 #[lv, .int .u32 (mskN s : Nat), .bool c] w fun e w' => ∃ v, e = .returned v ∧ OwC w' B v (l ++ (memU s 8).map fun u => (u, c)) ∧ GrS w w' lv v := by
  refine (callsIn_wide (n := 6)).1 ?_
  obtain ⟨i0, hi, hz0, hz1, hz2⟩ := info_parts Try.infoComing
  obtain ⟨dl, nl, cl, rfl⟩ : ∃ d n c, lv = .slice d n c := by
    rcases hl.2 with ⟨h1, -⟩ | ⟨g, cap, cur, h1, -⟩
    · exact ⟨_, _, _, h1⟩
    · exact ⟨_, _, _, h1⟩
  refine callsIn_of_wp_marks Try.func74 rfl trivial ?_ rfl
  simp only [Try.ntmps74, List.size_toArray, List.length_cons, List.length_nil, Nat.reduceAdd, Nat.reduceSub, Array.replicate_succ, Array.replicate_zero, List.push_toArray, List.append_toArray, List.nil_append, List.cons_append]
  have HL := hid hl
  clear hl
  gi_wp2_with fail
  have bO := Boxed.new w 90 (.slice dl nl cl)
  have bO2 := bO.alloc (.cells #[.bool c] 4)
  have bC := Boxed.new (w.alloc (.cells #[.slice dl nl cl] 90)) 4 (.bool c)
  have hA1 := (Below.refl w.heap.size w).alloc (Nat.le_refl _) (.cells #[.slice dl nl cl] 90)
  have hsz1 : (w.alloc (.cells #[.slice dl nl cl] 90)).heap.size = w.heap.size + 1 := by simp
  have hA2 := hA1.alloc hA1.size (.cells #[.bool c] 4)
  rw [hsz1] at bC
  have hg0 : w.grownBy ((w.alloc (.cells #[.slice dl nl cl] 90)).alloc (.cells #[.bool c] 4)) (Value.slice dl nl cl).ownBlock := ⟨hA2.os, hA2.tape, hA2.output, hA2.size, fun k hk _ => hA2.block k hk⟩
  refine wp_each (by omega) s hs rfl rfl
    (fun k V => (∃ v, Boxed V w.heap.size 90 v ∧ V.ownsRow B 93 2 v (l ++ (memU s k).map fun u => (u, c)).length (cmC (l ++ (memU s k).map fun u => (u, c))) ∧ (v.ownBlock = (Value.slice dl nl cl).ownBlock ∨ ∀ g, v.ownBlock = some g → w.heap.size ≤ g)) ∧ Boxed V (w.heap.size + 1) 4 (.bool c) ∧ w.grownBy V (Value.slice dl nl cl).ownBlock)
    (OwnFrom.and (Own.from (holdsRow_own B w.heap.size 90 93 2 (fun k : Nat => (l ++ (memU s k).map fun u => (u, c)).length) (fun k => cmC (l ++ (memU s k).map fun u => (u, c))) (fun _ v => v.ownBlock = (Value.slice dl nl cl).ownBlock ∨ ∀ g, v.ownBlock = some g → w.heap.size ≤ g)) _) (OwnFrom.and (Own.from (boxed_own (w.heap.size + 1) 4 (fun _ : Nat => .bool c)) _) (ownFrom_grownO hA2.size)))
    ⟨⟨_, bO2, by simpa [memU] using (World.ownsRow.alloc (World.ownsRow.alloc HL.out _) _), .inl rfl⟩, bC, hg0⟩
    (fun k => { tmps := #[.slice dl nl cl, .int .u32 (mskN s : Nat), .bool c, .pointer (some ⟨w.heap.size, 0, none⟩), undef, .pointer (some ⟨w.heap.size + 1, 0, none⟩), .slice none 0 0, .int .i64 (k : Nat), .int .u32 (mskN s : Nat), .func (.func 47) #[.int .u32 (mskN s : Nat)] #[], .int .i64 (k : Nat), undef, undef, undef, undef, undef, undef, undef], defers := [] }) ?assign ?body ?skip ?done
  case assign =>
    intro l k W K hK
    gi_wp2
    exact hK
  case body =>
    rintro r k V hk hm ⟨⟨v, hv, hrow, hsf⟩, hvc, hgr⟩
    have hc := hv.cell
    have hcc := hvc.cell
    have hm8 := memU_len s k
    have hlen : (l ++ (memU s k).map fun u => (u, c)).length ≤ 1008 := by rw [List.length_append, List.length_map]; omega
    have hBV : B ≤ V.heap.size := Nat.le_trans hB hgr.size
    have HG : GrS w V (Value.slice dl nl cl) v := ⟨hgr, hsf⟩
    generalize hLL : (l ++ (memU s k).map fun u => (u, c)) = LL at *
    gi_wp2_with (gi_at_builtin; refine wpListIn_append_new _ rfl _ _ 90 rfl B 93 i0 (.agg #[.int .i64 0, .bool false]) 2 16 Try.underlying90 hi hz0 hz1 hz2 rfl (by decide) _ _ _ rfl (hrow.alloc _) ⟨V.heap.size, 0, none⟩ 1 1 [.int .i64 (k : Nat), .bool c] rfl rfl (two_new _ _ _ _) (by simp [Value.oneCell']) (by unfold maxLen; omega) (by omega) (by simp; omega) (by decide) ?_; intro v' w3 hown' hgrow hnew; obtain ⟨g', cap', rfl⟩ := ownsRow_succ hown'; obtain ⟨hv1, hv2, hr2, hk2, hb2⟩ := hv.appended (by decide) hrow hBV hB hown' hgrow; have hc1 := hv1.cell; have hf1 := hv1.frozen)
    have hvc1 : Boxed w3 (w.heap.size + 1) 4 (.bool c) := (hvc.alloc _).kept hgrow (hvc.not_row (by decide) hrow)
    have hG2 := HG.more hgrow hnew w.heap.size 0 (Nat.le_refl _) (.slice (some ⟨g', 0, none⟩) (LL.length + 1) cap')
    have eLL : (l ++ (memU s (k + 1)).map fun u => (u, c)) = LL ++ [(k, c)] := by rw [memU_yes hm, List.map_append, ← List.append_assoc, hLL]; rfl
    refine ⟨hk2.from _, ⟨⟨_, hv2, ?_, hG2.2⟩, boxed_offB hvc1 w.heap.size 0 _ (by omega), hG2.1⟩⟩
    rw [eLL, List.length_append, cmC_append]
    exact hr2
  case skip =>
    rintro k V hk hm h
    rwa [memU_no hm]
  case done =>
    rintro D V hD ⟨⟨v, hv, hrow, hsf⟩, hvc, hgr⟩ hK
    have hc := hv.cell
    gi_wp2
    refine ⟨by simp, .inl ⟨_, _, rfl, run_takeDeferred hK, ?_⟩⟩
    refine ⟨_, results_tmp rfl _ _ _, v, rfl, ownsRow_putObj hrow _ hK rfl, ⟨hgr.os, hgr.tape, hgr.output, Nat.le_trans hgr.size (by simp), fun k hk hne => (World.putObj_heap_other (by simp at hD; omega)).trans (hgr.block k hk hne)⟩, hsf⟩
end Go.Proofs.Ytockhhleapbpiaa


/- Plain: cliques that are linked: a link may be put in another's place (what makes the tree of cliques). -/
namespace Go.Proofs.Ytockhhleapbpiaa

/-- Two that are linked. -/
def AdjE {α : Type} (E : List (α × α)) (x y : α) : Prop := (x, y) ∈ E ∨ (y, x) ∈ E
theorem AdjE.symm {α : Type} {E : List (α × α)} {x y : α} (h : AdjE E x y) : AdjE E y x := h.elim .inr .inl
/-- A way along links through such alone. -/
def WayE {α : Type} (E : List (α × α)) (P : α → Prop) (x y : α) : Prop := ∀ M : α → α → Prop, (∀ x, P x → M x x) → (∀ x y z, P x → AdjE E x y → M y z → M x z) → M x y
theorem WayE.here {α : Type} {E : List (α × α)} {P : α → Prop} {x : α} (h : P x) : WayE E P x x := fun _ h1 _ => h1 _ h
theorem WayE.step {α : Type} {E : List (α × α)} {P : α → Prop} {x y z : α} (h : P x) (ha : AdjE E x y) (hw : WayE E P y z) : WayE E P x z := fun M h1 h2 => h2 _ _ _ h ha (hw M h1 h2)
theorem WayE.ind {α : Type} {E : List (α × α)} {P : α → Prop} {M : ∀ x y, WayE E P x y → Prop} (here : ∀ {x : α} (h : P x), M x x (.here h)) (step : ∀ {x y z : α} (h : P x) (ha : AdjE E x y) (hw : WayE E P y z), M y z hw → M x z (.step h ha hw)) : ∀ {x y : α} (h : WayE E P x y), M x y h := fun {_ _} h => by
  obtain ⟨_, k⟩ := h (fun x y => ∃ h, M x y h) (fun _ h => ⟨_, here h⟩) (fun _ _ _ h ha ⟨_, ih⟩ => ⟨_, step h ha _ ih⟩)
  exact k
theorem WayE.fst {α : Type} {E : List (α × α)} {P : α → Prop} {x y : α} (h : WayE E P x y) : P x := by
  induction h using WayE.ind with
  | here h => exact h
  | step h _ _ _ => exact h
theorem WayE.lst {α : Type} {E : List (α × α)} {P : α → Prop} {x y : α} (h : WayE E P x y) : P y := by
  induction h using WayE.ind with
  | here h => exact h
  | step _ _ _ ih => exact ih
theorem WayE.trans {α : Type} {E : List (α × α)} {P : α → Prop} {x y z : α} (h : WayE E P x y) (h' : WayE E P y z) : WayE E P x z := by
  induction h using WayE.ind with
  | here _ => exact h'
  | step hp ha _ ih => exact .step hp ha (ih h')
theorem WayE.back {α : Type} {E : List (α × α)} {P : α → Prop} {x y : α} (h : WayE E P x y) : WayE E P y x := by
  induction h using WayE.ind with
  | here h => exact .here h
  | step hp ha hw ih => exact ih.trans (.step hw.fst ha.symm (.here hp))
theorem WayE.weak {α : Type} {E : List (α × α)} {P Q : α → Prop} {x y : α} (h : WayE E P x y) (hq : ∀ z, P z → Q z) : WayE E Q x y := by
  induction h using WayE.ind with
  | here h => exact .here (hq _ h)
  | step hp ha _ ih => exact .step (hq _ hp) ha ih
/-- Each is linked to the next. -/
def ChnE {α : Type} (E : List (α × α)) : List α → Prop
  | [] => True
  | x :: l => (∀ y, l.head? = some y → AdjE E x y) ∧ ChnE E l
theorem ChnE.right {α : Type} {E : List (α × α)} : ∀ {s t : List α}, ChnE E (s ++ t) → ChnE E t
  | [], _, h => h
  | _ :: _, _, h => ChnE.right h.2
theorem ChnE.left {α : Type} {E : List (α × α)} : ∀ {s t : List α}, ChnE E (s ++ t) → ChnE E s
  | [], _, _ => trivial
  | [x], t, _ => ⟨fun y h => by simp at h, trivial⟩
  | x :: y :: s, t, h => ⟨fun z hz => h.1 z hz, ChnE.left (s := y :: s) h.2⟩
/-- A way that comes to none twice. -/
theorem WayE.plain {α : Type} [DecidableEq α] {E : List (α × α)} {P : α → Prop} {x y : α} (h : WayE E P x y) : ∃ l, (x :: l).Nodup ∧ ChnE E (x :: l) ∧ (∀ z ∈ x :: l, P z) ∧ (x :: l).getLast? = some y := by
  induction h using WayE.ind with
  | @here x h => exact ⟨[], by simp, ⟨fun y h => by simp at h, trivial⟩, by simpa using h, rfl⟩
  | @step x y z hp ha _ ih =>
    obtain ⟨l, h1, h2, h3, h4⟩ := ih
    by_cases hx : x ∈ y :: l
    · obtain ⟨s, t, e⟩ := List.append_of_mem hx
      rw [e] at h1 h2 h3 h4
      refine ⟨t, (List.nodup_append.1 h1).2.1, h2.right, fun z hz => h3 z (List.mem_append.2 (.inr hz)), ?_⟩
      rw [List.getLast?_append] at h4
      cases hl : (x :: t).getLast? with
      | none => simp at hl
      | some w => rw [hl] at h4; simpa using h4
    · refine ⟨y :: l, List.nodup_cons.2 ⟨hx, h1⟩, ⟨fun w hw => ?_, h2⟩, fun z hz => ?_, ?_⟩
      · simp only [List.head?_cons, Option.some.injEq] at hw
        rw [← hw]; exact ha
      · rcases List.mem_cons.1 hz with rfl | hz
        · exact hp
        · exact h3 z hz
      · rw [List.getLast?_cons_cons]; exact h4
/-- Along a list. -/
theorem ChnE.way {α : Type} {E : List (α × α)} {P : α → Prop} : ∀ {l : List α} {x y : α}, ChnE E (x :: l) → (∀ z ∈ x :: l, P z) → (x :: l).getLast? = some y → WayE E P x y
  | [], x, y, _, h2, h3 => by
    simp only [List.getLast?_singleton, Option.some.injEq] at h3
    rw [← h3]; exact .here (h2 x List.mem_cons_self)
  | z :: l, x, y, h1, h2, h3 => by
    rw [List.getLast?_cons_cons] at h3
    exact .step (h2 x List.mem_cons_self) (h1.1 z rfl) (ChnE.way h1.2 (fun w hw => h2 w (List.mem_cons_of_mem _ hw)) h3)
/-- Where a list leaves a set. -/
theorem leave {α : Type} {W : α → Prop} : ∀ {l : List α} {x y : α}, W x → ¬ W y → (x :: l).getLast? = some y → ∃ p c d s, x :: l = p ++ c :: d :: s ∧ W c ∧ ¬ W d
  | [], x, y, hx, hy, h => by
    simp only [List.getLast?_singleton, Option.some.injEq] at h
    exact absurd (h ▸ hx) hy
  | z :: l, x, y, hx, hy, h => by
    rw [List.getLast?_cons_cons] at h
    by_cases hz : W z
    · obtain ⟨p, c, d, s, e, hc, hd⟩ := leave hz hy h
      exact ⟨x :: p, c, d, s, by rw [e]; rfl, hc, hd⟩
    · exact ⟨[], x, z, l, rfl, hx, hz⟩
/-- All that have some are linked through such alone. -/
def CnE {α : Type} (has : α → Nat → Prop) (K : α → Prop) (E : List (α × α)) : Prop := ∀ (X : Nat → Prop) x y, K x → K y → (∀ v, X v → has x v) → (∀ v, X v → has y v) → WayE E (fun c => ∀ v, X v → has c v) x y
/-- A link is taken out, another put in. -/
def swapE {α : Type} [DecidableEq α] (E : List (α × α)) (c d a b : α) : List (α × α) := (E.filter fun e => !(decide (e = (c, d)) || decide (e = (d, c)))) ++ [(a, b)]
theorem swapE_in {α : Type} [DecidableEq α] {E : List (α × α)} {c d a b x y : α} (h : AdjE E x y) (h1 : ¬ (x = c ∧ y = d)) (h2 : ¬ (x = d ∧ y = c)) : AdjE (swapE E c d a b) x y := by
  rcases h with h | h
  · refine .inl (List.mem_append.2 (.inl (List.mem_filter.2 ⟨h, ?_⟩)))
    simp only [Prod.mk.injEq, Bool.not_eq_true', Bool.or_eq_false_iff, decide_eq_false_iff_not]
    exact ⟨h1, h2⟩
  · refine .inr (List.mem_append.2 (.inl (List.mem_filter.2 ⟨h, ?_⟩)))
    simp only [Prod.mk.injEq, Bool.not_eq_true', Bool.or_eq_false_iff, decide_eq_false_iff_not]
    exact ⟨fun e => h2 ⟨e.2, e.1⟩, fun e => h1 ⟨e.2, e.1⟩⟩
theorem swapE_chn {α : Type} [DecidableEq α] {E : List (α × α)} {c d a b : α} : ∀ {l : List α}, ChnE E l → (¬ c ∈ l ∨ ¬ d ∈ l) → ChnE (swapE E c d a b) l
  | [], _, _ => trivial
  | x :: l, h, hn => by
    refine ⟨fun y hy => ?_, swapE_chn h.2 (hn.imp (fun h e => h (List.mem_cons_of_mem _ e)) (fun h e => h (List.mem_cons_of_mem _ e)))⟩
    have hyl : y ∈ l := List.mem_of_mem_head? hy
    refine swapE_in (h.1 y hy) (fun e => ?_) (fun e => ?_)
    · rcases hn with hn | hn
      · exact hn (e.1 ▸ List.mem_cons_self)
      · exact hn (e.2 ▸ List.mem_cons_of_mem _ hyl)
    · rcases hn with hn | hn
      · exact hn (e.2 ▸ List.mem_cons_of_mem _ hyl)
      · exact hn (e.1 ▸ List.mem_cons_self)
/-- Of those that go out of a set, one with the most in common may be taken. -/
theorem CnE.swap {α : Type} [DecidableEq α] {has : α → Nat → Prop} {K : α → Prop} {E : List (α × α)} (h : CnE has K E) (hE : ∀ x y, AdjE E x y → K x ∧ K y) {W : α → Prop} {a b : α} (ha : K a) (hb : K b) (hWa : W a) (hWb : ¬ W b)
    (hmax : ∀ c d, K c → K d → W c → ¬ W d → (∀ v, has a v → has b v → has c v ∧ has d v) → ∀ v, has c v → has d v → has a v ∧ has b v) :
    ∃ c d, W c ∧ ¬ W d ∧ AdjE E c d ∧ CnE has K (swapE E c d a b) := by
  obtain ⟨l, h1, h2, h3, h4⟩ := (h (fun v => has a v ∧ has b v) a b ha hb (fun v h => h.1) (fun v h => h.2)).plain
  obtain ⟨p, c, d, s, e, hc, hd⟩ := leave hWa hWb h4
  rw [e] at h1 h2 h3 h4
  have hcd : AdjE E c d := (ChnE.right h2).1 d rfl
  have hx0 : ∀ v, has c v → has d v → has a v ∧ has b v := hmax c d (hE c d hcd).1 (hE c d hcd).2 hc hd fun v h5 h6 => ⟨h3 c (by simp) v ⟨h5, h6⟩, h3 d (by simp) v ⟨h5, h6⟩⟩
  obtain ⟨n1, n2, n3⟩ := List.nodup_append.1 h1
  rw [List.nodup_cons] at n2
  -- From a to c, and from d to b.
  have hpre : ChnE (swapE E c d a b) (p ++ [c]) := swapE_chn (ChnE.left (t := d :: s) (by simpa using h2)) (.inr fun hm => by
    rcases List.mem_append.1 hm with hm | hm
    · exact n3 d hm d (by simp) rfl
    · exact n2.1 (by rw [← List.mem_singleton.1 hm]; exact List.mem_cons_self))
  have hsuf : ChnE (swapE E c d a b) (d :: s) := swapE_chn (ChnE.right (s := p ++ [c]) (by simpa using h2)) (.inl n2.1)
  have hab : AdjE (swapE E c d a b) a b := .inl (List.mem_append.2 (.inr List.mem_cons_self))
  refine ⟨c, d, hc, hd, hcd, fun X x y hx hy hXx hXy => ?_⟩
  -- The link that is gone is gone round.
  have round : (∀ v, X v → has c v) → (∀ v, X v → has d v) → WayE (swapE E c d a b) (fun c => ∀ v, X v → has c v) c d := fun hXc hXd => by
    have hall : ∀ z, z ∈ p ++ c :: d :: s → ∀ v, X v → has z v := fun z hz v hv => h3 z hz v (hx0 v (hXc v hv) (hXd v hv))
    have w1 : WayE (swapE E c d a b) (fun c => ∀ v, X v → has c v) a c := by
      cases p with
      | nil =>
        have ea : a = c := by simpa using (List.cons.inj e).1
        rw [ea]; exact .here hXc
      | cons q p =>
        obtain rfl : q = a := (List.cons.inj e).1.symm
        exact ChnE.way (l := p ++ [c]) hpre (fun z hz => hall z (by
          have : z ∈ (q :: p) ++ [c] := hz
          rcases List.mem_append.1 this with hm | hm
          · exact List.mem_append.2 (.inl hm)
          · exact List.mem_append.2 (.inr (by rw [List.mem_singleton.1 hm]; exact List.mem_cons_self)))) (by rw [← List.cons_append, List.getLast?_concat])
    have w2 : WayE (swapE E c d a b) (fun c => ∀ v, X v → has c v) d b := ChnE.way hsuf (fun z hz => hall z (List.mem_append.2 (.inr (List.mem_cons_of_mem _ hz)))) (by
      rw [List.getLast?_append, List.getLast?_cons_cons] at h4
      cases hl : (d :: s).getLast? with
      | none => simp at hl
      | some w => rw [hl] at h4; simpa using h4)
    exact w1.back.trans (.step w1.fst hab w2.back)
  have hw := h X x y hx hy hXx hXy
  clear hXx hXy hx hy
  induction hw using WayE.ind with
  | here hp => exact .here hp
  | @step x y z hp ha' hw ih =>
    by_cases e1 : x = c ∧ y = d
    · obtain ⟨rfl, rfl⟩ := e1
      exact (round hp hw.fst).trans ih
    · by_cases e2 : x = d ∧ y = c
      · obtain ⟨rfl, rfl⟩ := e2
        exact (round hw.fst hp).back.trans ih
      · exact .step hp (swapE_in ha' e1 e2) ih
end Go.Proofs.Ytockhhleapbpiaa

