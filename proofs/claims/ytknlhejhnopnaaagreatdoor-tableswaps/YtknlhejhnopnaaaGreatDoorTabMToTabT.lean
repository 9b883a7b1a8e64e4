/- Plain facts on tables: an assignment as a list of all variables, and what stands there; rising lists. Nothing of the program is named here. -/
import Derived.Test.YtknlhejhnopnaaaGreatDoorStandCOwn
import Derived.Test.YtknlhejhnopnaaaGreatDoorJoinAToFillB
import Derived.Test.YtknlhejhnopnaaaGreatDoorRefSToSumA
import Derived.Test.YtknlhejhnopnaaaGreatDoorShelf
import Derived.Sort.OwnSortedInts
namespace Go.Proofs.YtknlhejhnopnaaaGreatDoor

theorem asg_digs {S : List Nat} : ∀ {vs : List Nat} {k i : Nat}, vs.Nodup → (h : i < vs.length) → (digs S vs k)[i]? = some (asg S vs k vs[i])
  | [], _, _, _, h => absurd h (by simp)
  | u :: vs, k, 0, _, _ => by simp [digs, asg]
  | u :: vs, k, i + 1, hn, h => by
    rw [List.nodup_cons] at hn
    have h' : i < vs.length := by simpa using h
    have e : ¬ vs[i] = u := fun e => hn.1 (by rw [← e]; exact List.getElem_mem h')
    rw [digs, List.getElem?_cons_succ, asg_digs hn.2 h', List.getElem_cons_succ, asg, if_neg e]
/-- An assignment as a list of all variables. -/
def spr (n : Nat) (f : Nat → Nat) : List Nat := (List.range n).map f
theorem spr_length (n : Nat) (f : Nat → Nat) : (spr n f).length = n := by simp [spr]
theorem spr_get {n : Nat} {f : Nat → Nat} {v : Nat} (h : v < n) : (spr n f)[v]'(by rw [spr_length]; exact h) = f v := by simp [spr]
theorem spr_get? {n : Nat} {f : Nat → Nat} {v : Nat} (h : v < n) : (spr n f)[v]? = some (f v) := by simp [spr, h]
theorem spr_congr {n : Nat} {f g : Nat → Nat} (h : ∀ v, v < n → f v = g v) : spr n f = spr n g := List.map_congr_left fun v hv => h v (List.mem_range.1 hv)
theorem spr_set {n : Nat} {f : Nat → Nat} (v x : Nat) : (spr n f).set v x = spr n (withV f v x) := by
  apply List.ext_getElem?
  intro u
  rw [List.getElem?_set]
  by_cases hu : u < n
  · rw [spr_get? hu, spr_get? hu, withV, spr_length]
    by_cases e : v = u
    · subst e; rw [if_pos rfl, if_pos hu, if_pos rfl]
    · rw [if_neg e, if_neg (fun h => e h.symm)]
  · rw [List.getElem?_eq_none (by rw [spr_length]; omega), List.getElem?_eq_none (by rw [spr_length]; omega), spr_length]
    by_cases e : v = u
    · rw [if_pos e, if_neg (by omega)]
    · rw [if_neg e]
/-- What is spread when i values are told. -/
def sprF (S vs : List Nat) (k i : Nat) : Nat → Nat := fun v => if v ∈ vs.take i then asg S vs k v else 0
theorem sprF_zero (S vs : List Nat) (k n : Nat) : spr n (sprF S vs k 0) = List.replicate n 0 := by
  apply List.ext_getElem
  · rw [spr_length, List.length_replicate]
  · intro i h1 h2
    rw [spr_get (by rw [spr_length] at h1; exact h1), List.getElem_replicate, sprF, List.take_zero, if_neg (by simp)]
theorem sprF_succ (S : List Nat) {vs : List Nat} (k n : Nat) {i : Nat} (h : i < vs.length) : (spr n (sprF S vs k i)).set vs[i] (asg S vs k vs[i]) = spr n (sprF S vs k (i + 1)) := by
  rw [spr_set]
  refine spr_congr fun v _ => ?_
  rw [withV, sprF, sprF, List.take_succ_eq_append_getElem h]
  by_cases e : v = vs[i]
  · rw [if_pos e, if_pos (by rw [e]; exact List.mem_append_right _ List.mem_cons_self), e]
  · rw [if_neg e]
    have : v ∈ vs.take i ++ [vs[i]] ↔ v ∈ vs.take i := ⟨fun h => (List.mem_append.1 h).elim id fun h => absurd (List.mem_singleton.1 h) e, List.mem_append_left _⟩
    simp only [this]
theorem sprF_all (S vs : List Nat) (k n : Nat) : spr n (sprF S vs k vs.length) = spr n (asg S vs k) := by
  refine spr_congr fun v _ => ?_
  rw [sprF, List.take_length]
  by_cases h : v ∈ vs
  · rw [if_pos h]
  · rw [if_neg h, asg_out h]
theorem pos_take (S : List Nat) (f : Nat → Nat) {vs : List Nat} {i : Nat} (h : i < vs.length) : pos S f (vs.take (i + 1)) = pos S f (vs.take i) * sz S vs[i] + f vs[i] := by
  rw [List.take_succ_eq_append_getElem h, pos_snoc]
theorem withV_lt {S : List Nat} {f : Nat → Nat} {v x : Nat} (hf : ∀ u, f u < sz S u) (hx : x < sz S v) (u : Nat) : withV f v x u < sz S u := by
  rw [withV]
  by_cases e : u = v
  · rw [if_pos e, e]; exact hx
  · rw [if_neg e]; exact hf u

/-- Two rising lists of the same numbers are the same. -/
theorem rise_ext : ∀ {a b : List Nat}, a.Pairwise (· < ·) → b.Pairwise (· < ·) → (∀ x, x ∈ a ↔ x ∈ b) → a = b
  | [], [], _, _, _ => rfl
  | [], y :: b, _, _, h => absurd ((h y).2 List.mem_cons_self) (by simp)
  | x :: a, [], _, _, h => absurd ((h x).1 List.mem_cons_self) (by simp)
  | x :: a, y :: b, ha, hb, h => by
    rw [List.pairwise_cons] at ha hb
    have e : x = y := by
      have h1 := (h x).1 List.mem_cons_self
      have h2 := (h y).2 List.mem_cons_self
      rw [List.mem_cons] at h1 h2
      rcases h1 with h1 | h1
      · exact h1
      · rcases h2 with h2 | h2
        · exact h2.symm
        · have := hb.1 x h1
          have := ha.1 y h2
          omega
    subst e
    rw [rise_ext ha.2 hb.2 fun z => ?_]
    constructor
    · intro hz
      have h1 := (h z).1 (List.mem_cons_of_mem _ hz)
      have := ha.1 z hz
      rw [List.mem_cons] at h1
      rcases h1 with h1 | h1
      · omega
      · exact h1
    · intro hz
      have h1 := (h z).2 (List.mem_cons_of_mem _ hz)
      have := hb.1 z hz
      rw [List.mem_cons] at h1
      rcases h1 with h1 | h1
      · omega
      · exact h1
theorem range_rise (n : Nat) : (List.range n).Pairwise (· < ·) := List.pairwise_lt_range
end Go.Proofs.YtknlhejhnopnaaaGreatDoor

/- What the calls on tables answer, as plain functions of lists. -/
namespace Go.Proofs.YtknlhejhnopnaaaGreatDoor
open Go.RowKit Go.Shelf

/-- A rational in lowest terms. -/
def qF (q : Rat) : Fr := (sgn q, nu q, de q)
theorem frV_qF (q : Rat) : frV (qF q) = .agg #[.bool (sgn q), .string (nu q), .string (de q)] := rfl
theorem frQ_qF (q : Rat) : frQ (qF q) = q := val_own q
/-- What stands at a place. -/
def celF (l : List Fr) (k : Nat) : Fr := l[k]?.getD frZ
theorem celF_eq {l : List Fr} {k : Nat} (h : k < l.length) : celF l k = l[k] := by rw [celF, List.getElem?_eq_getElem h]; rfl
theorem celF_size {l : List Fr} {k : Nat} (h : k < l.length) : (celF l k).2.1.size + (celF l k).2.2.size + 2 ≤ fw l := by rw [celF_eq h]; exact fw_mem (List.getElem_mem h)
/-- The first place that has the greatest number, of those up to k. -/
def bestN (l : List Fr) : Nat → Nat
  | 0 => 0
  | k + 1 => if cmpQ (frQ (celF l (bestN l k))) (frQ (celF l (k + 1))) < 0 then k + 1 else bestN l k
theorem bestN_le (l : List Fr) : ∀ k, bestN l k ≤ k
  | 0 => Nat.le_refl _
  | k + 1 => by
    have := bestN_le l k
    rw [bestN]
    by_cases h : cmpQ (frQ (celF l (bestN l k))) (frQ (celF l (k + 1))) < 0
    · rw [if_pos h]; omega
    · rw [if_neg h]; omega
/-- Norm's cells. -/
def normL (l : List Fr) : List Fr := l.map fun f => qF (frQ f * (1 / fsum l))
/-- Fix's cells. -/
def fixL (S vars rest : List Nat) (v x : Nat) (l : List Fr) : List Fr := (List.range (cnt S rest)).map fun K => qF (frQ (celF l (pos S (withV (asg S rest K) v x) vars)))
/-- What is left of so many. -/
def outN (most : Bool) (T : Nat → Fr) : Nat → Fr
  | 0 => T 0
  | k + 1 => if most then great (outN most T k) (T (k + 1)) else qF (frQ (outN most T k) + frQ (T (k + 1)))
/-- Out's cells. -/
def outL (S vars rest : List Nat) (v : Nat) (most : Bool) (l : List Fr) : List Fr := (List.range (cnt S rest)).map fun K => qF (frQ (outN most (fun x => celF l (pos S (withV (asg S rest K) v x) vars)) (sz S v - 1)))
/-- Product's cells. -/
def prodL (S va vb U : List Nat) (la lb : List Fr) : List Fr := (List.range (cnt S U)).map fun K => qF (frQ (celF la (pos S (asg S U K) va)) * frQ (celF lb (pos S (asg S U K) vb)))
/-- Product's variables. -/
def bothN (n : Nat) (a b : List Int) : List Nat := (List.range n).filter fun v => inB (v : Int) a || inB (v : Int) b
/-- A list without a variable. -/
def lessN (l : List Int) (v : Int) : List Int := l.filter fun u => !(u == v)
end Go.Proofs.YtknlhejhnopnaaaGreatDoor

/- How many bytes a list of fractions has; one fraction held against another beside errors. -/
namespace Go.Proofs.YtknlhejhnopnaaaGreatDoor
open Go.RowKit

def sw : List Fr → Nat
  | [] => 0
  | f :: l => f.2.1.size + f.2.2.size + sw l
theorem sw_snoc (l : List Fr) (f : Fr) : sw (l ++ [f]) = sw l + (f.2.1.size + f.2.2.size) := by
  induction l with
  | nil => simp [sw]
  | cons g l ih => simp only [List.cons_append, sw, ih]; omega
theorem sw_take {l : List Fr} {k : Nat} (h : k < l.length) : sw (l.take (k + 1)) = sw (l.take k) + (l[k].2.1.size + l[k].2.2.size) := by
  rw [List.take_succ_eq_append_getElem h, sw_snoc]
theorem fw_sw (l : List Fr) : fw l = sw l + 2 * l.length := by
  induction l with
  | nil => rfl
  | cons f l ih => simp only [fw, sw, List.length_cons, ih]; omega

set_option maxRecDepth 100000 in
set_option maxHeartbeats 2000000 in
theorem fracBytes_any (a : Option Addr) (cap : Nat) (l : List Fr) (w : World) (h : FrS w a l) (hn : l.length ≤ 140737488355328) (hs : ∀ f ∈ l, f.2.1.size ≤ 140737488355328 ∧ f.2.2.size ≤ 140737488355328) :
    Calls Tryz.prog 7 #[.slice a l.length cap] w fun e w' => (∃ r : Nat, e = .returned (.int .i64 r) ∧ r ≤ 1000000000000000 ∧ (r ≤ 4096 → r = l.length + sw l)) ∧ Below w.heap.size w w' := by
  have HF := hide h
  have HS := hide hs
  clear h hs
  have HFIN : Hid (sw (l.take l.length) = sw l) := by show _ = _; rw [List.take_length]
  go_enter Tryz.func7, Tryz.ntmps7
  go_wp2_with fail
  go_loopw [3, 4] (fun nv iv wr => ∃ (k n : Nat), k ≤ l.length ∧ iv = .int .i64 k ∧ nv = .int .i64 n ∧ n ≤ 1000000000000000 ∧ Hid (n = l.length + sw (l.take k)) ∧ Below w.heap.size w wr) (fun _ iv _ => l.length - (intOf iv).toNat)
  case atStart => exact ⟨0, l.length, Nat.zero_le _, rfl, rfl, by omega, (show _ = _ by simp [sw]), Below.refl _ _⟩
  case round =>
    obtain ⟨k, n, hk, rfl, rfl, hn1, HN, hBr⟩ := hrel
    by_cases hlt : k < l.length
    · by_cases hsm : n ≤ 4096
      · obtain ⟨g, o, rfl, hg, c0, c1, c2⟩ := (HF.out.below hBr) k hlt
        obtain ⟨s1, s2⟩ := HS.out l[k] (List.getElem_mem hlt)
        have HN2 : Hid (n + l[k].2.1.size + l[k].2.2.size = l.length + sw (l.take (k + 1))) := by show _ = _; rw [HN.out, sw_take hlt]; omega
        clear HN
        generalize l[k].1 = fn at *
        generalize l[k].2.1 = fx at *
        generalize l[k].2.2 = fy at *
        go_wp2_with fail
        go_quiet (fail)
        go_wp2
        go_roundw
        case rel => exact ⟨k + 1, n + fx.size + fy.size, by omega, by go_num, by go_num, by omega, HN2.out, below_drewN hBr _⟩
        case measure => simp [intOf]; omega
      · go_wp2
        go_ret
        exact ⟨⟨n, rfl, hn1, fun h => absurd h hsm⟩, hBr⟩
    · obtain rfl : k = l.length := by omega
      go_wp2
      all_goals
        go_ret
        exact ⟨⟨n, rfl, hn1, fun _ => by rw [HN.out, HFIN.out]⟩, hBr⟩
end Go.Proofs.YtknlhejhnopnaaaGreatDoor

/- Package table: what Best holds, and its join. -/
namespace Go.Proofs.YtknlhejhnopnaaaGreatDoor
open Go.RowKit Go.Shelf

theorem results_tmp_cell_tmp {w : World} {g : Nat} {neg : Bool} {num den : ByteArray} (h : Box w g neg num den) {fn : Func} {t p u : Tmp} (hr : fn.results = #[.tmp t, .cell p 44, .tmp u]) (tmps : Array Value) (hp : tmps.getD p undef = .pointer (some ⟨g, 0, none⟩)) :
    (results fn tmps).run Tryz.prog w = .ok (.tuple #[tmps.getD t undef, .agg #[.bool neg, .string num, .string den], tmps.getD u undef]) w := by
  have hp' : tmps[p]?.getD undef = .pointer (some ⟨g, 0, none⟩) := by simpa using hp
  simp [results, hr, hp', asAddr, run_loadVar_row w g _ 44 _ _ _ h Tryz.underlying44 rfl (by kernel_rfl)]
/-- A list of ints does not lie in a fraction's block. -/
theorem IntS.far3 {V : World} {c : Option Addr} {l : List Int} {g : Nat} {n : Bool} {x y : ByteArray} (h : IntS V c l) (hb : Box V g n x y) (j : Nat) (u : Value) : IntS (V.setCell ⟨g, j, none⟩ u) c l := fun k hk => by
  obtain ⟨g', o, rfl, hlt, hc⟩ := h k hk
  have hne : ¬ g' = g := fun e => by
    subst e
    rw [cell_of_row V g' (o + k) _ _ (0, 0) hb] at hc
    match hm : o + k with
    | 0 => rw [hm] at hc; simp at hc
    | 1 => rw [hm] at hc; simp at hc
    | 2 => rw [hm] at hc; simp at hc
    | m + 3 => rw [hm] at hc; simp at hc
  exact ⟨g', o, rfl, Nat.lt_of_lt_of_le hlt (KeepsOthers.setCell V _ _).size, (World.cell?_setCell_other _ _ _ _ (fun e => hne (congrArg Addr.block e).symm)).trans hc⟩
theorem IntS.put3 {V : World} {c : Option Addr} {l : List Int} {g : Nat} {n : Bool} {x y : ByteArray} (h : IntS V c l) (hb : Box V g n x y) (n' : Bool) (x' y' : ByteArray) : IntS (((V.setCell ⟨g, 0, none⟩ (.bool n')).setCell ⟨g, 1, none⟩ (.string x')).setCell ⟨g, 2, none⟩ (.string y')) c l := by
  have h1 : Box (V.setCell ⟨g, 0, none⟩ (.bool n')) g n' x y := heap_setCell_same V g 0 _ _ (.bool n') hb
  have h2 : Box ((V.setCell ⟨g, 0, none⟩ (.bool n')).setCell ⟨g, 1, none⟩ (.string x')) g n' x' y := heap_setCell_same _ g 1 _ _ (.string x') h1
  exact ((h.far3 hb 0 _).far3 h1 1 _).far3 h2 2 _

/-- What Best holds: the table, its result's block. -/
def BH (w V : World) (u v : Value) : Prop := TBox V w.heap.size u v ∧ Box V (w.heap.size + 1) false ⟨#[]⟩ ⟨#[]⟩ ∧ Below w.heap.size w V
theorem BH.step {w V V' : World} {u v : Value} (h : BH w V u v) (hb : Below V.heap.size V V') : BH w V' u v := ⟨h.1.below hb h.1.lt, h.2.1.below hb h.2.1.lt, h.2.2.trans (hb.mono h.2.2.size)⟩
theorem BH.drew {w V : World} {u v : Value} (h : BH w V u v) : BH w V.drew u v := ⟨h.1, h.2.1.drew, h.2.2.drew⟩
theorem BH.of {w V : World} {u v : Value} (h : BH w V u v) : (V.cell? ⟨w.heap.size, 0, none⟩ = some u ∧ V.cell? ⟨w.heap.size, 1, none⟩ = some v) ∧ Hid (BH w V u v) := ⟨⟨h.1.c0, h.1.c1⟩, h⟩
theorem BH.ofF {w V : World} {u v : Value} (h : BH w V u v) {g i : Nat} {n : Bool} {x y : ByteArray} (hg : g < w.heap.size) (a0 : w.cell? ⟨g, i, none⟩ = some (.bool n)) (a1 : w.cell? ⟨g, i + 1, none⟩ = some (.string x)) (a2 : w.cell? ⟨g, i + 2, none⟩ = some (.string y)) : (V.cell? ⟨w.heap.size, 0, none⟩ = some u ∧ V.cell? ⟨w.heap.size, 1, none⟩ = some v ∧ V.cell? ⟨g, i, none⟩ = some (.bool n) ∧ V.cell? ⟨g, i + 1, none⟩ = some (.string x) ∧ V.cell? ⟨g, i + 2, none⟩ = some (.string y)) ∧ Hid (BH w V u v) :=
  ⟨⟨h.1.c0, h.1.c1, (h.2.2.cell (p := ⟨g, i, none⟩) hg).trans a0, (h.2.2.cell (p := ⟨g, i + 1, none⟩) hg).trans a1, (h.2.2.cell (p := ⟨g, i + 2, none⟩) hg).trans a2⟩, h⟩

theorem bestJoin_any (c : Option Addr) (cc : Nat) (l : List Fr) (w : World) (B : Nat) (hB : B < w.heap.size) (hx : w.cell? ⟨B, 0, none⟩ = some (.slice c l.length cc)) (hf : FrS w c l) (hl : 1 ≤ l.length) (hw : fw l ≤ 10000) :
    Calls Tryz.prog 82 #[.agg #[.func (.func 122) #[] #[.pointer (some ⟨B, 0, none⟩)]], .int .i64 (l.length : Nat), .func (.func 84) #[] #[]] w fun e w' => e = .returned (.int .i64 (bestN l (l.length - 1) : Nat)) ∧ Below w.heap.size w w' := by
  have hll : l.length ≤ 10000 := by have := fw_sw l; omega
  refine joinI_any 122 84 _ _ (enters_of Tryz.func122 (by kernel_rfl) rfl) (enters_of Tryz.func84 (by kernel_rfl) rfl) l.length (fun k => k) (bestN l) w hl (by omega) ?_ ?_ rfl
  · intro k _ V _
    exact best1_any (k : Int) V
  · intro k hk V hb
    have hk1 := bestN_le l k
    have h1 := celF_size (l := l) (k := bestN l k) (by omega)
    have h2 := celF_size (l := l) (k := k + 1) (by omega)
    have e1 := celF_eq (l := l) (k := bestN l k) (by omega)
    have e2 := celF_eq (l := l) (k := k + 1) (by omega)
    refine (firstGreatest1_any B c cc l (bestN l k) (k + 1) (by omega) (by omega) V (Nat.lt_of_lt_of_le hB hb.size) ((hb.cell (p := ⟨B, 0, none⟩) hB).trans hx) (hf.below hb) (by rw [← e1]; omega) (by rw [← e2]; omega)).mono ?_
    rintro e w' ⟨rfl, hb'⟩
    refine ⟨?_, hb'⟩
    rw [bestN, ← e1, ← e2]
    by_cases h : cmpQ (frQ (celF l (bestN l k))) (frQ (celF l (k + 1))) < 0
    · rw [if_pos h, if_pos h]
    · rw [if_neg h, if_neg h]
theorem TBox.off {w : World} {g : Nat} {u v : Value} (h : TBox w g u v) (b j : Nat) (y : Value) (hne : g ≠ b) : TBox (w.setCell ⟨b, j, none⟩ y) g u v := (Below.heap_setCell w ⟨b, j, none⟩ y g hne).trans h
/-- What Best answers. -/
def bestV (sizes vars : List Int) (l : List Fr) : List Nat := if checkA sizes vars l.length = 0 then digs (toN sizes) (toN vars) (bestN l (l.length - 1)) else []
def bestF (sizes vars : List Int) (l : List Fr) : Fr := if checkA sizes vars l.length = 0 then qF (frQ (celF l (bestN l (l.length - 1)))) else frZ
theorem checkA_parts {sizes vars : List Int} {m : Nat} (h : checkA sizes vars m = 0) : Fine sizes ∧ Up vars sizes.length ∧ m = cnt (toN sizes) (toN vars) := by
  rw [checkA] at h
  by_cases h1 : countB sizes vars = true
  · rw [if_pos h1] at h
    by_cases h2 : m = cnt (toN sizes) (toN vars)
    · exact ⟨(countB_parts h1).1, (countB_parts h1).2, h2⟩
    · rw [if_neg h2] at h; omega
  · rw [if_neg h1] at h; omega
theorem checkA_pos {sizes vars : List Int} {m : Nat} (h : checkA sizes vars m = 0) : 1 ≤ m := by
  obtain ⟨h1, h2, h3⟩ := checkA_parts h
  rw [h3]
  exact cnt_pos h1.pos _
end Go.Proofs.YtknlhejhnopnaaaGreatDoor

/- Lists of ints: clones, what is in them, lists without one. -/
namespace Go.Proofs.YtknlhejhnopnaaaGreatDoor
open Go.RowKit Go.Shelf Go.Sort Go.Lib

/-- A list of ints in memory of its own. -/
def RwI (w : World) (B : Nat) (v : Value) (l : List Int) : Prop := w.ownsRow B 3 1 v l.length (l.map (Value.int .i64))
theorem RwI.cases {w : World} {B : Nat} {v : Value} {l : List Int} (h : RwI w B v l) : (v = .slice none 0 0 ∧ l = []) ∨ ∃ g cap, v = .slice (some ⟨g, 0, none⟩) l.length cap ∧ B ≤ g ∧ g < w.heap.size ∧ l.length ≤ cap ∧ cap ≤ maxLen ∧ Holds (Value.int .i64) w g 0 l.toArray := by
  rcases h.2 with ⟨h1, h2⟩ | ⟨g, cap, cur, h1, h2, h3, h4, h5, h6, h7⟩
  · exact .inl ⟨h1, List.length_eq_zero_iff.1 h2⟩
  · refine .inr ⟨g, cap, h1, h2, (Array.getElem?_eq_some_iff.1 h3).1, h4, h5, fun j hj => ?_⟩
    have hj' : j < l.length := by simpa using hj
    refine ⟨?_, frozen_of_row w g _ _ _ h3⟩
    rw [Nat.zero_add, cell_of_row w g j _ _ (0, 0) h3]
    have e : cur[j]? = (cur.toList.take (l.length * 1))[j]? := by
      rw [List.getElem?_take, if_pos (by omega), Array.getElem?_toList]
    rw [e, h7, List.getElem?_map, List.getElem?_eq_getElem hj']
    simp [hj']
theorem holds_ints {w : World} {g : Nat} {d : Array Int} {l : List Int} (h : Holds (Value.int .i64) w g 0 d) (hg : g < w.heap.size) (hl : ∀ j (hj : j < l.length), ∃ hd : j < d.size, d[j] = l[j]) : IntS w (some ⟨g, 0, none⟩) l := fun k hk => by
  obtain ⟨hd, e⟩ := hl k hk
  refine ⟨g, 0, rfl, hg, ?_⟩
  have := (h k hd).1
  rw [getElem!_pos d k hd, e] at this
  exact this
theorem RwI.ints {w : World} {B : Nat} {v : Value} {l : List Int} (h : RwI w B v l) : ∃ d cd, v = .slice d l.length cd ∧ IntS w d l := by
  rcases h.cases with ⟨rfl, rfl⟩ | ⟨g, cap, rfl, _, hg, _, _, hh⟩
  · exact ⟨none, 0, rfl, fun k hk => absurd hk (by simp)⟩
  · exact ⟨_, _, rfl, holds_ints hh hg fun j hj => ⟨by simpa using hj, by simp⟩⟩
theorem intS_cells {w : World} {b o : Nat} {l : List Int} (h : IntS w (some ⟨b, o, none⟩) l) : ∀ j, j < l.length → w.cell? ⟨b, o + j, none⟩ = some (.int .i64 (l.getD j 0)) := fun j hj => by
  obtain ⟨g, o', e, _, hc⟩ := h j hj
  cases e
  rw [hc, List.getD_eq_getElem?_getD, List.getElem?_eq_getElem hj]
  rfl
theorem slClone_any (b : Option Addr) (cb : Nat) (l : List Int) (w : World) (h : IntS w b l) (hn : l.length ≤ 1000000) :
    Calls Tryz.prog 78 #[.slice b l.length cb] w fun e w' => ∃ v, e = .returned v ∧ RwI w' w.heap.size v l ∧ Below w.heap.size w w' := by
  cases b with
  | none =>
    have hl : l = [] := by
      cases l with
      | nil => rfl
      | cons x l => obtain ⟨g, o, e, _⟩ := h 0 (by simp); cases e
    subst hl
    refine (Tryz.slices_Clone_int_nil 0 cb w).mono ?_
    rintro e w' ⟨rfl, rfl⟩
    exact ⟨_, rfl, ⟨rfl, .inl ⟨rfl, rfl⟩⟩, Below.refl _ _⟩
  | some a =>
    cases l with
    | nil =>
      refine (Tryz.slices_Clone_int_zero a cb w).mono ?_
      rintro e w' ⟨v, rfl, hr, _, hb⟩
      exact ⟨v, rfl, hr, hb⟩
    | cons x l =>
      obtain ⟨g, o, e, _⟩ := h 0 (by simp)
      cases e
      refine (Tryz.slices_Clone_int g o (x :: l).length cb (x :: l) w (Nat.le_refl _) (by omega) (intS_cells h)).mono ?_
      rintro e w' ⟨v, rfl, hr, _, hb⟩
      rw [List.take_length] at hr
      exact ⟨v, rfl, hr, hb⟩

theorem slContains_any (b : Option Addr) (cb : Nat) (l : List Int) (x : Int) (w : World) (h : IntS w b l) (hn : l.length ≤ 140737488355328) :
    Calls Tryz.prog 61 #[.slice b l.length cb, .int .i64 x] w fun e w' => e = .returned (.bool (l.contains x)) ∧ Below w.heap.size w w' := by
  cases l with
  | nil =>
    refine (Tryz.slices_Contains_int_empty b cb x w).mono ?_
    rintro e w' ⟨rfl, rfl⟩
    exact ⟨rfl, Below.refl _ _⟩
  | cons y l =>
    obtain ⟨g, o, rfl, _⟩ := h 0 (by simp)
    refine (Tryz.slices_Contains_int g o (y :: l).length cb (y :: l) x w (Nat.le_refl _) (by omega) (intS_cells h)).mono ?_
    rintro e w' ⟨rfl, rfl⟩
    rw [List.take_length]
    exact ⟨rfl, Below.refl _ _⟩

/-- The closure of without. -/
theorem without1_gives (u v : Int) (B : Nat) (W : World) (hc : W.cell? ⟨B, 0, none⟩ = some (.int .i64 v)) :
    FnGives Tryz.prog 112 #[.pointer (some ⟨B, 0, none⟩)] #[.int .i64 u] (.bool (u == v)) W := by
  show Calls Tryz.prog 112 #[.int .i64 u, .pointer (some ⟨B, 0, none⟩)] W _
  go_enter Tryz.func112, Tryz.ntmps112
  go_wp2
  all_goals (go_ret; exact ⟨by simp_all, 0, rfl⟩)
theorem without1_at (v : Int) (B : Nat) (w : World) (hB : B < w.heap.size) (hc : w.cell? ⟨B, 0, none⟩ = some (.int .i64 v)) :
    PredAt Tryz.prog 112 #[.pointer (some ⟨B, 0, none⟩)] (Value.int .i64) (fun u => u == v) w :=
  fun W x hb => without1_gives x v B W ((hb.cell (p := ⟨B, 0, none⟩) hB).trans hc)
theorem without1_over (v : Int) (B blk off size : Nat) (w : World) (hB : B < w.heap.size) (hne : B ≠ blk) (hc : w.cell? ⟨B, 0, none⟩ = some (.int .i64 v)) :
    PredOver Tryz.prog 112 #[.pointer (some ⟨B, 0, none⟩)] (Value.int .i64) (fun u => u == v) blk off size w :=
  fun n os dk x _ => without1_gives x v B _ (by
    unfold sortWorld
    rw [cell?_grow _ _ _ (by show B < (putRow _ _ _ _ _).heap.size; rw [size_putRow]; exact hB), cell?_putRow_other _ _ blk off _ _ (Or.inl hne)]
    exact hc)

set_option maxRecDepth 100000 in
theorem slDelete_none (fv : Value) (w : World) : Calls Tryz.prog 111 #[.slice none 0 0, fv] w fun e w' => e = .returned (.slice none 0 0) ∧ Below w.heap.size w w' := by
  go_enter Tryz.func111, Tryz.ntmps111
  go_wp2_with fail
  refine (Tryz.slices_IndexFunc_empty (α := Int) none 0 fv w).mono ?_
  rintro e w1 ⟨rfl, rfl⟩
  go_wp2
  go_ret
  exact ⟨rfl, Below.refl _ _⟩
theorem below_sorted {B g n : Nat} {a w : World} {os : Array Obj} (d : Array Int) (h : Below B a w) (hw : B ≤ w.heap.size) (hg : B ≤ g) : Below B a (grow (putRow (Value.int .i64) (Sort.ahead w n) g 0 d) os) :=
  h.grown (grownBy_sortedI d) hw fun k e => by cases e; exact hg
theorem below_put_row {B g n : Nat} {a w : World} (d : Array Int) (h : Below B a w) (hw : B ≤ w.heap.size) (hg : B ≤ g) : Below B a (putRow (Value.int .i64) (Sort.ahead w n) g 0 d) := by
  have := below_sorted (n := n) (os := #[]) d h hw hg
  rwa [grow_empty] at this

set_option maxRecDepth 100000 in
set_option maxHeartbeats 400000 in
theorem without_any (b : Option Addr) (cb : Nat) (vars : List Int) (v : Int) (w : World) (hv : IntS w b vars) (hn : vars.length ≤ 1000000) :
    Calls Tryz.prog 64 #[.slice b vars.length cb, .int .i64 v] w fun e w' => ∃ (d : Option Addr) (cd : Nat), e = .returned (.slice d (lessN vars v).length cd) ∧ IntS w' d (lessN vars v) ∧ Below w.heap.size w w' := by
  have HV := hid hv
  obtain ⟨L, hL⟩ : ∃ L, L = lessN vars v := ⟨_, rfl⟩
  rw [← hL]
  have HL := hid hL
  clear hv hL
  go_enter Tryz.func64, Tryz.ntmps64
  go_wp2_with fail
  have hb0 : Below w.heap.size w (w.alloc (.cells #[.int .i64 v] 3)) := (Below.refl _ w).alloc (Nat.le_refl _) _
  have hx := Boxed.new w 3 (.int .i64 v)
  generalize (w.alloc (.cells #[.int .i64 v] 3)) = W at hb0 hx ⊢
  refine (slClone_any b cb vars _ (HV.out.below hb0) hn).mono ?_
  rintro e w1 ⟨x, rfl, hr, hb1⟩
  have hx1 := boxed_keep hx hb1
  have hB1 := hb0.trans (hb1.mono hb0.size)
  have hlt := hx.lt
  have hs1 := hb0.size
  rcases hr.cases with ⟨rfl, rfl⟩ | ⟨g, cap, rfl, hg0, hg, hc1, hc2, hh⟩
  · go_wp2_with fail
    refine (slDelete_none _ _).mono ?_
    rintro e w2 ⟨rfl, hb2⟩
    go_wp2
    go_ret
    have hL0 : L = [] := HL.out
    subst hL0
    exact ⟨none, 0, rfl, fun k hk => absurd hk (by simp), hB1.trans (hb2.mono hB1.size)⟩
  · have hcon := Tryz.slices_DeleteFunc (Value.int .i64) (fun _ => rfl) (fun u => u == v) 112 #[.pointer (some ⟨w.heap.size, 0, none⟩)] (enters_of Tryz.func112 (by kernel_rfl) rfl) 0 Tryz.zeroValue3 g 0 cap vars.toArray w1 (without1_at v _ _ hx1.lt hx1.cell) (without1_over v _ g 0 _ _ hx1.lt (by omega) hx1.cell) hh (by simp; omega) (by simpa using hc1)
    have hsz : vars.toArray.size = vars.length := by simp
    rw [hsz] at hcon
    have hfl : vars.toArray.toList.filter (fun x => !(x == v)) = lessN vars v := by simp [lessN]
    rw [hfl, ← HL.out] at hcon
    have hll : L.length ≤ vars.length := by rw [HL.out]; exact List.length_filter_le _ _
    have HCON := hid hcon
    have HH := hid hh
    have HLL := hid hll
    clear hcon hh hr hsz hfl hc1 hc2 hll
    go_wp2_with fail
    refine HCON.out.mono ?_
    rintro e w2 ⟨rfl, q, rfl⟩
    go_wp2
    go_ret
    have hsum : (L ++ List.replicate (vars.length - L.length) 0).toArray.size = vars.toArray.size := by
      have := HLL.out
      simp
      omega
    refine ⟨some ⟨g, 0, none⟩, cap, rfl, holds_ints (holds_putRow (Value.int .i64) (Sort.ahead w1 q) g 0 vars.toArray _ HH.out hsum) (by rw [size_putRow]; exact hg) (fun j hj => ⟨by simp; omega, by simp [List.getElem_append_left, hj]⟩), below_put_row _ hB1 hB1.size (by omega)⟩
end Go.Proofs.YtknlhejhnopnaaaGreatDoor

/- Tables as answers. -/
namespace Go.Proofs.YtknlhejhnopnaaaGreatDoor
open Go.RowKit Go.Shelf

/-- A table and an error are answered. -/
def TabA (vars : List Int) (l : List Fr) (k : Int) (e : Ending) (w' : World) : Prop := ∃ (b c : Option Addr) (cb cc : Nat), e = .returned (.tuple #[.agg #[.slice b vars.length cb, .slice c l.length cc], .int .i64 k]) ∧ IntS w' b vars ∧ FrS w' c l
theorem TabA.empty (k : Int) (w : World) : TabA [] [] k (.returned (.tuple #[.agg #[.slice none 0 0, .slice none 0 0], .int .i64 k])) w := ⟨none, none, 0, 0, rfl, fun k hk => absurd hk (by simp), fun k hk => absurd hk (by simp)⟩
theorem TBox.result2 {w : World} {g : Nat} {x y : Value} (h : TBox w g x y) {fn : Func} {p u : Tmp} (hr : fn.results = #[.cell p 25, .tmp u]) (tmps : Array Value) (hp : tmps.getD p undef = .pointer (some ⟨g, 0, none⟩)) :
    (results fn tmps).run Tryz.prog w = .ok (.tuple #[.agg #[x, y], tmps.getD u undef]) w := by
  rw [results_cell_tmp hr, hp]
  simp only [asAddr, Sem.run_pure, Result.andThen_ok]
  rw [run_loadVar_row w g _ 25 _ _ _ h Tryz.underlying25 rfl (by kernel_rfl)]
  simp only [Result.andThen_ok]
/-- Neither ints nor fractions lie in a table's block. -/
def SlV (v : Value) : Prop := ∃ a n c, v = Value.slice a n c
theorem IntS.farT {V : World} {c : Option Addr} {l : List Int} {g : Nat} {x y : Value} (h : IntS V c l) (hb : TBox V g x y) (hx : SlV x) (hy : SlV y) (j : Nat) (u : Value) : IntS (V.setCell ⟨g, j, none⟩ u) c l := fun k hk => by
  obtain ⟨g', o, rfl, hlt, hc⟩ := h k hk
  obtain ⟨a1, n1, c1, rfl⟩ := hx
  obtain ⟨a2, n2, c2, rfl⟩ := hy
  have hne : ¬ g' = g := fun e => by
    subst e
    rw [cell_of_row V g' (o + k) _ _ (0, 0) hb] at hc
    match hm : o + k with
    | 0 => rw [hm] at hc; simp at hc
    | 1 => rw [hm] at hc; simp at hc
    | m + 2 => rw [hm] at hc; simp at hc
  exact ⟨g', o, rfl, Nat.lt_of_lt_of_le hlt (KeepsOthers.setCell V _ _).size, (World.cell?_setCell_other _ _ _ _ (fun e => hne (congrArg Addr.block e).symm)).trans hc⟩
theorem IntS.putT {V : World} {c : Option Addr} {l : List Int} {g : Nat} {x y : Value} (h : IntS V c l) (hb : TBox V g x y) (hx : SlV x) (hy : SlV y) {x' : Value} (hx' : SlV x') (y' : Value) : IntS ((V.setCell ⟨g, 0, none⟩ x').setCell ⟨g, 1, none⟩ y') c l := by
  have h1 : TBox (V.setCell ⟨g, 0, none⟩ x') g x' y := heap_setCell_same V g 0 _ _ x' hb
  exact (h.farT hb hx hy 0 _).farT h1 hx' hy 1 _
theorem slv (a : Option Addr) (n c : Nat) : SlV (.slice a n c) := ⟨a, n, c, rfl⟩
theorem TBox.facts {w : World} {g : Nat} {x y : Value} (h : TBox w g x y) : w.cell? ⟨g, 0, none⟩ = some x ∧ w.cell? ⟨g, 1, none⟩ = some y ∧ w.frozen? ⟨g, 0, none⟩ = false ∧ w.frozen? ⟨g, 1, none⟩ = false := ⟨h.c0, h.c1, frozen_of_row w g 0 _ _ h, frozen_of_row w g 1 _ _ h⟩
theorem below_put2 {B : Nat} {a w : World} (h : Below B a w) {g : Nat} (hg : B ≤ g) (u v : Value) : Below B a ((w.setCell ⟨g, 0, none⟩ u).setCell ⟨g, 1, none⟩ v) := (h.setCell hg u).setCell hg v

/-- What a call on one table holds: the table, and its result's block. -/
def NH (w V : World) (u v : Value) : Prop := TBox V w.heap.size u v ∧ TBox V (w.heap.size + 1) (.slice none 0 0) (.slice none 0 0) ∧ Below w.heap.size w V
theorem NH.step {w V V' : World} {u v : Value} (h : NH w V u v) (hb : Below V.heap.size V V') : NH w V' u v := ⟨h.1.below hb h.1.lt, h.2.1.below hb h.2.1.lt, h.2.2.trans (hb.mono h.2.2.size)⟩
theorem NH.drew {w V : World} {u v : Value} (h : NH w V u v) : NH w V.drew u v := ⟨h.1, h.2.1, h.2.2.drew⟩
theorem NH.new (w : World) (u v : Value) : NH w ((w.alloc (TC u v)).alloc (TC (.slice none 0 0) (.slice none 0 0))) u v := ⟨(TBox.at (w := w) rfl _ _).alloc _, TBox.at (w := w.alloc (TC u v)) (by simp) _ _, ((Below.refl _ w).alloc (Nat.le_refl _) _).alloc (by simp) _⟩
theorem NH.off {w V : World} {u v : Value} (h : NH w V u v) (B j : Nat) (y : Value) (hB : w.heap.size + 1 < B) : NH w (V.setCell ⟨B, j, none⟩ y) u v := ⟨h.1.off B j y (by omega), h.2.1.off B j y (by omega), h.2.2.setCell (p := ⟨B, j, none⟩) (by show w.heap.size ≤ B; omega) y⟩
theorem NH.lt {w V : World} {u v : Value} (h : NH w V u v) : w.heap.size + 1 < V.heap.size := h.2.1.lt
/-- The end: the result is written. -/
theorem NH.fin {w V : World} {u v : Value} (h : NH w V u v) {vars : List Int} {b : Option Addr} {cb : Nat} {l : List Fr} {G cc : Nat} (hi : IntS V b vars) (hr : RowF V G l) (hG : w.heap.size + 1 < G) (x y : Value) (hx : x = .slice b vars.length cb) (hy : y = .slice (some ⟨G, 0, none⟩) l.length cc) :
    TBox ((V.setCell ⟨w.heap.size + 1, 0, none⟩ x).setCell ⟨w.heap.size + 1, 1, none⟩ y) (w.heap.size + 1) x y ∧ TabA vars l 0 (.returned (.tuple #[.agg #[x, y], .int .i64 0])) ((V.setCell ⟨w.heap.size + 1, 0, none⟩ x).setCell ⟨w.heap.size + 1, 1, none⟩ y) ∧ Below w.heap.size w ((V.setCell ⟨w.heap.size + 1, 0, none⟩ x).setCell ⟨w.heap.size + 1, 1, none⟩ y) := by
  subst hx hy
  exact ⟨h.2.1.put _ _, ⟨b, some ⟨G, 0, none⟩, cb, cc, rfl, hi.putT h.2.1 (slv _ _ _) (slv _ _ _) (slv _ _ _) _, ((hr.off _ 0 _ (by omega)).off _ 1 _ (by omega)).fr⟩, below_put2 h.2.2 (by omega) _ _⟩
end Go.Proofs.YtknlhejhnopnaaaGreatDoor
