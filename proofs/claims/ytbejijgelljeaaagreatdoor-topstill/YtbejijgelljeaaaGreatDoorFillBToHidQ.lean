/- Package table: fill. -/
import Derived.Test.YtbejijgelljeaaaGreatDoorStepsAToFillA
import Derived.Test.YtbejijgelljeaaaGreatDoorRefQToSumA
import Derived.Test.YtbejijgelljeaaaGreatDoorShelf
import Derived.Sort.OwnSortedInts
import Derived.Lib.AppendZerosOnto
import Derived.Laws.AppendOwnNone
import Derived.WalkMore
import Derived.Laws.EntriesVeiled
import Derived.Test.YtbejijgelljeaaaGreatDoorHidPToHitP
namespace Go.Proofs.YtbejijgelljeaaaGreatDoor
open Go.RowKit Go.Shelf

/-- The fraction that no one wrote. -/
def frZ : Fr := (false, ⟨#[]⟩, ⟨#[]⟩)
/-- What is written when i are told. -/
def partF (l : List Fr) (i : Nat) : List Fr := l.take i ++ List.replicate (l.length - i) frZ
theorem partF_zero (l : List Fr) : partF l 0 = List.replicate l.length frZ := by simp [partF]
theorem partF_length (l : List Fr) {i : Nat} (h : i ≤ l.length) : (partF l i).length = l.length := by simp [partF]; omega
theorem partF_all (l : List Fr) : partF l l.length = l := by simp [partF]
theorem partF_set (l : List Fr) {i : Nat} (h : i < l.length) : (partF l i).set i l[i] = partF l (i + 1) := by
  rw [partF, partF, List.set_append_right _ _ (by simp; omega), List.take_succ_eq_append_getElem h]
  have e : l.length - i = (l.length - (i + 1)) + 1 := by omega
  rw [e, List.replicate_succ, List.length_take, Nat.min_eq_left (by omega), Nat.sub_self, List.set_cons_zero, List.append_assoc]
  rfl
theorem Tryz.infoFrac : (Tryz.prog.info? 33).map (fun i => (i.zero, i.size, i.bytes)) = some (some (.agg #[.bool false, .string ⟨#[]⟩, .string ⟨#[]⟩]), 3, 40) := by kernel_rfl

theorem RowF.off {w : World} {g : Nat} {l : List Fr} (h : RowF w g l) (b j : Nat) (y : Value) (hne : g ≠ b) : RowF (w.setCell ⟨b, j, none⟩ y) g l := (Below.heap_setCell w ⟨b, j, none⟩ y g hne).trans h
theorem block_of_own3 {w : World} {base g n : Nat} {t : TypeId} {xs : List Value} (h : w.ownsRow base t 3 (.slice (some ⟨g, 0, none⟩) n n) n xs) : w.heap[g]? = some (.cells xs.toArray t (0, 0)) := by
  rcases h.2 with ⟨h', _⟩ | ⟨g', cap', cur, h', _, hg, hnc, _, hsz, htk⟩
  · cases h'
  · cases h'
    rw [hg, ← htk, List.take_of_length_le (by simp; omega)]
theorem frC_zero_at : ∀ (n j : Nat), j < 3 * n → (frC (List.replicate n frZ))[j]? = some (#[Value.bool false, Value.string ⟨#[]⟩, Value.string ⟨#[]⟩][j % 3]!)
  | 0, j, h => by omega
  | n + 1, 0, _ => rfl
  | n + 1, 1, _ => rfl
  | n + 1, 2, _ => rfl
  | n + 1, j + 3, h => by
    rw [show (j + 3) % 3 = j % 3 by omega, List.replicate_succ]
    exact frC_zero_at n j (by omega)
theorem made_frs (n : Nat) : (madeCells (Value.agg #[Value.bool false, Value.string ⟨#[]⟩, Value.string ⟨#[]⟩]).cells (n * 3)).toList = frC (List.replicate n frZ) := by
  apply List.ext_getElem?
  intro j
  by_cases h : j < 3 * n
  · rw [frC_zero_at n j h, madeCells]
    have h' : j < n * 3 := by omega
    simp [h', Value.cells]
  · rw [List.getElem?_eq_none (by rw [Array.length_toList, size_madeCells]; omega), List.getElem?_eq_none (by rw [frC_length, List.length_replicate]; omega)]

end Go.Proofs.YtbejijgelljeaaaGreatDoor


/- Plain facts on tables: an assignment as a list of all variables, and what stands there; rising lists. Nothing of the program is named here. -/
namespace Go.Proofs.YtbejijgelljeaaaGreatDoor

theorem asg_digs {S : List Nat} : ∀ {vs : List Nat} {k i : Nat}, vs.Nodup → (h : i < vs.length) → (digs S vs k)[i]? = some (asg S vs k vs[i])
  | [], _, _, _, h => absurd h (by simp)
  | u :: vs, k, 0, _, _ => by simp [digs, asg]
  | u :: vs, k, i + 1, hn, h => by
    rw [List.nodup_cons] at hn
    have h' : i < vs.length := by simpa using h
    have e : ¬ vs[i] = u := fun e => hn.1 (by rw [← e]; exact List.getElem_mem h')
    rw [digs, List.getElem?_cons_succ, asg_digs hn.2 h', List.getElem_cons_succ, asg, if_neg e]
/-- An assignment as a list of all variables. -/
def spr (n : Nat) (f : Nat → Nat) : List Nat := (List.range n).map f
theorem spr_length (n : Nat) (f : Nat → Nat) : (spr n f).length = n := by simp [spr]
theorem spr_get {n : Nat} {f : Nat → Nat} {v : Nat} (h : v < n) : (spr n f)[v]'(by rw [spr_length]; exact h) = f v := by simp [spr]
theorem spr_get? {n : Nat} {f : Nat → Nat} {v : Nat} (h : v < n) : (spr n f)[v]? = some (f v) := by simp [spr, h]
theorem spr_congr {n : Nat} {f g : Nat → Nat} (h : ∀ v, v < n → f v = g v) : spr n f = spr n g := List.map_congr_left fun v hv => h v (List.mem_range.1 hv)
theorem spr_set {n : Nat} {f : Nat → Nat} (v x : Nat) : (spr n f).set v x = spr n (withV f v x) := by
  apply List.ext_getElem?
  intro u
  rw [List.getElem?_set]
  by_cases hu : u < n
  · rw [spr_get? hu, spr_get? hu, withV, spr_length]
    by_cases e : v = u
    · subst e; rw [if_pos rfl, if_pos hu, if_pos rfl]
    · rw [if_neg e, if_neg (fun h => e h.symm)]
  · rw [List.getElem?_eq_none (by rw [spr_length]; omega), List.getElem?_eq_none (by rw [spr_length]; omega), spr_length]
    by_cases e : v = u
    · rw [if_pos e, if_neg (by omega)]
    · rw [if_neg e]
/-- What is spread when i values are told. -/
def sprF (S vs : List Nat) (k i : Nat) : Nat → Nat := fun v => if v ∈ vs.take i then asg S vs k v else 0
theorem sprF_zero (S vs : List Nat) (k n : Nat) : spr n (sprF S vs k 0) = List.replicate n 0 := by
  apply List.ext_getElem
  · rw [spr_length, List.length_replicate]
  · intro i h1 h2
    rw [spr_get (by rw [spr_length] at h1; exact h1), List.getElem_replicate, sprF, List.take_zero, if_neg (by simp)]
theorem sprF_succ (S : List Nat) {vs : List Nat} (k n : Nat) {i : Nat} (h : i < vs.length) : (spr n (sprF S vs k i)).set vs[i] (asg S vs k vs[i]) = spr n (sprF S vs k (i + 1)) := by
  rw [spr_set]
  refine spr_congr fun v _ => ?_
  rw [withV, sprF, sprF, List.take_succ_eq_append_getElem h]
  by_cases e : v = vs[i]
  · rw [if_pos e, if_pos (by rw [e]; exact List.mem_append_right _ List.mem_cons_self), e]
  · rw [if_neg e]
    have : v ∈ vs.take i ++ [vs[i]] ↔ v ∈ vs.take i := ⟨fun h => (List.mem_append.1 h).elim id fun h => absurd (List.mem_singleton.1 h) e, List.mem_append_left _⟩
    simp only [this]
theorem sprF_all (S vs : List Nat) (k n : Nat) : spr n (sprF S vs k vs.length) = spr n (asg S vs k) := by
  refine spr_congr fun v _ => ?_
  rw [sprF, List.take_length]
  by_cases h : v ∈ vs
  · rw [if_pos h]
  · rw [if_neg h, asg_out h]
theorem pos_take (S : List Nat) (f : Nat → Nat) {vs : List Nat} {i : Nat} (h : i < vs.length) : pos S f (vs.take (i + 1)) = pos S f (vs.take i) * sz S vs[i] + f vs[i] := by
  rw [List.take_succ_eq_append_getElem h, pos_snoc]
theorem withV_lt {S : List Nat} {f : Nat → Nat} {v x : Nat} (hf : ∀ u, f u < sz S u) (hx : x < sz S v) (u : Nat) : withV f v x u < sz S u := by
  rw [withV]
  by_cases e : u = v
  · rw [if_pos e, e]; exact hx
  · rw [if_neg e]; exact hf u

/-- Two rising lists of the same numbers are the same. -/
theorem rise_ext : ∀ {a b : List Nat}, a.Pairwise (· < ·) → b.Pairwise (· < ·) → (∀ x, x ∈ a ↔ x ∈ b) → a = b
  | [], [], _, _, _ => rfl
  | [], y :: b, _, _, h => absurd ((h y).2 List.mem_cons_self) (by simp)
  | x :: a, [], _, _, h => absurd ((h x).1 List.mem_cons_self) (by simp)
  | x :: a, y :: b, ha, hb, h => by
    rw [List.pairwise_cons] at ha hb
    have e : x = y := by
      have h1 := (h x).1 List.mem_cons_self
      have h2 := (h y).2 List.mem_cons_self
      rw [List.mem_cons] at h1 h2
      rcases h1 with h1 | h1
      · exact h1
      · rcases h2 with h2 | h2
        · exact h2.symm
        · have := hb.1 x h1
          have := ha.1 y h2
          omega
    subst e
    rw [rise_ext ha.2 hb.2 fun z => ?_]
    constructor
    · intro hz
      have h1 := (h z).1 (List.mem_cons_of_mem _ hz)
      have := ha.1 z hz
      rw [List.mem_cons] at h1
      rcases h1 with h1 | h1
      · omega
      · exact h1
    · intro hz
      have h1 := (h z).2 (List.mem_cons_of_mem _ hz)
      have := hb.1 z hz
      rw [List.mem_cons] at h1
      rcases h1 with h1 | h1
      · omega
      · exact h1
theorem range_rise (n : Nat) : (List.range n).Pairwise (· < ·) := List.pairwise_lt_range
end Go.Proofs.YtbejijgelljeaaaGreatDoor


/- What the calls on tables answer, as plain functions of lists. -/
namespace Go.Proofs.YtbejijgelljeaaaGreatDoor
open Go.RowKit Go.Shelf

/-- A rational in lowest terms. -/
def qF (q : Rat) : Fr := (sgn q, nu q, de q)
theorem frV_qF (q : Rat) : frV (qF q) = .agg #[.bool (sgn q), .string (nu q), .string (de q)] := rfl
theorem frQ_qF (q : Rat) : frQ (qF q) = q := val_own q
/-- What stands at a place. -/
def celF (l : List Fr) (k : Nat) : Fr := l[k]?.getD frZ
theorem celF_eq {l : List Fr} {k : Nat} (h : k < l.length) : celF l k = l[k] := by rw [celF, List.getElem?_eq_getElem h]; rfl
theorem celF_size {l : List Fr} {k : Nat} (h : k < l.length) : (celF l k).2.1.size + (celF l k).2.2.size + 2 ≤ fw l := by rw [celF_eq h]; exact fw_mem (List.getElem_mem h)
/-- The first place that has the greatest number, of those up to k. -/
def bestN (l : List Fr) : Nat → Nat
  | 0 => 0
  | k + 1 => if cmpQ (frQ (celF l (bestN l k))) (frQ (celF l (k + 1))) < 0 then k + 1 else bestN l k
theorem bestN_le (l : List Fr) : ∀ k, bestN l k ≤ k
  | 0 => Nat.le_refl _
  | k + 1 => by
    have := bestN_le l k
    rw [bestN]
    by_cases h : cmpQ (frQ (celF l (bestN l k))) (frQ (celF l (k + 1))) < 0
    · rw [if_pos h]; omega
    · rw [if_neg h]; omega
/-- Norm's cells. -/
def normL (l : List Fr) : List Fr := l.map fun f => qF (frQ f * (1 / fsum l))
/-- Fix's cells. -/
def fixL (S vars rest : List Nat) (v x : Nat) (l : List Fr) : List Fr := (List.range (cnt S rest)).map fun K => qF (frQ (celF l (pos S (withV (asg S rest K) v x) vars)))
/-- What is left of so many. -/
def outN (most : Bool) (T : Nat → Fr) : Nat → Fr
  | 0 => T 0
  | k + 1 => if most then great (outN most T k) (T (k + 1)) else qF (frQ (outN most T k) + frQ (T (k + 1)))
/-- Out's cells. -/
def outL (S vars rest : List Nat) (v : Nat) (most : Bool) (l : List Fr) : List Fr := (List.range (cnt S rest)).map fun K => qF (frQ (outN most (fun x => celF l (pos S (withV (asg S rest K) v x) vars)) (sz S v - 1)))
/-- Product's cells. -/
def prodL (S va vb U : List Nat) (la lb : List Fr) : List Fr := (List.range (cnt S U)).map fun K => qF (frQ (celF la (pos S (asg S U K) va)) * frQ (celF lb (pos S (asg S U K) vb)))
/-- Product's variables. -/
def bothN (n : Nat) (a b : List Int) : List Nat := (List.range n).filter fun v => inB (v : Int) a || inB (v : Int) b
/-- A list without a variable. -/
def lessN (l : List Int) (v : Int) : List Int := l.filter fun u => !(u == v)
end Go.Proofs.YtbejijgelljeaaaGreatDoor


/- Plain: no number of a table is longer than so. -/
namespace Go.Proofs.YtbejijgelljeaaaGreatDoor
open Go.RowKit Go.Shelf

/-- No number is longer than so. -/
def Cw (m : Nat) (l : List Fr) : Prop := ∀ k, k < l.length → (celF l k).2.1.size + (celF l k).2.2.size + 2 ≤ m
theorem cw_of {m : Nat} {l : List Fr} (h : fw l ≤ m) : Cw m l := fun _ hk => Nat.le_trans (celF_size hk) h
theorem Cw.up {m n : Nat} {l : List Fr} (h : Cw m l) (hn : m ≤ n) : Cw n l := fun k hk => Nat.le_trans (h k hk) hn
end Go.Proofs.YtbejijgelljeaaaGreatDoor


/- How many bytes a list of fractions has; one fraction held against another beside errors. -/
namespace Go.Proofs.YtbejijgelljeaaaGreatDoor
open Go.RowKit

def sw : List Fr → Nat
  | [] => 0
  | f :: l => f.2.1.size + f.2.2.size + sw l
theorem sw_snoc (l : List Fr) (f : Fr) : sw (l ++ [f]) = sw l + (f.2.1.size + f.2.2.size) := by
  induction l with
  | nil => simp [sw]
  | cons g l ih => simp only [List.cons_append, sw, ih]; omega
theorem sw_take {l : List Fr} {k : Nat} (h : k < l.length) : sw (l.take (k + 1)) = sw (l.take k) + (l[k].2.1.size + l[k].2.2.size) := by
  rw [List.take_succ_eq_append_getElem h, sw_snoc]
theorem fw_sw (l : List Fr) : fw l = sw l + 2 * l.length := by
  induction l with
  | nil => rfl
  | cons f l ih => simp only [fw, sw, List.length_cons, ih]; omega

end Go.Proofs.YtbejijgelljeaaaGreatDoor


/- Package table: what Best holds, and its join. -/
namespace Go.Proofs.YtbejijgelljeaaaGreatDoor
open Go.RowKit Go.Shelf

theorem results_tmp_cell_tmp {w : World} {g : Nat} {neg : Bool} {num den : ByteArray} (h : Box w g neg num den) {fn : Func} {t p u : Tmp} (hr : fn.results = #[.tmp t, .cell p 33, .tmp u]) (tmps : Array Value) (hp : tmps.getD p undef = .pointer (some ⟨g, 0, none⟩)) :
    (results fn tmps).run Tryz.prog w = .ok (.tuple #[tmps.getD t undef, .agg #[.bool neg, .string num, .string den], tmps.getD u undef]) w := by
  have hp' : tmps[p]?.getD undef = .pointer (some ⟨g, 0, none⟩) := by simpa using hp
  simp [results, hr, hp', asAddr, run_loadVar_row w g _ 33 _ _ _ h Tryz.underlying33 rfl (by kernel_rfl)]
/-- A list of ints does not lie in a fraction's block. -/
theorem IntS.far3 {V : World} {c : Option Addr} {l : List Int} {g : Nat} {n : Bool} {x y : ByteArray} (h : IntS V c l) (hb : Box V g n x y) (j : Nat) (u : Value) : IntS (V.setCell ⟨g, j, none⟩ u) c l := fun k hk => by
  obtain ⟨g', o, rfl, hlt, hc⟩ := h k hk
  have hne : ¬ g' = g := fun e => by
    subst e
    rw [cell_of_row V g' (o + k) _ _ (0, 0) hb] at hc
    match hm : o + k with
    | 0 => rw [hm] at hc; simp at hc
    | 1 => rw [hm] at hc; simp at hc
    | 2 => rw [hm] at hc; simp at hc
    | m + 3 => rw [hm] at hc; simp at hc
  exact ⟨g', o, rfl, Nat.lt_of_lt_of_le hlt (KeepsOthers.setCell V _ _).size, (World.cell?_setCell_other _ _ _ _ (fun e => hne (congrArg Addr.block e).symm)).trans hc⟩
theorem IntS.put3 {V : World} {c : Option Addr} {l : List Int} {g : Nat} {n : Bool} {x y : ByteArray} (h : IntS V c l) (hb : Box V g n x y) (n' : Bool) (x' y' : ByteArray) : IntS (((V.setCell ⟨g, 0, none⟩ (.bool n')).setCell ⟨g, 1, none⟩ (.string x')).setCell ⟨g, 2, none⟩ (.string y')) c l := by
  have h1 : Box (V.setCell ⟨g, 0, none⟩ (.bool n')) g n' x y := heap_setCell_same V g 0 _ _ (.bool n') hb
  have h2 : Box ((V.setCell ⟨g, 0, none⟩ (.bool n')).setCell ⟨g, 1, none⟩ (.string x')) g n' x' y := heap_setCell_same _ g 1 _ _ (.string x') h1
  exact ((h.far3 hb 0 _).far3 h1 1 _).far3 h2 2 _

/-- What Best answers. -/
def bestV (sizes vars : List Int) (l : List Fr) : List Nat := if checkA sizes vars l.length = 0 then digs (toN sizes) (toN vars) (bestN l (l.length - 1)) else []
def bestF (sizes vars : List Int) (l : List Fr) : Fr := if checkA sizes vars l.length = 0 then qF (frQ (celF l (bestN l (l.length - 1)))) else frZ
theorem checkA_parts {sizes vars : List Int} {m : Nat} (h : checkA sizes vars m = 0) : Fine sizes ∧ Up vars sizes.length ∧ m = cnt (toN sizes) (toN vars) := by
  rw [checkA] at h
  by_cases h1 : countB sizes vars = true
  · rw [if_pos h1] at h
    by_cases h2 : m = cnt (toN sizes) (toN vars)
    · exact ⟨(countB_parts h1).1, (countB_parts h1).2, h2⟩
    · rw [if_neg h2] at h; omega
  · rw [if_neg h1] at h; omega
theorem checkA_pos {sizes vars : List Int} {m : Nat} (h : checkA sizes vars m = 0) : 1 ≤ m := by
  obtain ⟨h1, h2, h3⟩ := checkA_parts h
  rw [h3]
  exact cnt_pos h1.pos _
end Go.Proofs.YtbejijgelljeaaaGreatDoor


/- Lists of ints: clones, what is in them, lists without one. -/
namespace Go.Proofs.YtbejijgelljeaaaGreatDoor
open Go.RowKit Go.Shelf Go.Sort Go.Lib

/-- A list's place is new, and an empty one has no room. -/
def NewS (B : Nat) (b : Option Addr) (cb : Nat) : Prop := (b = none → cb = 0) ∧ ∀ g o, b = some ⟨g, o, none⟩ → B ≤ g
theorem NewS.up {B C : Nat} {b : Option Addr} {cb : Nat} (h : NewS B b cb) (hC : C ≤ B) : NewS C b cb := ⟨h.1, fun g o e => Nat.le_trans hC (h.2 g o e)⟩
theorem NewS.nil (B : Nat) : NewS B Option.none 0 := ⟨fun _ => rfl, fun g o e => by cases e⟩
theorem NewS.at {B G cb : Nat} (h : B ≤ G) : NewS B (Option.some ⟨G, 0, Option.none⟩) cb := ⟨(fun e => by cases e), fun g o e => by cases e; exact h⟩
/-- A list of ints in memory of its own. -/
def RwI (w : World) (B : Nat) (v : Value) (l : List Int) : Prop := w.ownsRow B 3 1 v l.length (l.map (Value.int .i64))
theorem RwI.cases {w : World} {B : Nat} {v : Value} {l : List Int} (h : RwI w B v l) : (v = .slice none 0 0 ∧ l = []) ∨ ∃ g cap, v = .slice (some ⟨g, 0, none⟩) l.length cap ∧ B ≤ g ∧ g < w.heap.size ∧ l.length ≤ cap ∧ cap ≤ maxLen ∧ Holds (Value.int .i64) w g 0 l.toArray := by
  rcases h.2 with ⟨h1, h2⟩ | ⟨g, cap, cur, h1, h2, h3, h4, h5, h6, h7⟩
  · exact .inl ⟨h1, List.length_eq_zero_iff.1 h2⟩
  · refine .inr ⟨g, cap, h1, h2, (Array.getElem?_eq_some_iff.1 h3).1, h4, h5, fun j hj => ?_⟩
    have hj' : j < l.length := by simpa using hj
    refine ⟨?_, frozen_of_row w g _ _ _ h3⟩
    rw [Nat.zero_add, cell_of_row w g j _ _ (0, 0) h3]
    have e : cur[j]? = (cur.toList.take (l.length * 1))[j]? := by
      rw [List.getElem?_take, if_pos (by omega), Array.getElem?_toList]
    rw [e, h7, List.getElem?_map, List.getElem?_eq_getElem hj']
    simp [hj']
theorem holds_ints {w : World} {g : Nat} {d : Array Int} {l : List Int} (h : Holds (Value.int .i64) w g 0 d) (hg : g < w.heap.size) (hl : ∀ j (hj : j < l.length), ∃ hd : j < d.size, d[j] = l[j]) : IntS w (some ⟨g, 0, none⟩) l := fun k hk => by
  obtain ⟨hd, e⟩ := hl k hk
  refine ⟨g, 0, rfl, hg, ?_⟩
  have := (h k hd).1
  rw [getElem!_pos d k hd, e] at this
  exact this
theorem RwI.ints {w : World} {B : Nat} {v : Value} {l : List Int} (h : RwI w B v l) : ∃ d cd, v = .slice d l.length cd ∧ IntS w d l := by
  rcases h.cases with ⟨rfl, rfl⟩ | ⟨g, cap, rfl, _, hg, _, _, hh⟩
  · exact ⟨none, 0, rfl, fun k hk => absurd hk (by simp)⟩
  · exact ⟨_, _, rfl, holds_ints hh hg fun j hj => ⟨by simpa using hj, by simp⟩⟩
theorem intS_cells {w : World} {b o : Nat} {l : List Int} (h : IntS w (some ⟨b, o, none⟩) l) : ∀ j, j < l.length → w.cell? ⟨b, o + j, none⟩ = some (.int .i64 (l.getD j 0)) := fun j hj => by
  obtain ⟨g, o', e, _, hc⟩ := h j hj
  cases e
  rw [hc, List.getD_eq_getElem?_getD, List.getElem?_eq_getElem hj]
  rfl
theorem below_sorted {B g n : Nat} {a w : World} {os : Array Obj} (d : Array Int) (h : Below B a w) (hw : B ≤ w.heap.size) (hg : B ≤ g) : Below B a (grow (putRow (Value.int .i64) (Sort.ahead w n) g 0 d) os) :=
  h.grown (grownBy_sortedI d) hw fun k e => by cases e; exact hg
theorem below_put_row {B g n : Nat} {a w : World} (d : Array Int) (h : Below B a w) (hw : B ≤ w.heap.size) (hg : B ≤ g) : Below B a (putRow (Value.int .i64) (Sort.ahead w n) g 0 d) := by
  have := below_sorted (n := n) (os := #[]) d h hw hg
  rwa [grow_empty] at this

end Go.Proofs.YtbejijgelljeaaaGreatDoor


/- Tables as answers. -/
namespace Go.Proofs.YtbejijgelljeaaaGreatDoor
open Go.RowKit Go.Shelf

/-- A table and an error are answered. -/
def TabA (vars : List Int) (l : List Fr) (k : Int) (e : Ending) (w' : World) : Prop := ∃ (b c : Option Addr) (cb cc : Nat), e = .returned (.tuple #[.agg #[.slice b vars.length cb, .slice c l.length cc], .int .i64 k]) ∧ IntS w' b vars ∧ FrS w' c l
/-- A table that may be handed on: its lists are new. -/
def TabA2 (B : Nat) (vars : List Int) (l : List Fr) (k : Int) (e : Ending) (w' : World) : Prop := ∃ (b c : Option Addr) (cb cc : Nat), e = .returned (.tuple #[.agg #[.slice b vars.length cb, .slice c l.length cc], .int .i64 k]) ∧ IntS w' b vars ∧ FrS w' c l ∧ NewS B b cb ∧ NewS B c cc
theorem TabA2.weak {B : Nat} {vars : List Int} {l : List Fr} {k : Int} {e : Ending} {w' : World} (h : TabA2 B vars l k e w') : TabA vars l k e w' := by
  obtain ⟨b, c, cb, cc, h1, h2, h3, _⟩ := h
  exact ⟨b, c, cb, cc, h1, h2, h3⟩
theorem TabA.empty (k : Int) (w : World) : TabA [] [] k (.returned (.tuple #[.agg #[.slice none 0 0, .slice none 0 0], .int .i64 k])) w := ⟨none, none, 0, 0, rfl, fun k hk => absurd hk (by simp), fun k hk => absurd hk (by simp)⟩
/-- Neither ints nor fractions lie in a table's block. -/
def SlV (v : Value) : Prop := ∃ a n c, v = Value.slice a n c
theorem slv (a : Option Addr) (n c : Nat) : SlV (.slice a n c) := ⟨a, n, c, rfl⟩
theorem below_put2 {B : Nat} {a w : World} (h : Below B a w) {g : Nat} (hg : B ≤ g) (u v : Value) : Below B a ((w.setCell ⟨g, 0, none⟩ u).setCell ⟨g, 1, none⟩ v) := (h.setCell hg u).setCell hg v

end Go.Proofs.YtbejijgelljeaaaGreatDoor


/- Lists of ints: slices.Grow of nothing, slices.Concat of two. -/
namespace Go.Proofs.YtbejijgelljeaaaGreatDoor
open Go.RowKit Go.Shelf

theorem wpList_append_ints {w : World} {ops : Array Oper} {rest : List Oper} {o : Oper} {a : Act} {Q : Exit → Act → World → Prop} (hgd : o.guard = none) (s x : Operand)
    (ho : o.op = .call { callee := .builtin .append, args := #[s, x], argTypes := #[22, 22] }) (base : Nat) (v : Value) (xs la : List Int) (hs : a.eval s = v) (hown : RwI w base v xs) (p : Option Addr) (ca : Nat) (hx : a.eval x = .slice p la.length ca) (hi : IntS w p la) (hp : p = none → ca = 0) (hlen : xs.length + la.length ≤ 100000) (hbase : base ≤ w.heap.size)
    (h : ∀ v' w', RwI w' base v' (xs ++ la) → w.grownBy w' v.ownBlock → wpList Tryz.prog ops Q rest (a.put o.dst v') w') : wpList Tryz.prog ops Q (o :: rest) a w := by
  obtain ⟨i0, hi0, hz0, hz1, hz2⟩ := info_parts Tryz.infoInt
  cases p with
  | none =>
    have hl : la = [] := by
      cases la with
      | nil => rfl
      | cons x l => obtain ⟨g, o, e, _⟩ := hi 0 (by simp); cases e
    subst hl
    have h0 := hp rfl
    subst h0
    have h1 := h v w (by rw [List.append_nil]; exact hown) ⟨rfl, rfl, rfl, Nat.le_refl _, fun _ _ _ => rfl⟩
    exact wpList_append_own_none hgd s x 22 ho base 3 i0 1 Tryz.underlying22 hi0 v xs.length _ hs hown hx h1
  | some ad =>
    refine wpList_append_own _ hgd s x 22 ho base 3 i0 (.int .i64 0) 1 8 Tryz.underlying22 hi0 hz0 hz1 hz2 rfl (by decide) v xs.length _ hs hown ad la.length ca (la.map (Value.int .i64)) hx (by simp) ?_ ?_ (by unfold maxLen; omega) (by omega) hbase ?_
    · intro j u hj
      rw [List.getElem?_map] at hj
      cases hq : la[j]? with
      | none => rw [hq] at hj; cases hj
      | some z =>
        rw [hq] at hj
        cases hj
        obtain ⟨hj1, hj2⟩ := List.getElem?_eq_some_iff.1 hq
        obtain ⟨g, o', e, _, hc⟩ := hi j hj1
        cases e
        rw [← hj2]
        rw [Addr.add]
        by_cases h0 : j = 0
        · subst h0; simpa using hc
        · simpa [h0] using hc
    · intro u hu
      obtain ⟨z, _, rfl⟩ := List.mem_map.1 hu
      rfl
    · intro v' w' h1 h2 _
      refine h v' w' ?_ h2
      rw [RwI, List.length_append, List.map_append]
      exact h1

/-- The first so many of two lists. -/
def firstOf (la lb : List Int) (i : Nat) : List Int := if i = 0 then [] else if i = 1 then la else la ++ lb
theorem RwI.own {w : World} {B : Nat} {v : Value} {l : List Int} (h : RwI w B v l) : ∀ k, v.ownBlock = some k → B ≤ k := by
  intro k hk
  rcases h.2 with ⟨rfl, _⟩ | ⟨g, cap, cur, rfl, h2, _⟩
  · cases hk
  · cases hk
    exact h2

theorem firstOf_len {la lb : List Int} (hla : la.length ≤ 1000) (hlb : lb.length ≤ 1000) (i : Nat) : (firstOf la lb i).length ≤ 2000 := by
  rw [firstOf]
  by_cases h : i = 0
  · rw [if_pos h]; simp
  · rw [if_neg h]
    by_cases h1 : i = 1
    · rw [if_pos h1]; omega
    · rw [if_neg h1, List.length_append]; omega

end Go.Proofs.YtbejijgelljeaaaGreatDoor


/- Package graph: order, read, Check. -/
namespace Go.Proofs.YtbejijgelljeaaaGreatDoor
open Go.RowKit Go.Shelf

theorem one_int (w : World) (u : Int) : IntS (w.alloc (.cells #[.int .i64 u] 3)) (some ⟨w.heap.size, 0, none⟩) [u] := fun k hk => by
  obtain rfl : k = 0 := by simp at hk; omega
  exact ⟨w.heap.size, 0, rfl, by simp, (Boxed.new w _ _).cell⟩
theorem RwI.under {w w' : World} {B : Nat} {v : Value} {l : List Int} (h : RwI w B v l) (hb : Below w.heap.size w w') : RwI w' B v l := by
  refine ⟨h.1, h.2.imp id ?_⟩
  rintro ⟨g, cap, cur, h1, h2, h3, h4⟩
  exact ⟨g, cap, cur, h1, h2, (hb.block g (Array.getElem?_eq_some_iff.1 h3).1).trans h3, h4⟩
theorem free_out {P : List (List Nat)} {out : List Nat} {v : Nat} (h : v ∈ out) : freeB P out v = false := by simp [freeB, h]
theorem free_par {P : List (List Nat)} {out p : List Nat} {v : Nat} (hp : P.getD v [] = p) (h : ¬ ∀ u ∈ p, u ∈ out) : freeB P out v = false := by rw [freeB, hp, decide_eq_false h, Bool.and_false]
theorem free_yes {P : List (List Nat)} {out p : List Nat} {v : Nat} (hp : P.getD v [] = p) (h : ¬ v ∈ out) (h' : ∀ u ∈ p, u ∈ out) : freeB P out v = true := by rw [freeB, hp, decide_eq_true h', decide_eq_false h]; rfl

end Go.Proofs.YtbejijgelljeaaaGreatDoor


/- Nets in memory; their sizes and names. -/
namespace Go.Proofs.YtbejijgelljeaaaGreatDoor
open Go.RowKit Go.Shelf

abbrev Vr : Type := ByteArray × List ByteArray
/-- A list of variables in memory. -/
def VsS (w : World) (a : Option Addr) (V : List Vr) : Prop := ∀ k (h : k < V.length), ∃ g o b c, a = some ⟨g, o, none⟩ ∧ g < w.heap.size ∧ w.cell? ⟨g, o + k * 2, none⟩ = some (.string V[k].1) ∧ w.cell? ⟨g, o + k * 2 + 1, none⟩ = some (.slice b V[k].2.length c) ∧ StS w b V[k].2 ∧ V[k].2.length ≤ c
theorem VsS.below {w w' : World} {a : Option Addr} {V : List Vr} (h : VsS w a V) (hb : Below w.heap.size w w') : VsS w' a V := fun k hk => by
  obtain ⟨g, o, b, c, h1, h2, h3, h4, h5, h6⟩ := h k hk
  exact ⟨g, o, b, c, h1, Nat.lt_of_lt_of_le h2 hb.size, (hb.cell (p := ⟨g, o + k * 2, none⟩) h2).trans h3, (hb.cell (p := ⟨g, o + k * 2 + 1, none⟩) h2).trans h4, h5.below hb, h6⟩
/-- How many values the variables have. -/
def sizesN (V : List Vr) : List Nat := V.map fun x => x.2.length
theorem sizesN_length (V : List Vr) : (sizesN V).length = V.length := by simp [sizesN]
theorem sizesN_get {V : List Vr} {i : Nat} (h : i < V.length) : (sizesN V)[i]? = some V[i].2.length := by simp [sizesN, h]

end Go.Proofs.YtbejijgelljeaaaGreatDoor


/- Nets: the answer's Sizes; namesOf, checkVars. -/
namespace Go.Proofs.YtbejijgelljeaaaGreatDoor
open Go.RowKit Go.Shelf

theorem iL_take_succ {l : List Nat} {i x : Nat} (h : l[i]? = some x) : iL (l.take (i + 1)) = iL (l.take i) ++ [(x : Int)] := by
  obtain ⟨h1, h2⟩ := List.getElem?_eq_some_iff.1 h
  rw [List.take_succ_eq_append_getElem h1, h2, iL_append]; rfl
theorem made_strs (n : Nat) : (madeCells (Value.string ⟨#[]⟩).cells (n * 1)).toList = (List.replicate n (⟨#[]⟩ : ByteArray)).map Value.string := by
  rw [show (Value.string ⟨#[]⟩).cells = #[Value.string ⟨#[]⟩] from rfl, toList_madeCells_one, Nat.mul_one, List.map_replicate]
/-- Texts, as far as they are written. -/
def partS (l : List ByteArray) (i : Nat) : List ByteArray := l.take i ++ List.replicate (l.length - i) ⟨#[]⟩
theorem partS_zero (l : List ByteArray) : partS l 0 = List.replicate l.length ⟨#[]⟩ := by simp [partS]
theorem partS_length (l : List ByteArray) {i : Nat} (h : i ≤ l.length) : (partS l i).length = l.length := by simp [partS]; omega
theorem partS_all (l : List ByteArray) : partS l l.length = l := by simp [partS]
theorem partS_set (l : List ByteArray) {i : Nat} (h : i < l.length) : (partS l i).set i l[i] = partS l (i + 1) := by
  have h1 : l.length - i = (l.length - (i + 1)) + 1 := by omega
  have h2 : (l.take i).length = i := by rw [List.length_take]; omega
  rw [partS, partS, h1, List.replicate_succ, List.set_append_right _ _ (by omega), h2, Nat.sub_self, List.set_cons_zero, List.take_succ_eq_append_getElem h, List.append_assoc]
  rfl
/-- The variables' names. -/
def namesV (V : List Vr) : List ByteArray := V.map fun x => x.1
theorem namesV_length (V : List Vr) : (namesV V).length = V.length := by simp [namesV]
theorem namesV_get {V : List Vr} {i : Nat} (h : i < V.length) : (namesV V)[i]? = some V[i].1 := by simp [namesV, h]

end Go.Proofs.YtbejijgelljeaaaGreatDoor


/- Nets: checkVars. -/
namespace Go.Proofs.YtbejijgelljeaaaGreatDoor
open Go.RowKit Go.Shelf

/-- What is wrong with a variable's values. -/
def varE (V : List Vr) (i : Nat) : Int := if 1 ≤ (V.getD i (⟨#[]⟩, [])).2.length ∧ (V.getD i (⟨#[]⟩, [])).2.length ≤ 4 then namesE (V.getD i (⟨#[]⟩, [])).2 else 2
/-- What is wrong with variables. -/
def varsE (V : List Vr) : Int := if namesE (namesV V) = 0 then firstE (varE V) V.length else namesE (namesV V)
theorem getV {V : List Vr} {i : Nat} (h : i < V.length) : V.getD i (⟨#[]⟩, []) = V[i] := by rw [List.getD_eq_getElem?_getD, List.getElem?_eq_getElem h]; rfl
/-- Sizes of all texts. -/
def VSm (V : List Vr) : Prop := V.length ≤ 5000 ∧ ∀ x ∈ V, x.1.size ≤ 5000 ∧ x.2.length ≤ 5000 ∧ ∀ s ∈ x.2, s.size ≤ 5000
theorem varE_lim {V : List Vr} {i : Nat} (h : i < V.length) (e : ¬ (1 ≤ V[i].2.length ∧ V[i].2.length ≤ 4)) : varE V i = 2 := by rw [varE, getV h, if_neg e]
theorem varE_names {V : List Vr} {i : Nat} (h : i < V.length) (e : 1 ≤ V[i].2.length ∧ V[i].2.length ≤ 4) : varE V i = namesE V[i].2 := by rw [varE, getV h, if_pos e]

end Go.Proofs.YtbejijgelljeaaaGreatDoor


/- Package graph: read, Check. -/
namespace Go.Proofs.YtbejijgelljeaaaGreatDoor
open Go.RowKit Go.Shelf

theorem gB_parts {L : List (List Int)} (h : gB L = true) : 1 ≤ L.length ∧ L.length ≤ 8 ∧ allRis L L.length = true ∧ noSelf L = true := by
  rw [gB, Bool.and_eq_true, Bool.and_eq_true, decide_eq_true_iff] at h
  exact ⟨h.1.1.1, h.1.1.2, h.1.2, h.2⟩
theorem gB_par {L : List (List Int)} (h : gB L = true) : ∀ p ∈ parN L, ∀ u ∈ p, u < 8 := by
  obtain ⟨h1, h2, h3, h4⟩ := gB_parts h
  intro p hp
  obtain ⟨l, hl, rfl⟩ := List.mem_map.1 hp
  exact ris_all h2 (List.all_eq_true.1 h3 l hl)

end Go.Proofs.YtbejijgelljeaaaGreatDoor


/- The document's answer: listsOK, Order, GraphCheck. -/
namespace Go.Proofs.YtbejijgelljeaaaGreatDoor
open Go.RowKit Go.Shelf

theorem inB_mem {k : Int} {l : List Int} : inB k l = true ↔ k ∈ l := by simp [inB]
theorem inB_nat {l : List Int} {x : Int} (hx : 0 ≤ x) (hl : ∀ y ∈ l, 0 ≤ y) : inB x l = decide (x.toNat ∈ toN l) := by
  rw [Bool.eq_iff_iff, decide_eq_true_iff, inB_mem]
  constructor
  · intro h; exact List.mem_map.2 ⟨x, h, rfl⟩
  · intro h
    obtain ⟨y, hy, e⟩ := List.mem_map.1 h
    have := hl y hy
    obtain rfl : y = x := by omega
    exact hy
theorem inB_iL (l : List Nat) {x : Int} (hx : 0 ≤ x) : inB x (iL l) = decide (x.toNat ∈ l) := by
  rw [inB_nat hx fun y hy => by obtain ⟨z, _, rfl⟩ := List.mem_map.1 hy; omega, toN_iL]
theorem ris_nonneg {l : List Int} {n : Nat} (h : risB l n = true) : ∀ y ∈ l, 0 ≤ y := fun y hy => by
  obtain ⟨i, hi, rfl⟩ := List.getElem_of_mem hy
  exact ((ris_up h).each i hi).1
theorem gB_ris {L : List (List Int)} {i : Nat} (h : i < L.length) (e : risB L[i] L.length = false) : gB L = false := by rw [gB, allRis_bad h e]; simp
theorem gB_self {L : List (List Int)} {i : Nat} (h : i < L.length) (e : i ∈ toN L[i]) : gB L = false := by rw [gB, noSelf_bad h e]; simp
theorem gB_yes {L : List (List Int)} (h1 : 1 ≤ L.length) (h2 : L.length ≤ 8) (h : ∀ i (hi : i < L.length), risB L[i] L.length = true ∧ ¬ i ∈ toN L[i]) : gB L = true := by
  rw [gB, decide_eq_true (p := 1 ≤ L.length ∧ L.length ≤ 8) ⟨h1, h2⟩, noSelf_good fun i hi => (h i hi).2]
  have : allRis L L.length = true := List.all_eq_true.2 fun l hl => by
    obtain ⟨i, hi, rfl⟩ := List.getElem_of_mem hl
    exact (h i hi).1
  rw [this]; rfl

end Go.Proofs.YtbejijgelljeaaaGreatDoor


/- The document's answer: Order, GraphCheck. -/
namespace Go.Proofs.YtbejijgelljeaaaGreatDoor
open Go.RowKit Go.Shelf

/-- The least from j on that may come next. -/
def fromN (P : List (List Nat)) (out : List Nat) (j : Nat) : Option Nat := (List.range' j (P.length - j)).find? (freeB P out)
def encO : Option Nat → Int
  | some v => (v : Int)
  | none => -1
theorem fromN_zero (P : List (List Nat)) (out : List Nat) : fromN P out 0 = nextV P out := by rw [fromN, nextV, List.range_eq_range']; rfl
theorem fromN_end (P : List (List Nat)) (out : List Nat) : fromN P out P.length = none := by rw [fromN, Nat.sub_self]; rfl
theorem fromN_step {P : List (List Nat)} {out : List Nat} {j : Nat} (h : j < P.length) : fromN P out j = if freeB P out j = true then some j else fromN P out (j + 1) := by
  rw [fromN, fromN, show P.length - j = (P.length - (j + 1)) + 1 by omega, List.range'_succ, List.find?_cons]
  cases freeB P out j <;> rfl
/-- Is a node free as far as i of its parents say? -/
def freeI (P : List (List Nat)) (out : List Nat) (v i : Nat) : Bool := !decide (v ∈ out) && decide (∀ u ∈ (P.getD v []).take i, u ∈ out)
theorem freeI_zero (P : List (List Nat)) (out : List Nat) (v : Nat) : freeI P out v 0 = !decide (v ∈ out) := by simp [freeI]
theorem freeI_succ {P : List (List Nat)} {out p : List Nat} {v i : Nat} (hp : P.getD v [] = p) (h : i < p.length) : freeI P out v (i + 1) = (freeI P out v i && decide (p[i] ∈ out)) := by
  rw [freeI, freeI, hp, List.take_succ_eq_append_getElem h, Bool.and_assoc]
  congr 1
  rw [Bool.eq_iff_iff, Bool.and_eq_true, decide_eq_true_iff, decide_eq_true_iff, decide_eq_true_iff]
  constructor
  · intro H
    exact ⟨fun u hu => H u (List.mem_append_left _ hu), H _ (List.mem_append_right _ List.mem_cons_self)⟩
  · rintro ⟨H1, H2⟩ u hu
    rcases List.mem_append.1 hu with hu | hu
    · exact H1 u hu
    · rw [List.mem_singleton.1 hu]; exact H2
theorem freeI_all {P : List (List Nat)} {out p : List Nat} {v : Nat} (hp : P.getD v [] = p) : freeI P out v p.length = freeB P out v := by
  rw [freeI, freeB, hp, List.take_length]

end Go.Proofs.YtbejijgelljeaaaGreatDoor


/- The document's answer: what a table has for an assignment of all variables. -/
namespace Go.Proofs.YtbejijgelljeaaaGreatDoor
open Go.RowKit Go.Shelf

theorem RowI_get {l : List Nat} {i : Nat} (h : i < (iL l).length) : (iL l)[i] = ((l[i]'(by rw [iL_length] at h; exact h) : Nat) : Int) := by simp [iL]

end Go.Proofs.YtbejijgelljeaaaGreatDoor


/- The document's answer: an assignment as one of all variables; a list without one. -/
namespace Go.Proofs.YtbejijgelljeaaaGreatDoor
open Go.RowKit Go.Shelf

theorem lessN_take {vars : List Int} {v : Int} {i : Nat} (h : i < vars.length) : lessN (vars.take (i + 1)) v = lessN (vars.take i) v ++ if vars[i] = v then [] else [vars[i]] := by
  rw [List.take_succ_eq_append_getElem h, lessN, lessN, List.filter_append]
  congr 1
  by_cases e : vars[i] = v
  · simp [e]
  · simp [e]

end Go.Proofs.YtbejijgelljeaaaGreatDoor


/- Package table: the closures of Fix and Out. -/
namespace Go.Proofs.YtbejijgelljeaaaGreatDoor
open Go.RowKit Go.Shelf

end Go.Proofs.YtbejijgelljeaaaGreatDoor


/- Package table: Fix. -/
namespace Go.Proofs.YtbejijgelljeaaaGreatDoor
open Go.RowKit Go.Shelf

theorem up_iff {l : List Int} {n : Nat} : Up l n ↔ (∀ x ∈ l, 0 ≤ x ∧ x < n) ∧ l.Pairwise (· < ·) := by
  constructor
  · intro h
    refine ⟨fun x hx => ?_, List.pairwise_iff_getElem.2 fun i j hi hj hij => h.lt i j hj hij⟩
    obtain ⟨i, hi, rfl⟩ := List.getElem_of_mem hx
    exact h.each i hi
  · rintro ⟨h1, h2⟩
    exact ⟨fun i hi => h1 _ (List.getElem_mem hi), fun i j hj hi => List.pairwise_iff_getElem.1 h2 i j (by omega) hj hi⟩
theorem lessN_up {vars : List Int} {n : Nat} (h : Up vars n) (v : Int) : Up (lessN vars v) n := by
  rw [up_iff] at h ⊢
  exact ⟨fun x hx => h.1 x (List.mem_filter.1 hx).1, h.2.filter _⟩
theorem lessN_out {vars : List Int} {n v : Nat} (h : Up vars n) : ¬ v ∈ toN (lessN vars (v : Int)) := fun hm => by
  obtain ⟨x, hx, e⟩ := List.mem_map.1 hm
  have h1 := (up_iff.1 (lessN_up h v)).1 x hx
  have h2 := (List.mem_filter.1 hx).2
  simp at h2
  omega
theorem fixL_length (S vars rest : List Nat) (v x : Nat) (l : List Fr) : (fixL S vars rest v x l).length = cnt S rest := by simp [fixL]
theorem fixL_get (S vars rest : List Nat) (v x : Nat) (l : List Fr) {k : Nat} (h : k < (fixL S vars rest v x l).length) : (fixL S vars rest v x l)[k] = qF (frQ (celF l (pos S (withV (asg S rest k) v x) vars))) := by simp [fixL]
/-- The place of an assignment with one more value is a place. -/
theorem with_lt {sizes vars rest : List Int} {v x K m : Nat} (hk : checkA sizes vars m = 0) (hK : K < cnt (toN sizes) (toN rest)) (hx : x < sz (toN sizes) v) : pos (toN sizes) (withV (asg (toN sizes) (toN rest) K) v x) (toN vars) < m := by
  obtain ⟨h1, h2, h3⟩ := checkA_parts hk
  rw [h3]
  exact pos_lt _ (withV_lt (fun u => asg_lt h1.pos _ _ u hK) hx) _
end Go.Proofs.YtbejijgelljeaaaGreatDoor


/- The document's answer: tables that grow cell by cell. -/
namespace Go.Proofs.YtbejijgelljeaaaGreatDoor
open Go.RowKit Go.Shelf

/-- A list of fractions in memory of its own. -/
def RwF (w : World) (B : Nat) (v : Value) (l : List Fr) : Prop := w.ownsRow B 33 3 v l.length (frC l)
theorem RwF.empty (w : World) (B : Nat) : RwF w B (.slice none 0 0) [] := ⟨rfl, .inl ⟨rfl, rfl⟩⟩
theorem RwF.below {w w' : World} {B : Nat} {v : Value} {l : List Fr} (h : RwF w B v l) (hb : Below w.heap.size w w') : RwF w' B v l := by
  refine ⟨h.1, h.2.imp id ?_⟩
  rintro ⟨g, cap, cur, h1, h2, h3, h4⟩
  exact ⟨g, cap, cur, h1, h2, (hb.block g (Array.getElem?_eq_some_iff.1 h3).1).trans h3, h4⟩
theorem RwF.off {w : World} {B : Nat} {v : Value} {l : List Fr} (h : RwF w B v l) (b j : Nat) (y : Value) (hb : b < B) : RwF (w.setCell ⟨b, j, none⟩ y) B v l := by
  refine ⟨h.1, h.2.imp id ?_⟩
  rintro ⟨g, cap, cur, h1, h2, h3, h4⟩
  exact ⟨g, cap, cur, h1, h2, (Below.heap_setCell w ⟨b, j, none⟩ y g (by show g ≠ b; omega)).trans h3, h4⟩
theorem RwF.own {w : World} {B : Nat} {v : Value} {l : List Fr} (h : RwF w B v l) : ∀ k, v.ownBlock = some k → B ≤ k := by
  intro k hk
  rcases h.2 with ⟨rfl, _⟩ | ⟨g, cap, cur, rfl, h2, _⟩
  · cases hk
  · cases hk
    exact h2
theorem RwF.fr {w : World} {B : Nat} {v : Value} {l : List Fr} (h : RwF w B v l) : ∃ d cd, v = .slice d l.length cd ∧ FrS w d l := by
  rcases h.2 with ⟨h1, h2⟩ | ⟨g, cap, cur, h1, h2, h3, h4, h5, h6, h7⟩
  · have : l = [] := List.length_eq_zero_iff.1 h2
    subst this
    exact ⟨none, 0, h1, fun k hk => absurd hk (by simp)⟩
  · refine ⟨_, _, h1, fun k hk => ?_⟩
    obtain ⟨e1, e2, e3⟩ := frC_get l k hk
    have at_ : ∀ j, j < l.length * 3 → cur[j]? = (frC l)[j]? := fun j hj => by
      rw [← h7, List.getElem?_take, if_pos hj, Array.getElem?_toList]
    refine ⟨g, 0, rfl, (Array.getElem?_eq_some_iff.1 h3).1, ?_, ?_, ?_⟩
    · rw [cell_of_row w g _ _ _ (0, 0) h3, Nat.zero_add, at_ _ (by omega)]; exact e1
    · rw [cell_of_row w g _ _ _ (0, 0) h3, Nat.zero_add, at_ _ (by omega)]; exact e2
    · rw [cell_of_row w g _ _ _ (0, 0) h3, Nat.zero_add, at_ _ (by omega)]; exact e3
theorem RwF.slv {w : World} {B : Nat} {v : Value} {l : List Fr} (h : RwF w B v l) : SlV v := by
  obtain ⟨d, cd, e, _⟩ := h.fr
  exact ⟨d, _, cd, e⟩
theorem frC_snoc (l : List Fr) (f : Fr) : frC (l ++ [f]) = frC l ++ [.bool f.1, .string f.2.1, .string f.2.2] := by
  induction l with
  | nil => rfl
  | cons x l ih => simp only [List.cons_append, frC, ih]
theorem wpList_append_fr {w : World} {ops : Array Oper} {rest : List Oper} {o : Oper} {a : Act} {Q : Exit → Act → World → Prop} (hgd : o.guard = none) (s x : Operand)
    (ho : o.op = .call { callee := .builtin .append, args := #[s, x], argTypes := #[27, 27] }) (base : Nat) (v : Value) (l : List Fr) (f : Fr) (hs : a.eval s = v) (hown : RwF w base v l) (g : Nat) (hx : a.eval x = .slice (some ⟨g, 0, none⟩) 1 1) (hg : Box w g f.1 f.2.1 f.2.2) (hlen : l.length + 1 ≤ 100000) (hbase : base ≤ w.heap.size)
    (h : ∀ v' w', RwF w' base v' (l ++ [f]) → w.grownBy w' v.ownBlock → wpList Tryz.prog ops Q rest (a.put o.dst v') w') : wpList Tryz.prog ops Q (o :: rest) a w := by
  obtain ⟨i0, hi0, hz0, hz1, hz2⟩ := info_parts Tryz.infoFrac
  refine wpList_append_own _ hgd s x 27 ho base 33 i0 (.agg #[.bool false, .string ⟨#[]⟩, .string ⟨#[]⟩]) 3 40 Tryz.underlying27 hi0 hz0 hz1 hz2 rfl (by decide) v l.length _ hs hown ⟨g, 0, none⟩ 1 1 [.bool f.1, .string f.2.1, .string f.2.2] hx rfl ?_ ?_ (by unfold maxLen; omega) (by omega) hbase ?_
  · intro j u hj
    match j, hj with
    | 0, hj => cases hj; exact hg.c0
    | 1, hj => cases hj; exact hg.c1
    | 2, hj => cases hj; exact hg.c2
    | j + 3, hj => simp at hj
  · intro u hu
    simp only [List.mem_cons, List.not_mem_nil, or_false] at hu
    rcases hu with rfl | rfl | rfl <;> rfl
  · intro v' w' h1 h2 _
    refine h v' w' ?_ h2
    rw [RwF, List.length_append, frC_snoc]
    exact h1

end Go.Proofs.YtbejijgelljeaaaGreatDoor


/- The document's answer: Fix. -/
namespace Go.Proofs.YtbejijgelljeaaaGreatDoor
open Go.RowKit Go.Shelf

theorem countB_of {sizes vars : List Int} (h1 : Fine sizes) (h2 : Up vars sizes.length) : countB sizes vars = true := by
  rw [countB, Bool.and_eq_true]
  constructor
  · rw [fitB, Bool.and_eq_true, decide_eq_true_iff]
    refine ⟨⟨h1.one, h1.eight⟩, List.all_eq_true.2 fun x hx => ?_⟩
    obtain ⟨i, hi, rfl⟩ := List.getElem_of_mem hx
    rw [okSize, decide_eq_true_iff]
    exact h1.each i hi
  · rw [risB, List.all_eq_true]
    intro i hi
    have hi' := List.mem_range.1 hi
    rw [okAt, decide_eq_true_iff, getD_eq hi']
    refine ⟨(h2.each i hi').1, (h2.each i hi').2, fun h0 => ?_⟩
    rw [getD_eq (show i - 1 < vars.length by omega)]
    exact h2.lt (i - 1) i hi' (by omega)
theorem Canon_r {n : Bool} {x y : ByteArray} {w : World} (s1 : x.size + y.size ≤ 100000) :
    Calls Tryz.prog 39 #[.agg #[.bool n, .string x, .string y]] w fun e w' => e = .returned (frV (qF (val n x y))) ∧ Below w.heap.size w w' := rCanon_any n x y w (by omega) (by omega)

end Go.Proofs.YtbejijgelljeaaaGreatDoor


/- Nets: what is wrong with rows; the document's answer: NetCheck, as far as the names. -/
namespace Go.Proofs.YtbejijgelljeaaaGreatDoor
open Go.RowKit Go.Shelf

/-- Lists of fractions in memory. -/
def FsS (w : World) (a : Option Addr) (R : List (List Fr)) : Prop := ∀ k (h : k < R.length), ∃ g o b c, a = some ⟨g, o, none⟩ ∧ g < w.heap.size ∧ w.cell? ⟨g, o + k, none⟩ = some (.slice b R[k].length c) ∧ FrS w b R[k] ∧ R[k].length ≤ c
theorem FsS.below {w w' : World} {a : Option Addr} {R : List (List Fr)} (h : FsS w a R) (hb : Below w.heap.size w w') : FsS w' a R := fun k hk => by
  obtain ⟨g, o, b, c, h1, h2, h3, h4, h5⟩ := h k hk
  exact ⟨g, o, b, c, h1, Nat.lt_of_lt_of_le h2 hb.size, (hb.cell (p := ⟨g, o + k, none⟩) h2).trans h3, h4.below hb, h5⟩
/-- The i-th so many. -/
def chunkF (l : List Fr) (k i : Nat) : List Fr := (l.drop (i * k)).take k
/-- What is wrong with a variable's rows. -/
def rowE (S : List Nat) (L : List (List Int)) (R : List (List Fr)) (v : Nat) : Int :=
  if (R.getD v []).length = cnt S (toN (L.getD v [])) * sz S v then (if ((List.range (cnt S (toN (L.getD v [])))).all fun i => rowB (chunkF (R.getD v []) (sz S v) i)) = true then 0 else 9) else 8
/-- What is wrong with a net. -/
def netE (V : List Vr) (L : List (List Int)) (R : List (List Fr)) : Int :=
  if L.length = V.length ∧ R.length = V.length then (if gcE L = 0 then (if varsE V = 0 then firstE (rowE (sizesN V) L R) V.length else varsE V) else gcE L) else 8
theorem FrS.chunk {w : World} {g o : Nat} {l : List Fr} {k i m : Nat} (h : FrS w (some ⟨g, o, none⟩) l) (hm : (i + 1) * k ≤ l.length) (hk : m = k) : FrS w (some ⟨g, o + i * k * 3, none⟩) (chunkF l k i) ∧ (chunkF l k i).length = m := by
  have hlen : (chunkF l k i).length = k := by
    rw [chunkF, List.length_take, List.length_drop]
    have : (i + 1) * k = i * k + k := by rw [Nat.add_mul, Nat.one_mul]
    omega
  refine ⟨fun j hj => ?_, by rw [hlen, hk]⟩
  have e : (i + 1) * k = i * k + k := by rw [Nat.add_mul, Nat.one_mul]
  rw [hlen] at hj
  obtain ⟨g', o', h1, h2, h3, h4, h5⟩ := h (i * k + j) (by omega)
  cases h1
  have ej : (chunkF l k i)[j]'(by rw [hlen]; exact hj) = l[i * k + j]'(by omega) := by
    simp only [chunkF, List.getElem_take, List.getElem_drop]
  refine ⟨g, o + i * k * 3, rfl, h2, ?_, ?_, ?_⟩
  · rw [ej, show o + i * k * 3 + j * 3 = o + (i * k + j) * 3 by rw [Nat.add_mul]; omega]; exact h3
  · rw [ej, show o + i * k * 3 + j * 3 = o + (i * k + j) * 3 by rw [Nat.add_mul]; omega]; exact h4
  · rw [ej, show o + i * k * 3 + j * 3 = o + (i * k + j) * 3 by rw [Nat.add_mul]; omega]; exact h5
theorem fw_chunk (l : List Fr) (k i : Nat) : fw (chunkF l k i) ≤ fw l := by
  have h1 := fw_take (l.drop (i * k)) k
  have h2 := fw_append (l.take (i * k)) (l.drop (i * k))
  rw [List.take_append_drop] at h2
  rw [chunkF]
  omega
end Go.Proofs.YtbejijgelljeaaaGreatDoor


/- Rows that may be, in packages chain and hidden; the small questions that package hidden asks. -/
namespace Go.Proofs.YtbejijgelljeaaaGreatDoor
open Go.RowKit Go.Shelf

theorem rowB_eq (l : List Fr) : (!(l.any fun f => decide (frQ f < 0)) && decide (fsum l = 1)) = rowB l := by
  have h : ∀ l : List Fr, (!(l.any fun f => decide (frQ f < 0))) = l.all fun f => decide (¬ frQ f < 0) := fun l => by
    induction l with
    | nil => rfl
    | cons f l ih => rw [List.any_cons, List.all_cons, Bool.not_or, ih, decide_not]
  rw [rowB, h]

set_option maxRecDepth 100000 in
set_option maxHeartbeats 400000 in
theorem chBelow_any (n zn : Bool) (x y zx zy : ByteArray) (B : Nat) (w : World) (hx : Box w B zn zx zy) (hz : val zn zx zy = 0) (hzs : zx.size + zy.size ≤ 100000) (hs : x.size + y.size ≤ 10000) :
    Calls Tryz.prog 82 #[.agg #[.bool n, .string x, .string y], .pointer (some ⟨B, 0, none⟩)] w fun e w' => e = .returned (.bool (decide (val n x y < 0))) ∧ Below w.heap.size w w' := by
  have HD : Hid (decide (cmpQ (val n x y) 0 < 0) = decide (val n x y < 0)) := by show _ = _; rw [decide_eq_decide]; exact cmp_below
  generalize decide (val n x y < 0) = R at *
  have hA := (Below.refl w.heap.size w).alloc (Nat.le_refl _) (FC n x y)
  obtain ⟨k0, k1, k2, -⟩ := (Box.new w n x y).facts
  obtain ⟨z0, z1, z2, -⟩ := (hx.below hA hx.lt).facts
  go_enter Tryz.func82, Tryz.ntmps82
  go_wp2_with fail
  generalize (w.alloc (FC n x y)) = W at *
  refine (fCmp_q (w := W) (cmpQ (val n x y) 0) rfl hz rfl (by omega) hzs).mono ?_
  rintro e w2 ⟨rfl, hb2⟩
  have HB := hid (hA.trans (hb2.mono hA.size))
  clear hA hb2 k0 k1 k2 z0 z1 z2
  generalize cmpQ (val n x y) 0 = c at *
  go_wp2
  go_ret
  exact ⟨by rw [← HD.out]; rfl, HB.out⟩

set_option maxRecDepth 100000 in
set_option maxHeartbeats 1000000 in
theorem chRow_any (a : Option Addr) (ca : Nat) (l : List Fr) (w : World) (h : FrS w a l) (hw : fw l ≤ 10000) (hn : l.length ≤ 10000) :
    Calls Tryz.prog 56 #[.slice a l.length ca] w fun e w' => e = .returned (.bool (rowB l)) ∧ Below w.heap.size w w' := by
  have HF := hid h
  have HS := hid (fun (V : World) (hV : FrS V a l) => fSum_any a ca l V hV hw hn)
  have HO0 := hid (fun V : World => fOf_q (k := 0) (w := V) 0 0 rfl (by decide) (by rfl))
  have HO1 := hid (fun V : World => fOf_q (k := 1) (w := V) 1 1 rfl (by decide) (by rfl))
  have HQ : Hid (val (sgn (fsum l)) (nu (fsum l)) (de (fsum l)) = fsum l ∧ (nu (fsum l)).size + (de (fsum l)).size ≤ 100000) := ⟨val_own _, by
    have h1 := fits_qw (fits_sum l)
    rw [own_size]
    omega⟩
  have H1 : Hid (val (sgn 1) (nu 1) (de 1) = 1 ∧ (nu 1).size + (de 1).size ≤ 100000) := ⟨val_own _, by
    have h1 : qw 1 ≤ 2 := qw_one2
    rw [own_size]
    omega⟩
  have HC := hid (fun (B : Nat) (V : World) (hV : FrS V a l) (hx : Box V B (sgn 0) (nu 0) (de 0)) => conFr_any a ca 82 #[.pointer (some ⟨B, 0, none⟩)] l (fun f => decide (frQ f < 0)) V hV hn (enters_of Tryz.func82 (by kernel_rfl) rfl) (fun q hq U hU => chBelow_any q.1 (sgn 0) q.2.1 q.2.2 (nu 0) (de 0) B U (hx.below hU hx.lt) (val_own _) (by have := qw_zero; rw [own_size]; omega) (by have := fw_mem hq; omega)))
  have HR := hid (rowB_eq l)
  have HCS := hid (cmp_same (p := fsum l))
  generalize rowB l = rb at *
  generalize (l.any fun f => decide (frQ f < 0)) = an at *
  clear h hw
  simp only [C] at HS
  generalize sgn 0 = zn at *
  generalize nu 0 = zx at *
  generalize de 0 = zy at *
  go_enter Tryz.func56, Tryz.ntmps56
  go_wp2_with fail
  refine (HO0.out _).mono ?_
  rintro e w0 ⟨rfl, hb0⟩
  have HB0 := hid (hb0.alloc hb0.size (FC zn zx zy))
  have HX := hid (Box.new w0 zn zx zy)
  clear hb0
  go_wp2_with fail
  generalize (w0.alloc (FC zn zx zy)) = wa at *
  generalize w0.heap.size = B at *
  refine (HC.out B _ (HF.out.below HB0.out) HX.out).mono ?_
  rintro e w1 ⟨rfl, hb1⟩
  have HB1 := hid (HB0.out.trans (hb1.mono HB0.out.size))
  clear hb1
  cases an with
  | true =>
    go_wp2
    go_ret
    exact ⟨by rw [← HR.out]; rfl, HB1.out⟩
  | false =>
    go_wp2_with fail
    refine (HS.out _ (HF.out.below HB1.out)).mono ?_
    rintro e w5 ⟨rfl, hb5⟩
    have HB5 := hid (HB1.out.trans (hb5.mono HB1.out.size))
    clear hb5
    go_wp2_with fail
    refine (HO1.out _).mono ?_
    rintro e w6 ⟨rfl, hb6⟩
    have HB6 := hid (HB5.out.trans (hb6.mono HB5.out.size))
    clear hb6
    go_wp2_with fail
    refine (fCmp_q (w := w6) (cmpQ (fsum l) 1) HQ.out.1 H1.out.1 rfl HQ.out.2 H1.out.2).mono ?_
    rintro e w7 ⟨rfl, hb7⟩
    have HB7 := hid (HB6.out.trans (hb7.mono HB6.out.size))
    clear hb7
    generalize cmpQ (fsum l) 1 = c at *
    go_wp2
    go_ret
    exact ⟨by rw [← HR.out, ← HCS.out]; rfl, HB7.out⟩

end Go.Proofs.YtbejijgelljeaaaGreatDoor


/- How long the numbers of a hidden chain are. -/
namespace Go.Proofs.YtbejijgelljeaaaGreatDoor
/-- A denominator for all that is drawn of raw weights. -/
def D24 : Nat := 620448401733239439360000
theorem dvd24 : ∀ n : Nat, 1 ≤ n → n ≤ 24 → n ∣ D24 := by
  intro n h1 h2
  match n, h1, h2 with
  | 1, _, _ => decide
  | 2, _, _ => decide
  | 3, _, _ => decide
  | 4, _, _ => decide
  | 5, _, _ => decide
  | 6, _, _ => decide
  | 7, _, _ => decide
  | 8, _, _ => decide
  | 9, _, _ => decide
  | 10, _, _ => decide
  | 11, _, _ => decide
  | 12, _, _ => decide
  | 13, _, _ => decide
  | 14, _, _ => decide
  | 15, _, _ => decide
  | 16, _, _ => decide
  | 17, _, _ => decide
  | 18, _, _ => decide
  | 19, _, _ => decide
  | 20, _, _ => decide
  | 21, _, _ => decide
  | 22, _, _ => decide
  | 23, _, _ => decide
  | 24, _, _ => decide
  | n + 25, _, h => exact absurd h (by omega)
/-- Small: not below 0, at most 4 so often, a denominator so often. -/
structure Sm (k : Nat) (q : Rat) : Prop where
  low : 0 ≤ q
  high : q ≤ ((4 ^ k : Nat) : Rat)
  whole : ∃ a : Nat, q * ((D24 ^ k : Nat) : Rat) = (a : Rat)
theorem Sm.zero : Sm 0 0 := ⟨Rat.le_refl, by decide, 0, by rw [Rat.zero_mul]; rfl⟩
theorem Sm.one : Sm 0 1 := ⟨by decide, by decide, 1, by rw [Rat.one_mul]; rfl⟩
theorem Sm.mul {k j : Nat} {p q : Rat} (h : Sm k p) (h' : Sm j q) : Sm (k + j) (p * q) := by
  refine ⟨Rat.mul_nonneg h.low h'.low, ?_, ?_⟩
  · rw [Nat.pow_add, Rat.natCast_mul]
    exact Rat.le_trans (Rat.mul_le_mul_of_nonneg_left h'.high h.low) (Rat.mul_le_mul_of_nonneg_right h.high Rat.natCast_nonneg)
  · obtain ⟨a, ha⟩ := h.whole
    obtain ⟨b, hb⟩ := h'.whole
    refine ⟨a * b, ?_⟩
    rw [Nat.pow_add, Rat.natCast_mul, Rat.natCast_mul, ← ha, ← hb]
    rw [Rat.mul_assoc, Rat.mul_assoc, ← Rat.mul_assoc q, Rat.mul_comm q, Rat.mul_assoc]
theorem Sm.up1 {k : Nat} {q : Rat} (h : Sm k q) : Sm (k + 1) q := by
  refine ⟨h.low, Rat.le_trans h.high ?_, ?_⟩
  · have : 4 ^ k ≤ 4 ^ (k + 1) := Nat.pow_le_pow_right (by decide) (by omega)
    exact_mod_cast this
  · obtain ⟨a, ha⟩ := h.whole
    exact ⟨a * D24, by rw [Nat.pow_succ, Rat.natCast_mul, Rat.natCast_mul, ← Rat.mul_assoc, ha]⟩
theorem Sm.up {k j : Nat} {q : Rat} (h : Sm k q) (hj : k ≤ j) : Sm j q := by
  obtain ⟨d, rfl⟩ := Nat.exists_eq_add_of_le hj
  clear hj
  induction d with
  | zero => exact h
  | succ d ih => exact ih.up1
theorem sumR_wh {f : Nat → Rat} {D : Nat} : ∀ {n : Nat}, (∀ i, i < n → ∃ a : Nat, f i * (D : Rat) = (a : Rat)) → ∃ a : Nat, sumR f n * (D : Rat) = (a : Rat)
  | 0, _ => ⟨0, by rw [sumR, Rat.zero_mul]; rfl⟩
  | n + 1, h => by
    obtain ⟨a, ha⟩ := sumR_wh (n := n) fun i hi => h i (by omega)
    obtain ⟨b, hb⟩ := h n (by omega)
    exact ⟨a + b, by rw [sumR, Rat.add_mul, ha, hb, Rat.natCast_add]⟩
theorem sumR_high {f : Nat → Rat} {m : Nat} : ∀ {n : Nat}, (∀ i, i < n → f i ≤ (m : Rat)) → sumR f n ≤ ((n * m : Nat) : Rat)
  | 0, _ => by rw [sumR, Nat.zero_mul]; exact Rat.le_refl
  | n + 1, h => by
    rw [sumR, Nat.add_mul, Nat.one_mul, Rat.natCast_add]
    exact Rat.le_trans ((Rat.add_le_add_right (c := f n)).2 (sumR_high fun i hi => h i (by omega))) ((Rat.add_le_add_left (c := ((n * m : Nat) : Rat))).2 (h n (by omega)))
theorem Sm.sum {f : Nat → Rat} {k n : Nat} (hn : n ≤ 4) (h : ∀ i, i < n → Sm k (f i)) : Sm (k + 1) (sumR f n) := by
  refine ⟨sumR_low fun i hi => (h i hi).low, Rat.le_trans (sumR_high fun i hi => (h i hi).high) ?_, ?_⟩
  · have : n * 4 ^ k ≤ 4 ^ (k + 1) := by rw [Nat.pow_succ, Nat.mul_comm]; exact Nat.mul_le_mul_left _ hn
    exact_mod_cast this
  · obtain ⟨a, ha⟩ := sumR_wh fun i hi => (h i hi).whole
    exact ⟨a * D24, by rw [Nat.pow_succ, Rat.natCast_mul, Rat.natCast_mul, ← Rat.mul_assoc, ha]⟩
theorem Sm.fits {k : Nat} {q : Rat} (h : Sm k q) : Fits (12 * k + 1) q := by
  obtain ⟨a, ha⟩ := h.whole
  have hD : 0 < D24 ^ k := Nat.pow_pos (by decide)
  have hDr : ((D24 ^ k : Nat) : Rat) ≠ 0 := fun e => by
    have e' : D24 ^ k = 0 := by exact_mod_cast e
    omega
  have hq : q = mkRat (a : Int) (D24 ^ k) := by
    rw [Rat.mkRat_eq_div]
    show q = (a : Rat) / _
    rw [← ha, Rat.div_def, Rat.mul_assoc, Rat.mul_inv_cancel _ hDr, Rat.mul_one]
  have hb : D24 ^ k * 4 ^ k < 256 ^ (12 * k + 1) := by
    rw [← Nat.mul_pow, Nat.pow_succ, Nat.pow_mul]
    have : (D24 * 4) ^ k ≤ (256 ^ 12) ^ k := Nat.pow_le_pow_left (by decide) k
    have h2 : 0 < (256 ^ 12) ^ k := Nat.pow_pos (by decide)
    omega
  have h4 : 0 < 4 ^ k := Nat.pow_pos (by decide)
  refine ⟨(a : Int), D24 ^ k, by omega, hq, ?_, ?_⟩
  · exact Nat.lt_of_le_of_lt (Nat.le_mul_of_pos_right _ h4) hb
  · have h1 : (a : Rat) ≤ ((4 ^ k * D24 ^ k : Nat) : Rat) := by
      rw [← ha, Rat.natCast_mul]
      exact Rat.mul_le_mul_of_nonneg_right h.high Rat.natCast_nonneg
    have h2 : a ≤ 4 ^ k * D24 ^ k := by exact_mod_cast h1
    rw [Nat.mul_comm] at h2
    simp
    omega
/-- All that is counted with is small. -/
structure HC.Sml (h : HC) : Prop where
  s4 : h.s ≤ 4
  L8 : h.L ≤ 8
  st : ∀ i, i < h.s → Sm 1 (h.st i)
  mv : ∀ i, i < h.s → ∀ j, j < h.s → Sm 1 (h.mv i j)
  sh : ∀ t, t < h.L → ∀ i, i < h.s → Sm 1 (h.sh t i)
theorem HC.Sml.ok {h : HC} (m : h.Sml) (hs : 1 ≤ h.s) : h.Ok := ⟨hs, fun i hi => (m.st i hi).low, fun i hi j hj => (m.mv i hi j hj).low, fun t ht i hi => (m.sh t ht i hi).low⟩
theorem HC.Sml.alp {h : HC} (m : h.Sml) : ∀ t i, t < h.L → i < h.s → Sm (3 * t + 2) (h.alp t i)
  | 0, i, ht, hi => by rw [HC.alp]; exact (m.st i hi).mul (m.sh 0 ht i hi)
  | t + 1, j, ht, hj => by
    rw [HC.alp]
    exact ((Sm.sum m.s4 fun i hi => (m.alp t i (by omega) hi).mul (m.mv i hi j hj)).mul (m.sh (t + 1) ht j hj)).up (by omega)
theorem HC.Sml.bet {h : HC} (m : h.Sml) : ∀ k i, k < h.L → i < h.s → Sm (3 * k) (h.bet k i)
  | 0, _, _, _ => by rw [HC.bet]; exact Sm.one
  | k + 1, i, hk, hi => by
    rw [HC.bet]
    exact (Sm.sum m.s4 fun j hj => ((m.mv i hi j hj).mul (m.sh _ (by omega) j hj)).mul (m.bet k j (by omega) hj)).up (by omega)
theorem HC.Sml.gam {h : HC} (m : h.Sml) (hs : 1 ≤ h.s) : ∀ k i, k < h.L → i < h.s → Sm (3 * k) (h.gam k i)
  | 0, _, _, _ => by rw [HC.gam]; exact Sm.one
  | k + 1, i, hk, hi => by
    rw [HC.gam]
    have hb := bstR_le (fun j => h.mv i j * h.sh (h.L - 1 - k) j * h.gam k j) (h.s - 1)
    generalize bstR (fun j => h.mv i j * h.sh (h.L - 1 - k) j * h.gam k j) (h.s - 1) = b at *
    exact (((m.mv i hi b (by omega)).mul (m.sh _ (by omega) b (by omega))).mul (m.gam hs k b (by omega) (by omega))).up (by omega)
theorem HC.Sml.row {h : HC} (m : h.Sml) {v : Nat → Nat} (hv : ∀ t, v t < h.s) : ∀ t i, i < h.s → Sm 1 (h.row v t i)
  | 0, i, hi => m.st i hi
  | t + 1, i, hi => m.mv (v t) (hv t) i hi
theorem HC.Sml.lik {h : HC} (m : h.Sml) {v : Nat → Nat} (hv : ∀ t, v t < h.s) : ∀ t, t ≤ h.L → Sm (2 * t) (h.lik v t)
  | 0, _ => by rw [HC.lik]; exact Sm.one
  | t + 1, ht => by
    rw [HC.lik]
    exact ((m.lik hv t (by omega)).mul ((m.row hv t _ (hv t)).mul (m.sh t (by omega) _ (hv t)))).up (by omega)
end Go.Proofs.YtbejijgelljeaaaGreatDoor

