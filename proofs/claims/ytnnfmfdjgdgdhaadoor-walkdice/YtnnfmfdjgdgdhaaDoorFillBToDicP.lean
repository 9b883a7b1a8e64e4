/- Package table: fill. -/
import Derived.Test.YtnnfmfdjgdgdhaaDoorSetAToFillA
import Derived.Test.YtnnfmfdjgdgdhaaDoorTabR3ToJoinB
import Derived.Test.YtnnfmfdjgdgdhaaDoorRefSToTabN
import Derived.Test.YtnnfmfdjgdgdhaaDoorShelf
import Derived.Sort.OwnSortedInts
import Derived.Lib.AppendZerosOnto
import Derived.Laws.AppendOwnNone
import Derived.WalkMore
namespace Go.Proofs.YtnnfmfdjgdgdhaaDoor
open Go.RowKit Go.Shelf

/-- The fraction that no one wrote. -/
def frZ : Fr := (false, ⟨#[]⟩, ⟨#[]⟩)
/-- What is written when i are told. -/
def partF (l : List Fr) (i : Nat) : List Fr := l.take i ++ List.replicate (l.length - i) frZ
theorem partF_zero (l : List Fr) : partF l 0 = List.replicate l.length frZ := by simp [partF]
theorem partF_length (l : List Fr) {i : Nat} (h : i ≤ l.length) : (partF l i).length = l.length := by simp [partF]; omega
theorem partF_all (l : List Fr) : partF l l.length = l := by simp [partF]
theorem partF_set (l : List Fr) {i : Nat} (h : i < l.length) : (partF l i).set i l[i] = partF l (i + 1) := by
  rw [partF, partF, List.set_append_right _ _ (by simp; omega), List.take_succ_eq_append_getElem h]
  have e : l.length - i = (l.length - (i + 1)) + 1 := by omega
  rw [e, List.replicate_succ, List.length_take, Nat.min_eq_left (by omega), Nat.sub_self, List.set_cons_zero, List.append_assoc]
  rfl
theorem Tryd.infoFrac : (Tryd.prog.info? 30).map (fun i => (i.zero, i.size, i.bytes)) = some (some (.agg #[.bool false, .string ⟨#[]⟩, .string ⟨#[]⟩]), 3, 40) := by kernel_rfl

theorem RowF.off {w : World} {g : Nat} {l : List Fr} (h : RowF w g l) (b j : Nat) (y : Value) (hne : g ≠ b) : RowF (w.setCell ⟨b, j, none⟩ y) g l := (Below.heap_setCell w ⟨b, j, none⟩ y g hne).trans h
theorem block_of_own3 {w : World} {base g n : Nat} {t : TypeId} {xs : List Value} (h : w.ownsRow base t 3 (.slice (some ⟨g, 0, none⟩) n n) n xs) : w.heap[g]? = some (.cells xs.toArray t (0, 0)) := by
  rcases h.2 with ⟨h', _⟩ | ⟨g', cap', cur, h', _, hg, hnc, _, hsz, htk⟩
  · cases h'
  · cases h'
    rw [hg, ← htk, List.take_of_length_le (by simp; omega)]
theorem frC_zero_at : ∀ (n j : Nat), j < 3 * n → (frC (List.replicate n frZ))[j]? = some (#[Value.bool false, Value.string ⟨#[]⟩, Value.string ⟨#[]⟩][j % 3]!)
  | 0, j, h => by omega
  | n + 1, 0, _ => rfl
  | n + 1, 1, _ => rfl
  | n + 1, 2, _ => rfl
  | n + 1, j + 3, h => by
    rw [show (j + 3) % 3 = j % 3 by omega, List.replicate_succ]
    exact frC_zero_at n j (by omega)
theorem made_frs (n : Nat) : (madeCells (Value.agg #[Value.bool false, Value.string ⟨#[]⟩, Value.string ⟨#[]⟩]).cells (n * 3)).toList = frC (List.replicate n frZ) := by
  apply List.ext_getElem?
  intro j
  by_cases h : j < 3 * n
  · rw [frC_zero_at n j h, madeCells]
    have h' : j < n * 3 := by omega
    simp [h', Value.cells]
  · rw [List.getElem?_eq_none (by rw [Array.length_toList, size_madeCells]; omega), List.getElem?_eq_none (by rw [frC_length, List.length_replicate]; omega)]

end Go.Proofs.YtnnfmfdjgdgdhaaDoor


/- Plain facts on tables: an assignment as a list of all variables, and what stands there; rising lists. Nothing of the program is named here. -/
namespace Go.Proofs.YtnnfmfdjgdgdhaaDoor

theorem asg_digs {S : List Nat} : ∀ {vs : List Nat} {k i : Nat}, vs.Nodup → (h : i < vs.length) → (digs S vs k)[i]? = some (asg S vs k vs[i])
  | [], _, _, _, h => absurd h (by simp)
  | u :: vs, k, 0, _, _ => by simp [digs, asg]
  | u :: vs, k, i + 1, hn, h => by
    rw [List.nodup_cons] at hn
    have h' : i < vs.length := by simpa using h
    have e : ¬ vs[i] = u := fun e => hn.1 (by rw [← e]; exact List.getElem_mem h')
    rw [digs, List.getElem?_cons_succ, asg_digs hn.2 h', List.getElem_cons_succ, asg, if_neg e]
/-- An assignment as a list of all variables. -/
def spr (n : Nat) (f : Nat → Nat) : List Nat := (List.range n).map f
theorem spr_length (n : Nat) (f : Nat → Nat) : (spr n f).length = n := by simp [spr]
theorem spr_get {n : Nat} {f : Nat → Nat} {v : Nat} (h : v < n) : (spr n f)[v]'(by rw [spr_length]; exact h) = f v := by simp [spr]
theorem spr_get? {n : Nat} {f : Nat → Nat} {v : Nat} (h : v < n) : (spr n f)[v]? = some (f v) := by simp [spr, h]
theorem spr_congr {n : Nat} {f g : Nat → Nat} (h : ∀ v, v < n → f v = g v) : spr n f = spr n g := List.map_congr_left fun v hv => h v (List.mem_range.1 hv)
theorem spr_set {n : Nat} {f : Nat → Nat} (v x : Nat) : (spr n f).set v x = spr n (withV f v x) := by
  apply List.ext_getElem?
  intro u
  rw [List.getElem?_set]
  by_cases hu : u < n
  · rw [spr_get? hu, spr_get? hu, withV, spr_length]
    by_cases e : v = u
    · subst e; rw [if_pos rfl, if_pos hu, if_pos rfl]
    · rw [if_neg e, if_neg (fun h => e h.symm)]
  · rw [List.getElem?_eq_none (by rw [spr_length]; omega), List.getElem?_eq_none (by rw [spr_length]; omega), spr_length]
    by_cases e : v = u
    · rw [if_pos e, if_neg (by omega)]
    · rw [if_neg e]
/-- What is spread when i values are told. -/
def sprF (S vs : List Nat) (k i : Nat) : Nat → Nat := fun v => if v ∈ vs.take i then asg S vs k v else 0
theorem sprF_zero (S vs : List Nat) (k n : Nat) : spr n (sprF S vs k 0) = List.replicate n 0 := by
  apply List.ext_getElem
  · rw [spr_length, List.length_replicate]
  · intro i h1 h2
    rw [spr_get (by rw [spr_length] at h1; exact h1), List.getElem_replicate, sprF, List.take_zero, if_neg (by simp)]
theorem sprF_succ (S : List Nat) {vs : List Nat} (k n : Nat) {i : Nat} (h : i < vs.length) : (spr n (sprF S vs k i)).set vs[i] (asg S vs k vs[i]) = spr n (sprF S vs k (i + 1)) := by
  rw [spr_set]
  refine spr_congr fun v _ => ?_
  rw [withV, sprF, sprF, List.take_succ_eq_append_getElem h]
  by_cases e : v = vs[i]
  · rw [if_pos e, if_pos (by rw [e]; exact List.mem_append_right _ List.mem_cons_self), e]
  · rw [if_neg e]
    have : v ∈ vs.take i ++ [vs[i]] ↔ v ∈ vs.take i := ⟨fun h => (List.mem_append.1 h).elim id fun h => absurd (List.mem_singleton.1 h) e, List.mem_append_left _⟩
    simp only [this]
theorem sprF_all (S vs : List Nat) (k n : Nat) : spr n (sprF S vs k vs.length) = spr n (asg S vs k) := by
  refine spr_congr fun v _ => ?_
  rw [sprF, List.take_length]
  by_cases h : v ∈ vs
  · rw [if_pos h]
  · rw [if_neg h, asg_out h]
theorem pos_take (S : List Nat) (f : Nat → Nat) {vs : List Nat} {i : Nat} (h : i < vs.length) : pos S f (vs.take (i + 1)) = pos S f (vs.take i) * sz S vs[i] + f vs[i] := by
  rw [List.take_succ_eq_append_getElem h, pos_snoc]
theorem withV_lt {S : List Nat} {f : Nat → Nat} {v x : Nat} (hf : ∀ u, f u < sz S u) (hx : x < sz S v) (u : Nat) : withV f v x u < sz S u := by
  rw [withV]
  by_cases e : u = v
  · rw [if_pos e, e]; exact hx
  · rw [if_neg e]; exact hf u

/-- Two rising lists of the same numbers are the same. -/
theorem rise_ext : ∀ {a b : List Nat}, a.Pairwise (· < ·) → b.Pairwise (· < ·) → (∀ x, x ∈ a ↔ x ∈ b) → a = b
  | [], [], _, _, _ => rfl
  | [], y :: b, _, _, h => absurd ((h y).2 List.mem_cons_self) (by simp)
  | x :: a, [], _, _, h => absurd ((h x).1 List.mem_cons_self) (by simp)
  | x :: a, y :: b, ha, hb, h => by
    rw [List.pairwise_cons] at ha hb
    have e : x = y := by
      have h1 := (h x).1 List.mem_cons_self
      have h2 := (h y).2 List.mem_cons_self
      rw [List.mem_cons] at h1 h2
      rcases h1 with h1 | h1
      · exact h1
      · rcases h2 with h2 | h2
        · exact h2.symm
        · have := hb.1 x h1
          have := ha.1 y h2
          omega
    subst e
    rw [rise_ext ha.2 hb.2 fun z => ?_]
    constructor
    · intro hz
      have h1 := (h z).1 (List.mem_cons_of_mem _ hz)
      have := ha.1 z hz
      rw [List.mem_cons] at h1
      rcases h1 with h1 | h1
      · omega
      · exact h1
    · intro hz
      have h1 := (h z).2 (List.mem_cons_of_mem _ hz)
      have := hb.1 z hz
      rw [List.mem_cons] at h1
      rcases h1 with h1 | h1
      · omega
      · exact h1
theorem range_rise (n : Nat) : (List.range n).Pairwise (· < ·) := List.pairwise_lt_range
end Go.Proofs.YtnnfmfdjgdgdhaaDoor


/- What the calls on tables answer, as plain functions of lists. -/
namespace Go.Proofs.YtnnfmfdjgdgdhaaDoor
open Go.RowKit Go.Shelf

/-- A rational in lowest terms. -/
def qF (q : Rat) : Fr := (sgn q, nu q, de q)
theorem frV_qF (q : Rat) : frV (qF q) = .agg #[.bool (sgn q), .string (nu q), .string (de q)] := rfl
theorem frQ_qF (q : Rat) : frQ (qF q) = q := val_own q
/-- What stands at a place. -/
def celF (l : List Fr) (k : Nat) : Fr := l[k]?.getD frZ
theorem celF_eq {l : List Fr} {k : Nat} (h : k < l.length) : celF l k = l[k] := by rw [celF, List.getElem?_eq_getElem h]; rfl
theorem celF_size {l : List Fr} {k : Nat} (h : k < l.length) : (celF l k).2.1.size + (celF l k).2.2.size + 2 ≤ fw l := by rw [celF_eq h]; exact fw_mem (List.getElem_mem h)
/-- The first place that has the greatest number, of those up to k. -/
def bestN (l : List Fr) : Nat → Nat
  | 0 => 0
  | k + 1 => if cmpQ (frQ (celF l (bestN l k))) (frQ (celF l (k + 1))) < 0 then k + 1 else bestN l k
theorem bestN_le (l : List Fr) : ∀ k, bestN l k ≤ k
  | 0 => Nat.le_refl _
  | k + 1 => by
    have := bestN_le l k
    rw [bestN]
    by_cases h : cmpQ (frQ (celF l (bestN l k))) (frQ (celF l (k + 1))) < 0
    · rw [if_pos h]; omega
    · rw [if_neg h]; omega
/-- Norm's cells. -/
def normL (l : List Fr) : List Fr := l.map fun f => qF (frQ f * (1 / fsum l))
/-- Fix's cells. -/
def fixL (S vars rest : List Nat) (v x : Nat) (l : List Fr) : List Fr := (List.range (cnt S rest)).map fun K => qF (frQ (celF l (pos S (withV (asg S rest K) v x) vars)))
/-- What is left of so many. -/
def outN (most : Bool) (T : Nat → Fr) : Nat → Fr
  | 0 => T 0
  | k + 1 => if most then great (outN most T k) (T (k + 1)) else qF (frQ (outN most T k) + frQ (T (k + 1)))
/-- Out's cells. -/
def outL (S vars rest : List Nat) (v : Nat) (most : Bool) (l : List Fr) : List Fr := (List.range (cnt S rest)).map fun K => qF (frQ (outN most (fun x => celF l (pos S (withV (asg S rest K) v x) vars)) (sz S v - 1)))
/-- Product's cells. -/
def prodL (S va vb U : List Nat) (la lb : List Fr) : List Fr := (List.range (cnt S U)).map fun K => qF (frQ (celF la (pos S (asg S U K) va)) * frQ (celF lb (pos S (asg S U K) vb)))
/-- Product's variables. -/
def bothN (n : Nat) (a b : List Int) : List Nat := (List.range n).filter fun v => inB (v : Int) a || inB (v : Int) b
/-- A list without a variable. -/
def lessN (l : List Int) (v : Int) : List Int := l.filter fun u => !(u == v)
end Go.Proofs.YtnnfmfdjgdgdhaaDoor


/- Plain: no number of a table is longer than so. -/
namespace Go.Proofs.YtnnfmfdjgdgdhaaDoor
open Go.RowKit Go.Shelf

/-- No number is longer than so. -/
def Cw (m : Nat) (l : List Fr) : Prop := ∀ k, k < l.length → (celF l k).2.1.size + (celF l k).2.2.size + 2 ≤ m
theorem cw_of {m : Nat} {l : List Fr} (h : fw l ≤ m) : Cw m l := fun _ hk => Nat.le_trans (celF_size hk) h
theorem Cw.up {m n : Nat} {l : List Fr} (h : Cw m l) (hn : m ≤ n) : Cw n l := fun k hk => Nat.le_trans (h k hk) hn
end Go.Proofs.YtnnfmfdjgdgdhaaDoor


/- How many bytes a list of fractions has; one fraction held against another beside errors. -/
namespace Go.Proofs.YtnnfmfdjgdgdhaaDoor
open Go.RowKit

def sw : List Fr → Nat
  | [] => 0
  | f :: l => f.2.1.size + f.2.2.size + sw l
theorem sw_snoc (l : List Fr) (f : Fr) : sw (l ++ [f]) = sw l + (f.2.1.size + f.2.2.size) := by
  induction l with
  | nil => simp [sw]
  | cons g l ih => simp only [List.cons_append, sw, ih]; omega
theorem sw_take {l : List Fr} {k : Nat} (h : k < l.length) : sw (l.take (k + 1)) = sw (l.take k) + (l[k].2.1.size + l[k].2.2.size) := by
  rw [List.take_succ_eq_append_getElem h, sw_snoc]
theorem fw_sw (l : List Fr) : fw l = sw l + 2 * l.length := by
  induction l with
  | nil => rfl
  | cons f l ih => simp only [fw, sw, List.length_cons, ih]; omega

end Go.Proofs.YtnnfmfdjgdgdhaaDoor


/- Package table: what Best holds, and its join. -/
namespace Go.Proofs.YtnnfmfdjgdgdhaaDoor
open Go.RowKit Go.Shelf

theorem results_tmp_cell_tmp {w : World} {g : Nat} {neg : Bool} {num den : ByteArray} (h : Box w g neg num den) {fn : Func} {t p u : Tmp} (hr : fn.results = #[.tmp t, .cell p 30, .tmp u]) (tmps : Array Value) (hp : tmps.getD p undef = .pointer (some ⟨g, 0, none⟩)) :
    (results fn tmps).run Tryd.prog w = .ok (.tuple #[tmps.getD t undef, .agg #[.bool neg, .string num, .string den], tmps.getD u undef]) w := by
  have hp' : tmps[p]?.getD undef = .pointer (some ⟨g, 0, none⟩) := by simpa using hp
  simp [results, hr, hp', asAddr, run_loadVar_row w g _ 30 _ _ _ h Tryd.underlying30 rfl (by kernel_rfl)]
/-- A list of ints does not lie in a fraction's block. -/
theorem IntS.far3 {V : World} {c : Option Addr} {l : List Int} {g : Nat} {n : Bool} {x y : ByteArray} (h : IntS V c l) (hb : Box V g n x y) (j : Nat) (u : Value) : IntS (V.setCell ⟨g, j, none⟩ u) c l := fun k hk => by
  obtain ⟨g', o, rfl, hlt, hc⟩ := h k hk
  have hne : ¬ g' = g := fun e => by
    subst e
    rw [cell_of_row V g' (o + k) _ _ (0, 0) hb] at hc
    match hm : o + k with
    | 0 => rw [hm] at hc; simp at hc
    | 1 => rw [hm] at hc; simp at hc
    | 2 => rw [hm] at hc; simp at hc
    | m + 3 => rw [hm] at hc; simp at hc
  exact ⟨g', o, rfl, Nat.lt_of_lt_of_le hlt (KeepsOthers.setCell V _ _).size, (World.cell?_setCell_other _ _ _ _ (fun e => hne (congrArg Addr.block e).symm)).trans hc⟩
theorem IntS.put3 {V : World} {c : Option Addr} {l : List Int} {g : Nat} {n : Bool} {x y : ByteArray} (h : IntS V c l) (hb : Box V g n x y) (n' : Bool) (x' y' : ByteArray) : IntS (((V.setCell ⟨g, 0, none⟩ (.bool n')).setCell ⟨g, 1, none⟩ (.string x')).setCell ⟨g, 2, none⟩ (.string y')) c l := by
  have h1 : Box (V.setCell ⟨g, 0, none⟩ (.bool n')) g n' x y := heap_setCell_same V g 0 _ _ (.bool n') hb
  have h2 : Box ((V.setCell ⟨g, 0, none⟩ (.bool n')).setCell ⟨g, 1, none⟩ (.string x')) g n' x' y := heap_setCell_same _ g 1 _ _ (.string x') h1
  exact ((h.far3 hb 0 _).far3 h1 1 _).far3 h2 2 _

/-- What Best answers. -/
def bestV (sizes vars : List Int) (l : List Fr) : List Nat := if checkA sizes vars l.length = 0 then digs (toN sizes) (toN vars) (bestN l (l.length - 1)) else []
def bestF (sizes vars : List Int) (l : List Fr) : Fr := if checkA sizes vars l.length = 0 then qF (frQ (celF l (bestN l (l.length - 1)))) else frZ
theorem checkA_parts {sizes vars : List Int} {m : Nat} (h : checkA sizes vars m = 0) : Fine sizes ∧ Up vars sizes.length ∧ m = cnt (toN sizes) (toN vars) := by
  rw [checkA] at h
  by_cases h1 : countB sizes vars = true
  · rw [if_pos h1] at h
    by_cases h2 : m = cnt (toN sizes) (toN vars)
    · exact ⟨(countB_parts h1).1, (countB_parts h1).2, h2⟩
    · rw [if_neg h2] at h; omega
  · rw [if_neg h1] at h; omega
theorem checkA_pos {sizes vars : List Int} {m : Nat} (h : checkA sizes vars m = 0) : 1 ≤ m := by
  obtain ⟨h1, h2, h3⟩ := checkA_parts h
  rw [h3]
  exact cnt_pos h1.pos _
end Go.Proofs.YtnnfmfdjgdgdhaaDoor


/- Lists of ints: clones, what is in them, lists without one. -/
namespace Go.Proofs.YtnnfmfdjgdgdhaaDoor
open Go.RowKit Go.Shelf Go.Sort Go.Lib

/-- A list's place is new, and an empty one has no room. -/
def NewS (B : Nat) (b : Option Addr) (cb : Nat) : Prop := (b = none → cb = 0) ∧ ∀ g o, b = some ⟨g, o, none⟩ → B ≤ g
theorem NewS.up {B C : Nat} {b : Option Addr} {cb : Nat} (h : NewS B b cb) (hC : C ≤ B) : NewS C b cb := ⟨h.1, fun g o e => Nat.le_trans hC (h.2 g o e)⟩
theorem NewS.nil (B : Nat) : NewS B Option.none 0 := ⟨fun _ => rfl, fun g o e => by cases e⟩
theorem NewS.at {B G cb : Nat} (h : B ≤ G) : NewS B (Option.some ⟨G, 0, Option.none⟩) cb := ⟨(fun e => by cases e), fun g o e => by cases e; exact h⟩
/-- A list of ints in memory of its own. -/
def RwI (w : World) (B : Nat) (v : Value) (l : List Int) : Prop := w.ownsRow B 3 1 v l.length (l.map (Value.int .i64))
theorem RwI.cases {w : World} {B : Nat} {v : Value} {l : List Int} (h : RwI w B v l) : (v = .slice none 0 0 ∧ l = []) ∨ ∃ g cap, v = .slice (some ⟨g, 0, none⟩) l.length cap ∧ B ≤ g ∧ g < w.heap.size ∧ l.length ≤ cap ∧ cap ≤ maxLen ∧ Holds (Value.int .i64) w g 0 l.toArray := by
  rcases h.2 with ⟨h1, h2⟩ | ⟨g, cap, cur, h1, h2, h3, h4, h5, h6, h7⟩
  · exact .inl ⟨h1, List.length_eq_zero_iff.1 h2⟩
  · refine .inr ⟨g, cap, h1, h2, (Array.getElem?_eq_some_iff.1 h3).1, h4, h5, fun j hj => ?_⟩
    have hj' : j < l.length := by simpa using hj
    refine ⟨?_, frozen_of_row w g _ _ _ h3⟩
    rw [Nat.zero_add, cell_of_row w g j _ _ (0, 0) h3]
    have e : cur[j]? = (cur.toList.take (l.length * 1))[j]? := by
      rw [List.getElem?_take, if_pos (by omega), Array.getElem?_toList]
    rw [e, h7, List.getElem?_map, List.getElem?_eq_getElem hj']
    simp [hj']
theorem holds_ints {w : World} {g : Nat} {d : Array Int} {l : List Int} (h : Holds (Value.int .i64) w g 0 d) (hg : g < w.heap.size) (hl : ∀ j (hj : j < l.length), ∃ hd : j < d.size, d[j] = l[j]) : IntS w (some ⟨g, 0, none⟩) l := fun k hk => by
  obtain ⟨hd, e⟩ := hl k hk
  refine ⟨g, 0, rfl, hg, ?_⟩
  have := (h k hd).1
  rw [getElem!_pos d k hd, e] at this
  exact this
theorem RwI.ints {w : World} {B : Nat} {v : Value} {l : List Int} (h : RwI w B v l) : ∃ d cd, v = .slice d l.length cd ∧ IntS w d l := by
  rcases h.cases with ⟨rfl, rfl⟩ | ⟨g, cap, rfl, _, hg, _, _, hh⟩
  · exact ⟨none, 0, rfl, fun k hk => absurd hk (by simp)⟩
  · exact ⟨_, _, rfl, holds_ints hh hg fun j hj => ⟨by simpa using hj, by simp⟩⟩
theorem intS_cells {w : World} {b o : Nat} {l : List Int} (h : IntS w (some ⟨b, o, none⟩) l) : ∀ j, j < l.length → w.cell? ⟨b, o + j, none⟩ = some (.int .i64 (l.getD j 0)) := fun j hj => by
  obtain ⟨g, o', e, _, hc⟩ := h j hj
  cases e
  rw [hc, List.getD_eq_getElem?_getD, List.getElem?_eq_getElem hj]
  rfl
theorem below_sorted {B g n : Nat} {a w : World} {os : Array Obj} (d : Array Int) (h : Below B a w) (hw : B ≤ w.heap.size) (hg : B ≤ g) : Below B a (grow (putRow (Value.int .i64) (Sort.ahead w n) g 0 d) os) :=
  h.grown (grownBy_sortedI d) hw fun k e => by cases e; exact hg
theorem below_put_row {B g n : Nat} {a w : World} (d : Array Int) (h : Below B a w) (hw : B ≤ w.heap.size) (hg : B ≤ g) : Below B a (putRow (Value.int .i64) (Sort.ahead w n) g 0 d) := by
  have := below_sorted (n := n) (os := #[]) d h hw hg
  rwa [grow_empty] at this

end Go.Proofs.YtnnfmfdjgdgdhaaDoor


/- Tables as answers. -/
namespace Go.Proofs.YtnnfmfdjgdgdhaaDoor
open Go.RowKit Go.Shelf

/-- A table and an error are answered. -/
def TabA (vars : List Int) (l : List Fr) (k : Int) (e : Ending) (w' : World) : Prop := ∃ (b c : Option Addr) (cb cc : Nat), e = .returned (.tuple #[.agg #[.slice b vars.length cb, .slice c l.length cc], .int .i64 k]) ∧ IntS w' b vars ∧ FrS w' c l
/-- A table that may be handed on: its lists are new. -/
def TabA2 (B : Nat) (vars : List Int) (l : List Fr) (k : Int) (e : Ending) (w' : World) : Prop := ∃ (b c : Option Addr) (cb cc : Nat), e = .returned (.tuple #[.agg #[.slice b vars.length cb, .slice c l.length cc], .int .i64 k]) ∧ IntS w' b vars ∧ FrS w' c l ∧ NewS B b cb ∧ NewS B c cc
theorem TabA2.weak {B : Nat} {vars : List Int} {l : List Fr} {k : Int} {e : Ending} {w' : World} (h : TabA2 B vars l k e w') : TabA vars l k e w' := by
  obtain ⟨b, c, cb, cc, h1, h2, h3, _⟩ := h
  exact ⟨b, c, cb, cc, h1, h2, h3⟩
theorem TabA.empty (k : Int) (w : World) : TabA [] [] k (.returned (.tuple #[.agg #[.slice none 0 0, .slice none 0 0], .int .i64 k])) w := ⟨none, none, 0, 0, rfl, fun k hk => absurd hk (by simp), fun k hk => absurd hk (by simp)⟩
/-- Neither ints nor fractions lie in a table's block. -/
def SlV (v : Value) : Prop := ∃ a n c, v = Value.slice a n c
theorem slv (a : Option Addr) (n c : Nat) : SlV (.slice a n c) := ⟨a, n, c, rfl⟩
theorem below_put2 {B : Nat} {a w : World} (h : Below B a w) {g : Nat} (hg : B ≤ g) (u v : Value) : Below B a ((w.setCell ⟨g, 0, none⟩ u).setCell ⟨g, 1, none⟩ v) := (h.setCell hg u).setCell hg v

end Go.Proofs.YtnnfmfdjgdgdhaaDoor


/- Lists of ints: slices.Grow of nothing, slices.Concat of two. -/
namespace Go.Proofs.YtnnfmfdjgdgdhaaDoor
open Go.RowKit Go.Shelf

theorem wpList_append_ints {w : World} {ops : Array Oper} {rest : List Oper} {o : Oper} {a : Act} {Q : Exit → Act → World → Prop} (hgd : o.guard = none) (s x : Operand)
    (ho : o.op = .call { callee := .builtin .append, args := #[s, x], argTypes := #[22, 22] }) (base : Nat) (v : Value) (xs la : List Int) (hs : a.eval s = v) (hown : RwI w base v xs) (p : Option Addr) (ca : Nat) (hx : a.eval x = .slice p la.length ca) (hi : IntS w p la) (hp : p = none → ca = 0) (hlen : xs.length + la.length ≤ 100000) (hbase : base ≤ w.heap.size)
    (h : ∀ v' w', RwI w' base v' (xs ++ la) → w.grownBy w' v.ownBlock → wpList Tryd.prog ops Q rest (a.put o.dst v') w') : wpList Tryd.prog ops Q (o :: rest) a w := by
  obtain ⟨i0, hi0, hz0, hz1, hz2⟩ := info_parts Tryd.infoInt
  cases p with
  | none =>
    have hl : la = [] := by
      cases la with
      | nil => rfl
      | cons x l => obtain ⟨g, o, e, _⟩ := hi 0 (by simp); cases e
    subst hl
    have h0 := hp rfl
    subst h0
    have h1 := h v w (by rw [List.append_nil]; exact hown) ⟨rfl, rfl, rfl, Nat.le_refl _, fun _ _ _ => rfl⟩
    exact wpList_append_own_none hgd s x 22 ho base 3 i0 1 Tryd.underlying22 hi0 v xs.length _ hs hown hx h1
  | some ad =>
    refine wpList_append_own _ hgd s x 22 ho base 3 i0 (.int .i64 0) 1 8 Tryd.underlying22 hi0 hz0 hz1 hz2 rfl (by decide) v xs.length _ hs hown ad la.length ca (la.map (Value.int .i64)) hx (by simp) ?_ ?_ (by unfold maxLen; omega) (by omega) hbase ?_
    · intro j u hj
      rw [List.getElem?_map] at hj
      cases hq : la[j]? with
      | none => rw [hq] at hj; cases hj
      | some z =>
        rw [hq] at hj
        cases hj
        obtain ⟨hj1, hj2⟩ := List.getElem?_eq_some_iff.1 hq
        obtain ⟨g, o', e, _, hc⟩ := hi j hj1
        cases e
        rw [← hj2]
        rw [Addr.add]
        by_cases h0 : j = 0
        · subst h0; simpa using hc
        · simpa [h0] using hc
    · intro u hu
      obtain ⟨z, _, rfl⟩ := List.mem_map.1 hu
      rfl
    · intro v' w' h1 h2 _
      refine h v' w' ?_ h2
      rw [RwI, List.length_append, List.map_append]
      exact h1

/-- The first so many of two lists. -/
def firstOf (la lb : List Int) (i : Nat) : List Int := if i = 0 then [] else if i = 1 then la else la ++ lb
theorem RwI.own {w : World} {B : Nat} {v : Value} {l : List Int} (h : RwI w B v l) : ∀ k, v.ownBlock = some k → B ≤ k := by
  intro k hk
  rcases h.2 with ⟨rfl, _⟩ | ⟨g, cap, cur, rfl, h2, _⟩
  · cases hk
  · cases hk
    exact h2

theorem firstOf_len {la lb : List Int} (hla : la.length ≤ 1000) (hlb : lb.length ≤ 1000) (i : Nat) : (firstOf la lb i).length ≤ 2000 := by
  rw [firstOf]
  by_cases h : i = 0
  · rw [if_pos h]; simp
  · rw [if_neg h]
    by_cases h1 : i = 1
    · rw [if_pos h1]; omega
    · rw [if_neg h1, List.length_append]; omega

end Go.Proofs.YtnnfmfdjgdgdhaaDoor


/- Package graph: order, read, Check. -/
namespace Go.Proofs.YtnnfmfdjgdgdhaaDoor
open Go.RowKit Go.Shelf

theorem one_int (w : World) (u : Int) : IntS (w.alloc (.cells #[.int .i64 u] 3)) (some ⟨w.heap.size, 0, none⟩) [u] := fun k hk => by
  obtain rfl : k = 0 := by simp at hk; omega
  exact ⟨w.heap.size, 0, rfl, by simp, (Boxed.new w _ _).cell⟩
theorem RwI.under {w w' : World} {B : Nat} {v : Value} {l : List Int} (h : RwI w B v l) (hb : Below w.heap.size w w') : RwI w' B v l := by
  refine ⟨h.1, h.2.imp id ?_⟩
  rintro ⟨g, cap, cur, h1, h2, h3, h4⟩
  exact ⟨g, cap, cur, h1, h2, (hb.block g (Array.getElem?_eq_some_iff.1 h3).1).trans h3, h4⟩
theorem free_out {P : List (List Nat)} {out : List Nat} {v : Nat} (h : v ∈ out) : freeB P out v = false := by simp [freeB, h]
theorem free_par {P : List (List Nat)} {out p : List Nat} {v : Nat} (hp : P.getD v [] = p) (h : ¬ ∀ u ∈ p, u ∈ out) : freeB P out v = false := by rw [freeB, hp, decide_eq_false h, Bool.and_false]
theorem free_yes {P : List (List Nat)} {out p : List Nat} {v : Nat} (hp : P.getD v [] = p) (h : ¬ v ∈ out) (h' : ∀ u ∈ p, u ∈ out) : freeB P out v = true := by rw [freeB, hp, decide_eq_true h', decide_eq_false h]; rfl

end Go.Proofs.YtnnfmfdjgdgdhaaDoor


/- Nets in memory; their sizes and names. -/
namespace Go.Proofs.YtnnfmfdjgdgdhaaDoor
open Go.RowKit Go.Shelf

abbrev Vr : Type := ByteArray × List ByteArray
/-- A list of variables in memory. -/
def VsS (w : World) (a : Option Addr) (V : List Vr) : Prop := ∀ k (h : k < V.length), ∃ g o b c, a = some ⟨g, o, none⟩ ∧ g < w.heap.size ∧ w.cell? ⟨g, o + k * 2, none⟩ = some (.string V[k].1) ∧ w.cell? ⟨g, o + k * 2 + 1, none⟩ = some (.slice b V[k].2.length c) ∧ StS w b V[k].2 ∧ V[k].2.length ≤ c
theorem VsS.below {w w' : World} {a : Option Addr} {V : List Vr} (h : VsS w a V) (hb : Below w.heap.size w w') : VsS w' a V := fun k hk => by
  obtain ⟨g, o, b, c, h1, h2, h3, h4, h5, h6⟩ := h k hk
  exact ⟨g, o, b, c, h1, Nat.lt_of_lt_of_le h2 hb.size, (hb.cell (p := ⟨g, o + k * 2, none⟩) h2).trans h3, (hb.cell (p := ⟨g, o + k * 2 + 1, none⟩) h2).trans h4, h5.below hb, h6⟩
/-- How many values the variables have. -/
def sizesN (V : List Vr) : List Nat := V.map fun x => x.2.length
theorem sizesN_length (V : List Vr) : (sizesN V).length = V.length := by simp [sizesN]
theorem sizesN_get {V : List Vr} {i : Nat} (h : i < V.length) : (sizesN V)[i]? = some V[i].2.length := by simp [sizesN, h]

end Go.Proofs.YtnnfmfdjgdgdhaaDoor


/- Shares of dice, plainly: which share a die falls into, how many fall into each. -/
namespace Go.Proofs.YtnnfmfdjgdgdhaaDoor
/-- Which of so many shares a die falls into. -/
def dN : List Nat → Nat → Nat
  | [], _ => 0
  | a :: A, k => if k < a then 0 else dN A (k - a) + 1
/-- How many of the first k dice fell into each share. -/
def cntA : List Nat → Nat → List Nat
  | [], _ => []
  | a :: A, k => min k a :: cntA A (k - a)
theorem cntA_length : ∀ (A : List Nat) (k : Nat), (cntA A k).length = A.length
  | [], _ => rfl
  | a :: A, k => by rw [cntA, List.length_cons, List.length_cons, cntA_length A]
theorem cntA_zero : ∀ A : List Nat, cntA A 0 = List.replicate A.length 0
  | [] => rfl
  | a :: A => by rw [cntA, Nat.zero_min, Nat.zero_sub, cntA_zero A, List.length_cons, List.replicate_succ]
theorem cntA_le : ∀ (A : List Nat) (k : Nat), ∀ x ∈ cntA A k, x ≤ k
  | [], _, x, h => by cases h
  | a :: A, k, x, h => by
    rw [cntA] at h
    rcases List.mem_cons.1 h with rfl | h
    · exact Nat.min_le_left _ _
    · exact Nat.le_trans (cntA_le A _ x h) (Nat.sub_le _ _)
theorem dN_lt : ∀ (A : List Nat) (k : Nat), k < A.sum → dN A k < A.length
  | [], k, h => absurd h (by simp)
  | a :: A, k, h => by
    rw [List.sum_cons] at h
    rw [dN, List.length_cons]
    by_cases h1 : k < a
    · rw [if_pos h1]; omega
    · rw [if_neg h1]; have := dN_lt A (k - a) (by omega); omega
theorem cntA_step : ∀ (A : List Nat) (k : Nat) (h : k < A.sum), cntA A (k + 1) = (cntA A k).set (dN A k) ((cntA A k)[dN A k]'(by rw [cntA_length]; exact dN_lt A k h) + 1)
  | [], k, h => absurd h (by simp)
  | a :: A, k, h => by
    have h0 := h
    rw [List.sum_cons] at h
    by_cases h1 : k < a
    · have e1 : min (k + 1) a = k + 1 := by omega
      have e2 : min k a = k := by omega
      have e3 : k + 1 - a = 0 := by omega
      have e4 : k - a = 0 := by omega
      simp [cntA, dN, h1, e1, e2, e3, e4]
    · have e1 : min (k + 1) a = a := by omega
      have e2 : min k a = a := by omega
      have e3 : k + 1 - a = k - a + 1 := by omega
      have ih := cntA_step A (k - a) (by omega)
      simp [cntA, dN, h1, e1, e2, e3, ih]
theorem cntA_sum : ∀ A : List Nat, cntA A A.sum = A
  | [] => rfl
  | a :: A => by
    have e1 : min (a + A.sum) a = a := by omega
    have e2 : a + A.sum - a = A.sum := by omega
    rw [cntA, List.sum_cons, e1, e2, cntA_sum A]
theorem dN_first : ∀ (A : List Nat) (k : Nat), k < A.sum → (A.take (dN A k)).sum ≤ k ∧ k < (A.take (dN A k + 1)).sum
  | [], k, h => absurd h (by simp)
  | a :: A, k, h => by
    rw [List.sum_cons] at h
    rw [dN]
    by_cases h1 : k < a
    · rw [if_pos h1]; simp; exact h1
    · rw [if_neg h1]
      have ih := dN_first A (k - a) (by omega)
      rw [List.take_succ_cons, List.take_succ_cons, List.sum_cons, List.sum_cons]
      omega
theorem take_sum_mono (A : List Nat) {i j : Nat} (h : i ≤ j) : (A.take i).sum ≤ (A.take j).sum := by
  obtain ⟨d, rfl⟩ := Nat.exists_eq_add_of_le h
  rw [List.take_add, List.sum_append]
  omega
/-- The first share that has it is the one that it falls into. -/
theorem dN_is {A : List Nat} {k j : Nat} (hk : k < A.sum) (h1 : k < (A.take (j + 1)).sum) (h2 : ∀ i, i < j → ¬ k < (A.take (i + 1)).sum) : j = dN A k := by
  obtain ⟨f1, f2⟩ := dN_first A k hk
  rcases Nat.lt_trichotomy j (dN A k) with h | h | h
  · have := take_sum_mono A (i := j + 1) (j := dN A k) (by omega)
    omega
  · exact h
  · exact absurd f2 (h2 _ h)
/-- Rounded up. -/
def ceilN (n d : Nat) : Nat := n / d + if n % d = 0 then 0 else 1
theorem lt_ceilN {n d k : Nat} (hd : 0 < d) : k < ceilN n d ↔ k * d < n := by
  have h1 := Nat.div_add_mod n d
  have h2 := Nat.mod_lt n hd
  rw [ceilN]
  generalize n / d = q at *
  generalize n % d = r at *
  rw [Nat.mul_comm] at h1
  by_cases hr : r = 0
  · rw [if_pos hr, Nat.add_zero]
    constructor
    · intro h
      have := Nat.mul_lt_mul_of_pos_right h hd
      omega
    · intro h
      rcases Nat.lt_or_ge k q with h3 | h3
      · exact h3
      · have := Nat.mul_le_mul_right d h3; omega
  · rw [if_neg hr]
    constructor
    · intro h
      have : k * d ≤ q * d := Nat.mul_le_mul_right d (by omega)
      omega
    · intro h
      rcases Nat.lt_or_ge k (q + 1) with h3 | h3
      · exact h3
      · have h4 := Nat.mul_le_mul_right d h3
        rw [Nat.add_mul] at h4
        omega
theorem lt_nat_rat {q : Rat} {k : Nat} (hq : 0 ≤ q) : (k : Rat) < q ↔ k * q.den < q.num.natAbs := by
  have hn : 0 ≤ q.num := Rat.num_nonneg.2 hq
  rw [Rat.lt_iff]
  have e1 : (k : Rat).num = (k : Int) := Rat.num_natCast k
  have e2 : (k : Rat).den = 1 := rfl
  rw [e1, e2]
  constructor
  · intro h
    have : ((k * q.den : Nat) : Int) < q.num := by push_cast; omega
    omega
  · intro h
    have : ((k * q.den : Nat) : Int) < q.num := by omega
    push_cast at this
    omega
theorem ceil_lt {q : Rat} {k : Nat} (hq : 0 ≤ q) : k < ceilN q.num.natAbs q.den ↔ (k : Rat) < q := by
  rw [lt_ceilN q.den_pos, lt_nat_rat hq]
theorem ceil_le {q : Rat} {m : Nat} (hq : 0 ≤ q) (h : q ≤ (m : Rat)) : ceilN q.num.natAbs q.den ≤ m := by
  rcases Nat.lt_or_ge m (ceilN q.num.natAbs q.den) with h1 | h1
  · exact absurd ((ceil_lt hq).1 h1) (Rat.not_lt.2 h)
  · exact h1
/-- So many times a fraction, whose denominator divides that, is whole. -/
theorem whole_part {q : Rat} {n : Nat} (hq : 0 ≤ q) (h : q.den ∣ n) : q * (n : Rat) = ((q.num.natAbs * (n / q.den) : Nat) : Rat) := by
  obtain ⟨m, rfl⟩ := h
  have hd : 0 < q.den := q.den_pos
  rw [Nat.mul_div_cancel_left _ hd]
  have hn : 0 ≤ q.num := Rat.num_nonneg.2 hq
  have e : ((q.num.natAbs : Nat) : Rat) = (q.num : Rat) := by
    have : ((q.num.natAbs : Nat) : Int) = q.num := by omega
    rw [← Rat.intCast_natCast, this]
  have hdn : (q.den : Rat) ≠ 0 := fun h => by
    have h' : q.den = 0 := by exact_mod_cast h
    omega
  have e2 : q * (q.den : Rat) = (q.num : Rat) := by
    have h : (q.num : Rat) / (q.den : Rat) = q := by rw [← Rat.mkRat_eq_div, Rat.mkRat_self]
    rw [Rat.div_def] at h
    calc q * (q.den : Rat) = ((q.num : Rat) * (q.den : Rat)⁻¹) * (q.den : Rat) := by rw [h]
      _ = (q.num : Rat) := by rw [Rat.mul_assoc, Rat.inv_mul_cancel _ hdn, Rat.mul_one]
  rw [Rat.natCast_mul, Rat.natCast_mul, e, ← Rat.mul_assoc, e2]
theorem cum_whole {l : List Fr} {A : List Nat} {n : Nat} (hl : l.length = A.length) (h : ∀ j (h1 : j < l.length) (h2 : j < A.length), frv l[j] * (n : Rat) = (A[j] : Rat)) : ∀ i, i ≤ l.length → fsum (l.take i) * (n : Rat) = ((A.take i).sum : Rat)
  | 0, _ => by simp [fsum]
  | i + 1, hi => by
    have h2 : i < A.length := by omega
    rw [take_one (by omega : i < l.length), Rat.add_mul, cum_whole hl h i (by omega), h i (by omega) h2, List.take_succ_eq_append_getElem h2, List.sum_append, List.sum_singleton, Rat.natCast_add]
theorem den_le {a S : Nat} (hS : S ≠ 0) : ((a : Rat) / (S : Rat)).den ≤ S := by
  have e : (a : Rat) / (S : Rat) = mkRat (a : Int) S := by rw [Rat.mkRat_eq_div]; rfl
  rw [e]
  obtain ⟨m, _, _, h2⟩ := Rat.mkRat_num_den hS (rfl : mkRat (a : Int) S = ⟨(mkRat (a : Int) S).num, (mkRat (a : Int) S).den, (mkRat (a : Int) S).den_nz, (mkRat (a : Int) S).reduced⟩)
  exact Nat.le_of_dvd (Nat.pos_of_ne_zero hS) ⟨m, h2⟩
/-- The first thing that has the die in its share. -/
def DrwN (l : List Fr) (m k j : Nat) : Prop := j < l.length ∧ (k : Rat) < fsum (l.take (j + 1)) * (m : Rat) ∧ ∀ i, i < j → ¬ (k : Rat) < fsum (l.take (i + 1)) * (m : Rat)
/-- Of so many dice, how many each thing is to have. -/
def wA (l : List Fr) (m : Nat) : List Nat := l.map fun f => (frv f).num.natAbs * (m / (frv f).den)
theorem wA_length (l : List Fr) (m : Nat) : (wA l m).length = l.length := by simp [wA]
/-- Chances whose denominators divide so many. -/
structure Sha (l : List Fr) (m : Nat) : Prop where
  low : ∀ f ∈ l, 0 ≤ frv f
  div : ∀ f ∈ l, (frv f).den ∣ m
  one : fsum l = 1
theorem Sha.each {l : List Fr} {m : Nat} (h : Sha l m) (j : Nat) (h1 : j < l.length) (h2 : j < (wA l m).length) : frv l[j] * (m : Rat) = ((wA l m)[j] : Rat) := by
  have e : (wA l m)[j] = (frv l[j]).num.natAbs * (m / (frv l[j]).den) := by simp [wA]
  rw [e]
  exact whole_part (h.low _ (List.getElem_mem h1)) (h.div _ (List.getElem_mem h1))
theorem Sha.cum {l : List Fr} {m : Nat} (h : Sha l m) {i : Nat} (hi : i ≤ l.length) : fsum (l.take i) * (m : Rat) = (((wA l m).take i).sum : Rat) := cum_whole (wA_length l m).symm h.each i hi
theorem Sha.sum {l : List Fr} {m : Nat} (h : Sha l m) : (wA l m).sum = m := by
  have e := h.cum (Nat.le_refl l.length)
  rw [List.take_length, h.one, Rat.one_mul, List.take_of_length_le (by rw [wA_length]; exact Nat.le_refl _)] at e
  exact (by exact_mod_cast e.symm)
theorem Sha.drawn {l : List Fr} {m k j : Nat} (h : Sha l m) (hk : k < m) (hd : DrwN l m k j) : j = dN (wA l m) k := by
  obtain ⟨h1, h2, h3⟩ := hd
  refine dN_is (by rw [h.sum]; exact hk) ?_ fun i hi hlt => h3 i hi ?_
  · rw [h.cum (by omega)] at h2
    exact_mod_cast h2
  · rw [h.cum (by omega)]
    exact_mod_cast hlt
theorem fsum_app (l r : List Fr) : fsum (l ++ r) = fsum l + fsum r := by
  induction r using snoc_ind with
  | h0 => rw [List.append_nil, show fsum [] = 0 from rfl, Rat.add_zero]
  | h1 r f ih => rw [← List.append_assoc, fsum_snoc, fsum_snoc, ih, Rat.add_assoc]
theorem fsum_low {l : List Fr} : (∀ f ∈ l, 0 ≤ frv f) → 0 ≤ fsum l := by
  induction l using snoc_ind with
  | h0 => intro _; exact Rat.le_refl
  | h1 l f ih =>
    intro h
    rw [fsum_snoc]
    exact Rat.add_nonneg (ih fun g hg => h g (List.mem_append_left _ hg)) (h f (List.mem_append_right _ (List.mem_singleton.2 rfl)))
theorem fsum_take_le {l : List Fr} (h : ∀ f ∈ l, 0 ≤ frv f) (i : Nat) : fsum (l.take i) ≤ fsum l := by
  have e : fsum l = fsum (l.take i) + fsum (l.drop i) := by rw [← fsum_app, List.take_append_drop]
  rw [e]
  have h2 : 0 ≤ fsum (l.drop i) := fsum_low fun f hf => h f (List.mem_of_mem_drop hf)
  have h3 := (Rat.add_le_add_left (c := fsum (l.take i))).2 h2
  rwa [Rat.add_zero] at h3
theorem fits_tim {m k : Nat} {p q : Rat} (hp : Fits m p) (hq : Fits k q) : Fits (m + k) (p * q) := by
  obtain ⟨A, D, h1, rfl, h3, h4⟩ := hp
  obtain ⟨A', D', h1', rfl, h3', h4'⟩ := hq
  refine ⟨A * A', D * D', Nat.mul_ne_zero h1 h1', by rw [Rat.mkRat_mul_mkRat], ?_, ?_⟩
  · rw [Nat.pow_add]
    exact Nat.mul_lt_mul'' h3 h3'
  · rw [Int.natAbs_mul, Nat.pow_add]
    exact Nat.mul_lt_mul'' h4 h4'
/-- So many dice draw a thing or one ahead of it, as a fraction. -/
def cqR (l : List Fr) (m i : Nat) : Rat := fsum (l.take (i + 1)) * (m : Rat)
/-- The same, rounded up, of all things. -/
def shN (l : List Fr) (m : Nat) : List Nat := (List.range l.length).map fun i => ceilN (cqR l m i).num.natAbs (cqR l m i).den
theorem shN_length (l : List Fr) (m : Nat) : (shN l m).length = l.length := by simp [shN]
theorem shN_get (l : List Fr) (m : Nat) {i : Nat} (h : i < (shN l m).length) : (shN l m)[i] = ceilN (cqR l m i).num.natAbs (cqR l m i).den := by simp [shN]
theorem cqR_low {l : List Fr} (h : ∀ f ∈ l, 0 ≤ frv f) (m i : Nat) : 0 ≤ cqR l m i := Rat.mul_nonneg (fsum_low fun f hf => h f (List.mem_of_mem_take hf)) Rat.natCast_nonneg
theorem cqR_high {l : List Fr} (h : ∀ f ∈ l, 0 ≤ frv f) (h1 : fsum l = 1) (m i : Nat) : cqR l m i ≤ (m : Rat) := by
  have h2 := fsum_take_le h (i + 1)
  rw [h1] at h2
  have h3 := Rat.mul_le_mul_of_nonneg_right h2 (Rat.natCast_nonneg (a := m))
  rwa [Rat.one_mul] at h3
theorem shN_lt {l : List Fr} (h : ∀ f ∈ l, 0 ≤ frv f) (m : Nat) {k i : Nat} (hi : i < (shN l m).length) : k < (shN l m)[i] ↔ (k : Rat) < cqR l m i := by
  rw [shN_get]
  exact ceil_lt (cqR_low h m i)
/-- A die that there is falls into a share. -/
theorem shN_ex {l : List Fr} (h : ∀ f ∈ l, 0 ≤ frv f) (h1 : fsum l = 1) {m k : Nat} (hk : k < m) : ∃ i, ∃ h : i < (shN l m).length, k < (shN l m)[i] := by
  have hl : 0 < l.length := by
    rcases l with _ | ⟨f, l⟩
    · exact absurd (show (0 : Rat) = 1 from h1) (by decide)
    · exact Nat.succ_pos _
  refine ⟨l.length - 1, by rw [shN_length]; omega, ?_⟩
  rw [shN_lt h, cqR, show l.length - 1 + 1 = l.length by omega, List.take_length, h1, Rat.one_mul]
  exact_mod_cast hk
theorem shN_drw {l : List Fr} (h : ∀ f ∈ l, 0 ≤ frv f) {m k j : Nat} (hj : j < (shN l m).length) (h1 : k < (shN l m)[j]) (h2 : ∀ i (h : i < (shN l m).length), i < j → ¬ k < (shN l m)[i]) : DrwN l m k j :=
  ⟨by rw [shN_length] at hj; exact hj, (shN_lt h m hj).1 h1, fun i hi hlt => h2 i (by omega) hi ((shN_lt h m (by omega)).2 hlt)⟩
end Go.Proofs.YtnnfmfdjgdgdhaaDoor

