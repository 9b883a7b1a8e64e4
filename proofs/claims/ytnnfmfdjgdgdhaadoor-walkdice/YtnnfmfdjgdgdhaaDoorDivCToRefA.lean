/- divide, Div and Gcd of package nat. -/
import Derived.Test.YtnnfmfdjgdgdhaaDoorMostAToDivB
import Derived.Test.YtnnfmfdjgdgdhaaDoorSubAToShiftB
namespace Go.Proofs.YtnnfmfdjgdgdhaaDoor
open Go.RowKit

theorem words_some {n : Nat} (h : n ≠ 0) : 0 < (words n).length := by
  rcases Nat.eq_zero_or_pos (words n).length with e | e
  · exact absurd ((words_nil_iff n).1 (List.eq_nil_of_length_eq_zero e)) h
  · exact e
theorem lt_of_words_lt {x y : Nat} (h : (words x).length < (words y).length) : x < y := by
  have hpos : 0 < (words y).length := by omega
  have hb := getD_lt (words_small y) ((words y).length - 1)
  have h1 := (by_length (words y) 0 (words_small y) hpos (words_last_get y hpos) (by rw [Nat.pow_zero, Nat.one_mul]; exact hb)).2.1
  rw [Nat.pow_zero, Nat.one_mul, Nat.one_mul, nw_words] at h1
  have h2 := nw_lt (words x) (words_small x)
  rw [nw_words] at h2
  have h3 : W ^ (words x).length ≤ W ^ ((words y).length - 1) := Nat.pow_le_pow_right W_pos (by omega)
  omega
theorem words_len_mono {x y : Nat} (h : x ≤ y) : (words x).length ≤ (words y).length := by
  rcases Nat.lt_or_ge (words y).length (words x).length with c | c
  · have := lt_of_words_lt c; omega
  · exact c
theorem lt_of_two {x : Nat} (h : (words x).length ≤ 2) : x < 18446744073709551616 := by
  have h2 := nw_lt (words x) (words_small x)
  rw [nw_words] at h2
  have h3 : W ^ (words x).length ≤ W ^ 2 := Nat.pow_le_pow_right W_pos h
  have h4 : W ^ 2 = 18446744073709551616 := by rw [W_eq]
  omega

theorem divide_any (gx capx gy capy x y : Nat) (w : World) (hy0 : y ≠ 0) (hlx : (words x).length ≤ 4398046511104) (hcx : (words x).length ≤ capx) (hx : Lies w gx 0 (words x)) (hy : Lies w gy 0 (words y)) :
    Calls Tryd.prog 57 #[.slice (some ⟨gx, 0, none⟩) (words x).length capx, .slice (some ⟨gy, 0, none⟩) (words y).length capy] w fun e w' =>
      ∃ vq gr cr, e = .returned (.tuple #[vq, .slice (some ⟨gr, 0, none⟩) (words (x % y)).length cr]) ∧ Has w' w.heap.size vq (words (x / y)) ∧ (words (x % y)).length ≤ cr ∧ Lies w' gr 0 (words (x % y)) ∧ Below w.heap.size w w' := by
  rcases Nat.lt_or_ge (words x).length (words y).length with c | c
  · have hlt := lt_of_words_lt c
    refine (divide_small _ _ capx _ _ capy w c).mono ?_
    rintro e w' ⟨rfl, rfl⟩
    refine ⟨_, gx, capx, by rw [Nat.mod_eq_of_lt hlt], ?_, by rw [Nat.mod_eq_of_lt hlt]; exact hcx, by rw [Nat.mod_eq_of_lt hlt]; exact hx, Below.refl _ _⟩
    rw [Nat.div_eq_of_lt hlt, words_zero]
    exact ⟨rfl, .inl ⟨rfl, rfl⟩⟩
  · have hp := words_some hy0
    have := divide_big gx capx gy capy (words x) (words y) w (words_small _) (words_small _) hlx hp (words_last_get y hp) c hx hy
    rw [nw_words, nw_words] at this
    refine this.mono ?_
    rintro e w' ⟨gq, cq, gr, cr, rfl, h1, h2, h3⟩
    obtain ⟨_, h4, _, h5⟩ := own_lies h2
    exact ⟨_, gr, cr, rfl, h1, h4, h5, h3⟩

set_option maxRecDepth 100000 in
set_option maxHeartbeats 1000000 in
theorem Div_no (a b : ByteArray) (w : World) (hb : b.size ≤ 1099511627776) (h0 : N b = 0) :
    Calls Tryd.prog 45 #[.string a, .string b] w fun e w' => e = .returned (.tuple #[.string ⟨#[]⟩, .string ⟨#[]⟩, .bool false]) ∧ Below w.heap.size w w' := by
  go_enter Tryd.func45, Tryd.ntmps45
  go_wp2_with fail
  refine (spread_some b _ (by omega)).mono ?_
  rintro e w1 ⟨g1, c1, rfl, h1, hb1⟩
  rw [h0, words_zero]
  go_wp2
  go_ret3
  exact ⟨rfl, hb1⟩

set_option maxRecDepth 100000 in
set_option maxHeartbeats 1000000 in
theorem Div_yes (a b : ByteArray) (w : World) (ha : a.size ≤ 1099511627776) (hb : b.size ≤ 1099511627776) (h0 : N b ≠ 0) :
    Calls Tryd.prog 45 #[.string a, .string b] w fun e w' => e = .returned (.tuple #[.string (B (N a / N b)), .string (B (N a % N b)), .bool true]) ∧ Below w.heap.size w w' := by
  have hla := words_len_le a 274877906944 (by omega)
  have hlb := words_len_le b 274877906944 (by omega)
  have hpos := words_some h0
  have hne : ¬ (((words (N b)).length : Int) = 0) := by omega
  have hlq : (words (N a / N b)).length ≤ 274877906944 := Nat.le_trans (words_len_mono (Nat.div_le_self _ _)) hla
  have hlr : (words (N a % N b)).length ≤ 274877906944 := Nat.le_trans (words_len_mono (Nat.mod_le _ _)) hla
  go_enter Tryd.func45, Tryd.ntmps45
  go_wp2_with fail
  refine (spread_some b _ (by omega)).mono ?_
  rintro e w1 ⟨g1, c1, rfl, h1, hb1⟩
  go_wp2_with fail
  refine (spread_some a _ (by omega)).mono ?_
  rintro e w2 ⟨g2, c2, rfl, h2, hb2⟩
  have hl1 := has_lies h1 hb2
  have hl2 := has_lies h2 (Below.refl _ _)
  have hB2 : Below w.heap.size w w2 := hb1.trans (hb2.mono hb1.size)
  go_wp2_with fail
  refine (divide_any g2 c2 g1 c1 (N a) (N b) _ h0 (by omega) (own_lies h2).2.1 hl2 hl1).mono ?_
  rintro e w3 ⟨vq, gr, cr, rfl, hq, hcr, hr, hb3⟩
  have hB3 : Below w.heap.size w w3 := hB2.trans (hb3.mono hB2.size)
  go_wp2_with fail
  refine (gather_own _ _ _ _ (words_small _) (by omega) hq).mono ?_
  rintro e w4 ⟨rfl, hb4⟩
  have hr4 := hr.below hb4 hr.lt
  have hB4 : Below w.heap.size w w4 := hB3.trans (hb4.mono hB3.size)
  rw [nw_words]
  go_wp2_with fail
  refine (gather_some gr cr _ _ (words_small _) hcr (by omega) hr4.lt (fun j hj => hr4.cell j hj)).mono ?_
  rintro e w5 ⟨rfl, hb5⟩
  rw [nw_words]
  go_wp2
  go_ret3
  exact ⟨rfl, hB4.trans (hb5.mono hB4.size)⟩

set_option maxRecDepth 100000 in
set_option maxHeartbeats 1000000 in
theorem Gcd_any (a b : ByteArray) (w : World) (ha : a.size ≤ 1099511627776) (hb : b.size ≤ 1099511627776) :
    Calls Tryd.prog 52 #[.string a, .string b] w fun e w' => e = .returned (.string (B (Nat.gcd (N a) (N b)))) ∧ Below w.heap.size w w' := by
  have hla := words_len_le a 274877906944 (by omega)
  have hlb := words_len_le b 274877906944 (by omega)
  go_enter Tryd.func52, Tryd.ntmps52
  go_wp2_with fail
  refine (spread_some a _ (by omega)).mono ?_
  rintro e w1 ⟨g1, c1, rfl, h1, hb1⟩
  go_wp2_with fail
  refine (spread_some b _ (by omega)).mono ?_
  rintro e w2 ⟨g2, c2, rfl, h2, hb2⟩
  have hl1 := has_lies h1 hb2
  have hl2 := has_lies h2 (Below.refl _ _)
  have hB2 : Below w.heap.size w w2 := hb1.trans (hb2.mono hb1.size)
  have hc1 := (own_lies h1).2.1
  have hc2 := (own_lies h2).2.1
  go_wp2_with fail
  go_loopg [5, 6] (N b) (fun r vx vy wr => ∃ (x gx cx gy cy : Nat), vx = .slice (some ⟨gx, 0, none⟩) (words x).length cx ∧ vy = .slice (some ⟨gy, 0, none⟩) (words r).length cy ∧ (words x).length ≤ cx ∧ (words r).length ≤ cy ∧ (words x).length ≤ 274877906944 ∧ (words r).length ≤ 274877906944 ∧ Hid (Lies wr gx 0 (words x)) ∧ Hid (Lies wr gy 0 (words r)) ∧ Hid (Nat.gcd x r = Nat.gcd (N a) (N b)) ∧ Hid (Below w.heap.size w wr))
  case atStart => exact ⟨_, _, _, _, _, rfl, rfl, hc1, hc2, hla, hlb, hl1, hl2, rfl, hB2⟩
  case round =>
    obtain ⟨x, gx, cx, gy, cy, rfl, rfl, hcx, hcy, hxl, hyl, hxw, hyw, hg, hB⟩ := hrel
    clear hl1 hl2 hB2 hc1 hc2 h1 h2 hb1 hb2
    by_cases hy0 : gk = 0
    · subst hy0
      rw [words_zero] at *
      go_wp2_with fail
      refine (gather_some gx cx _ _ (words_small _) hcx (by omega) hxw.out.lt (fun j hj => hxw.out.cell j hj)).mono ?_
      rintro e w5 ⟨rfl, hb5⟩
      rw [nw_words]
      go_wp2
      go_ret
      exact ⟨by rw [← hg.out, Nat.gcd_zero_right]; rfl, hB.out.trans (hb5.mono hB.out.size)⟩
    · have hpos := words_some hy0
      have hne : ¬ (((words gk).length : Int) = 0) := by omega
      by_cases hbig : 2 < (words x).length
      · go_wp2_with fail
        refine (divide_any gx cx gy cy x gk _ hy0 (by omega) hcx hxw.out hyw.out).mono ?_
        rintro e w5 ⟨vq, gr, cr, rfl, _, hcr, hr, hb5⟩
        have hlr : (words (x % gk)).length ≤ 274877906944 := Nat.le_trans (words_len_mono (Nat.mod_le _ _)) hxl
        have HR := hide hr
        have HY5 := hide (hyw.out.below hb5 hyw.out.lt)
        have HB5 := hide (hB.out.trans (hb5.mono hB.out.size))
        have HG5 : Hid (Nat.gcd gk (x % gk) = Nat.gcd (N a) (N b)) := by show _ = _; rw [← hg.out, Nat.gcd_comm x gk, Nat.gcd_rec gk x, Nat.gcd_comm]
        go_wp2
        go_roundg (x % gk)
        case measure => exact Nat.mod_lt _ (Nat.pos_of_ne_zero hy0)
        case rel => exact ⟨gk, gy, cy, gr, cr, rfl, rfl, hcy, hcr, hyl, hlr, HY5, HR, HG5, HB5⟩
      · by_cases hbig2 : 2 < (words gk).length
        · go_wp2_with fail
          refine (divide_any gx cx gy cy x gk _ hy0 (by omega) hcx hxw.out hyw.out).mono ?_
          rintro e w5 ⟨vq, gr, cr, rfl, _, hcr, hr, hb5⟩
          have hlr : (words (x % gk)).length ≤ 274877906944 := Nat.le_trans (words_len_mono (Nat.mod_le _ _)) hxl
          have HR := hide hr
          have HY5 := hide (hyw.out.below hb5 hyw.out.lt)
          have HB5 := hide (hB.out.trans (hb5.mono hB.out.size))
          have HG5 : Hid (Nat.gcd gk (x % gk) = Nat.gcd (N a) (N b)) := by show _ = _; rw [← hg.out, Nat.gcd_comm x gk, Nat.gcd_rec gk x, Nat.gcd_comm]
          go_wp2
          go_roundg (x % gk)
          case measure => exact Nat.mod_lt _ (Nat.pos_of_ne_zero hy0)
          case rel => exact ⟨gk, gy, cy, gr, cr, rfl, rfl, hcy, hcr, hyl, hlr, HY5, HR, HG5, HB5⟩
        · have hx64 := lt_of_two (Nat.le_of_not_lt hbig)
          have hy64 := lt_of_two (Nat.le_of_not_lt hbig2)
          go_wp2_with fail
          refine (wordOf_any gx cx _ _ (words_small _) (Nat.le_of_not_lt hbig) hxw.out).mono ?_
          rintro e w5 ⟨rfl, hw⟩
          subst hw
          rw [nw_words]
          go_wp2_with fail
          refine (wordOf_any gy cy _ _ (words_small _) (Nat.le_of_not_lt hbig2) hyw.out).mono ?_
          rintro e w6 ⟨rfl, hw⟩
          subst hw
          rw [nw_words]
          go_wp2_with fail
          refine (gcdOfWords_any x gk _ hx64 hy64).mono ?_
          rintro e w7 ⟨rfl, hb7⟩
          have hB7 := hB.out.trans (hb7.mono hB.out.size)
          rw [hg.out]
          have hg64 : Nat.gcd (N a) (N b) < 18446744073709551616 := by rw [← hg.out]; exact Nat.lt_of_le_of_lt (Nat.gcd_le_right _ (Nat.pos_of_ne_zero hy0)) hy64
          go_wp2_with fail
          refine (ofWord_any _ _ hg64).mono ?_
          rintro e w8 ⟨rfl, hb8⟩
          go_wp2
          go_ret
          exact ⟨rfl, hB7.trans (hb8.mono hB7.size)⟩
end Go.Proofs.YtnnfmfdjgdgdhaaDoor


/- The face of package nat: what each call answers, told by the number that it makes. -/
namespace Go.Proofs.YtnnfmfdjgdgdhaaDoor
open Go.RowKit

theorem bn_fits (k : Nat) : ∀ n, n < 256 ^ k → (bn n).length ≤ k := by
  induction k with
  | zero =>
    intro n h
    have : n = 0 := by simpa using h
    subst this; simp [bn_zero]
  | succ k ih =>
    intro n h
    by_cases e : n = 0
    · subst e; simp [bn_zero]
    · rw [bn_pos n e, List.length_append, List.length_singleton]
      have := ih (n / 256) (Nat.div_lt_of_lt_mul (by rw [Nat.pow_succ] at h; omega))
      omega
theorem B_lt (n : Nat) : n < 256 ^ (B n).size := by
  have := nb_lt (bn n)
  rwa [nb_bn, ← B_size] at this
theorem sz_mono {m n : Nat} (h : m ≤ n) : (B m).size ≤ (B n).size := by
  rw [B_size m]
  exact bn_fits _ _ (Nat.lt_of_le_of_lt h (B_lt n))
theorem sz_mul (m n : Nat) : (B (m * n)).size ≤ (B m).size + (B n).size := by
  rw [B_size (m * n)]
  refine bn_fits _ _ ?_
  rw [Nat.pow_add]
  exact Nat.mul_lt_mul'' (B_lt m) (B_lt n)
theorem sz_add (m n : Nat) : (B (m + n)).size ≤ (B m).size + (B n).size + 1 := by
  rw [B_size (m + n)]
  refine bn_fits _ _ ?_
  have h1 := B_lt m
  have h2 := B_lt n
  have h3 : 256 ^ (B m).size ≤ 256 ^ ((B m).size + (B n).size) := Nat.pow_le_pow_right (by decide) (by omega)
  have h4 : 256 ^ (B n).size ≤ 256 ^ ((B m).size + (B n).size) := Nat.pow_le_pow_right (by decide) (by omega)
  rw [Nat.pow_succ]
  omega
theorem B_zero : B 0 = ⟨#[]⟩ := by rw [B, bn_zero]
theorem N_empty : N ⟨#[]⟩ = 0 := rfl
theorem B_inj {m n : Nat} (h : B m = B n) : m = n := by rw [← N_B m, h, N_B]
theorem B_some {n : Nat} (h : n ≠ 0) : B n ≠ ⟨#[]⟩ := fun e => h (by rw [← N_B n, e, N_empty])
theorem B_full {n : Nat} (h : n ≠ 0) : (B n).toList.isEmpty = false := by
  cases e : (B n).toList with
  | cons => rfl
  | nil =>
    rw [Lib.toList_data] at e
    have h2 : (B n).size = 0 := by rw [ByteArray.size, ← Array.length_toList, e]; rfl
    have h3 := B_lt n
    rw [h2] at h3
    omega
theorem bytes_len (s : ByteArray) : s.data.toList.length = s.size := by rw [Array.length_toList]; rfl
theorem B_one_size : (B 1).size ≤ 1 := by rw [B_size]; exact bn_fits 1 1 (by decide)

theorem under {P : Program} {f : FuncId} {args : Array Value} {w0 w : World} {X : Ending} (hB : Below w0.heap.size w0 w) (h : Calls P f args w fun e w' => e = X ∧ Below w.heap.size w w') : Calls P f args w fun e w' => e = X ∧ Below w0.heap.size w0 w' :=
  h.mono fun _ _ ⟨h1, h2⟩ => ⟨h1, hB.trans (h2.mono hB.size)⟩
theorem under_same {P : Program} {f : FuncId} {args : Array Value} {w0 w : World} {X : Ending} (hB : Below w0.heap.size w0 w) (h : Calls P f args w fun e w' => e = X ∧ w' = w) : Calls P f args w fun e w' => e = X ∧ Below w0.heap.size w0 w' :=
  h.mono fun _ _ ⟨h1, h2⟩ => ⟨h1, by rw [h2]; exact hB⟩

theorem Add_to {a b : ByteArray} {w0 w : World} (n : Nat) (hB : Below w0.heap.size w0 w) (h : N a + N b = n) (ha : a.size ≤ 1099511627776) (hb : b.size ≤ 1099511627776) :
    Calls Tryd.prog 44 #[.string a, .string b] w fun e w' => e = .returned (.string (B n)) ∧ Below w0.heap.size w0 w' := by
  subst h; exact under hB (Add_any a b w ha hb)
theorem Mul_to {a b : ByteArray} {w0 w : World} (n : Nat) (hB : Below w0.heap.size w0 w) (h : N a * N b = n) (ha : a.size ≤ 1099511627776) (hb : b.size ≤ 1099511627776) :
    Calls Tryd.prog 47 #[.string a, .string b] w fun e w' => e = .returned (.string (B n)) ∧ Below w0.heap.size w0 w' := by
  subst h; exact under hB (Mul_any a b w ha hb)
theorem Gcd_to {a b : ByteArray} {w0 w : World} (n : Nat) (hB : Below w0.heap.size w0 w) (h : Nat.gcd (N a) (N b) = n) (ha : a.size ≤ 1099511627776) (hb : b.size ≤ 1099511627776) :
    Calls Tryd.prog 52 #[.string a, .string b] w fun e w' => e = .returned (.string (B n)) ∧ Below w0.heap.size w0 w' := by
  subst h; exact under hB (Gcd_any a b w ha hb)
theorem Of_to {x : Int} {w0 w : World} (n : Nat) (hB : Below w0.heap.size w0 w) (h : x = (n : Int)) (hx : x ≤ 9223372036854775807) :
    Calls Tryd.prog 43 #[.int .i64 x] w fun e w' => e = .returned (.string (B n)) ∧ Below w0.heap.size w0 w' := by
  have := under hB (Of_any x w (by omega) hx)
  rwa [show x.toNat = n by omega] at this
theorem Sub_to {a b : ByteArray} {w0 w : World} (n : Nat) (hB : Below w0.heap.size w0 w) (h : N a = N b + n) (ha : a.size ≤ 1099511627776) (hb : b.size ≤ 1099511627776) :
    Calls Tryd.prog 50 #[.string a, .string b] w fun e w' => e = .returned (.tuple #[.string (B n), .bool true]) ∧ Below w0.heap.size w0 w' := by
  have := under hB (Sub_yes a b w ha hb (by omega))
  rwa [show N a - N b = n by omega] at this
theorem Sub_not {a b : ByteArray} {w0 w : World} (hB : Below w0.heap.size w0 w) (h : N a < N b) :
    Calls Tryd.prog 50 #[.string a, .string b] w fun e w' => e = .returned (.tuple #[.string ⟨#[]⟩, .bool false]) ∧ Below w0.heap.size w0 w' := under hB (Sub_no a b w h)
theorem Div_to {a b : ByteArray} {w0 w : World} (q r : Nat) (hB : Below w0.heap.size w0 w) (hq : N a / N b = q) (hr : N a % N b = r) (h0 : N b ≠ 0) (ha : a.size ≤ 1099511627776) (hb : b.size ≤ 1099511627776) :
    Calls Tryd.prog 45 #[.string a, .string b] w fun e w' => e = .returned (.tuple #[.string (B q), .string (B r), .bool true]) ∧ Below w0.heap.size w0 w' := by
  subst hq hr; exact under hB (Div_yes a b w ha hb h0)
theorem Div_not {a b : ByteArray} {w0 w : World} (hB : Below w0.heap.size w0 w) (h0 : N b = 0) (hb : b.size ≤ 1099511627776) :
    Calls Tryd.prog 45 #[.string a, .string b] w fun e w' => e = .returned (.tuple #[.string ⟨#[]⟩, .string ⟨#[]⟩, .bool false]) ∧ Below w0.heap.size w0 w' := under hB (Div_no a b w hb h0)
theorem Cmp_to {a b : ByteArray} {w0 w : World} (n : Int) (hB : Below w0.heap.size w0 w) (h : cmpI (N a) (N b) = n) :
    Calls Tryd.prog 51 #[.string a, .string b] w fun e w' => e = .returned (.int .i64 n) ∧ Below w0.heap.size w0 w' := by
  subst h; exact under_same hB (Cmp_any a b w)
end Go.Proofs.YtnnfmfdjgdgdhaaDoor


/- Plain facts on digits of base 256, lowest first, and on leading zeros. -/
namespace Go.Proofs.YtnnfmfdjgdgdhaaDoor

/-- What digits of base 256 stand for, the lowest first. -/
def nd : List Nat → Nat
  | [] => 0
  | x :: r => x + 256 * nd r
theorem nd_nil : nd [] = 0 := rfl
theorem nd_cons (x : Nat) (r : List Nat) : nd (x :: r) = x + 256 * nd r := rfl
theorem nd_zeros (n : Nat) : nd (List.replicate n 0) = 0 := by
  induction n with
  | zero => rfl
  | succ n ih => rw [List.replicate_succ, nd_cons, ih]
theorem nd_set (l : List Nat) : ∀ (j y : Nat) (h : j < l.length), nd (l.set j y) + l[j] * 256 ^ j = nd l + y * 256 ^ j := by
  induction l with
  | nil => intro j y h; exact absurd h (Nat.not_lt_zero _)
  | cons x r ih =>
    intro j y h
    cases j with
    | zero => simp only [List.set_cons_zero, nd_cons, List.getElem_cons_zero, Nat.pow_zero, Nat.mul_one]; omega
    | succ j =>
      have hj : j < r.length := by simpa using h
      have := ih j y hj
      simp only [List.set_cons_succ, nd_cons, List.getElem_cons_succ, Nat.pow_succ]
      have e1 : r[j] * (256 ^ j * 256) = 256 * (r[j] * 256 ^ j) := by rw [← Nat.mul_assoc, Nat.mul_comm]
      have e2 : y * (256 ^ j * 256) = 256 * (y * 256 ^ j) := by rw [← Nat.mul_assoc, Nat.mul_comm]
      rw [e1, e2]
      omega
theorem nd_append (a b : List Nat) : nd (a ++ b) = nd a + 256 ^ a.length * nd b := by
  induction a with
  | nil => simp [nd_nil]
  | cons x r ih => rw [List.cons_append, nd_cons, nd_cons, ih, List.length_cons, Nat.pow_succ, Nat.mul_add, Nat.mul_comm (256 ^ r.length) 256, Nat.mul_assoc, Nat.add_assoc]
theorem nd_snoc (a : List Nat) (x : Nat) : nd (a ++ [x]) = nd a + 256 ^ a.length * x := by rw [nd_append, nd_cons, nd_nil]; simp
/-- Every digit is below 256. -/
def Dig (l : List Nat) : Prop := ∀ x ∈ l, x < 256
theorem dig_zeros (n : Nat) : Dig (List.replicate n 0) := fun x hx => by rw [(List.mem_replicate.1 hx).2]; decide
theorem dig_set {l : List Nat} (h : Dig l) (j y : Nat) (hy : y < 256) : Dig (l.set j y) := fun x hx => by
  rcases List.mem_or_eq_of_mem_set hx with h1 | h1
  · exact h x h1
  · rw [h1]; exact hy
theorem nd_lt (l : List Nat) (h : Dig l) : nd l < 256 ^ l.length := by
  induction l with
  | nil => decide
  | cons x r ih =>
    have h1 := ih fun y hy => h y (List.mem_cons_of_mem _ hy)
    have h2 := h x List.mem_cons_self
    rw [nd_cons, List.length_cons, Nat.pow_succ]
    omega
/-- The bytes that pack writes: the digits, turned about. -/
def rb (l : List Nat) : List UInt8 := l.reverse.map UInt8.ofNat
theorem nb_rb (l : List Nat) (h : Dig l) : nb (rb l) = nd l := by
  induction l with
  | nil => rfl
  | cons x r ih =>
    have h1 := ih fun y hy => h y (List.mem_cons_of_mem _ hy)
    have h2 := h x List.mem_cons_self
    have : rb (x :: r) = rb r ++ [UInt8.ofNat x] := by simp [rb]
    rw [this, nb_snoc, h1, nd_cons]
    have : (UInt8.ofNat x).toNat = x := by simp; omega
    omega

/-- The digit at a place from the end. -/
theorem nb_digit (l : List UInt8) (i : Nat) (h : i < l.length) : nb l / 256 ^ i % 256 = (l[l.length - 1 - i]'(by omega)).toNat := by
  have e : l = l.take (l.length - 1 - i) ++ (l[l.length - 1 - i]'(by omega) :: l.drop (l.length - i)) := by
    have h1 := List.take_append_drop (l.length - 1 - i) l
    have h2 : l.drop (l.length - 1 - i) = l[l.length - 1 - i]'(by omega) :: l.drop (l.length - 1 - i + 1) := List.drop_eq_getElem_cons (by omega)
    rw [h2, show l.length - 1 - i + 1 = l.length - i by omega] at h1
    exact h1.symm
  have hl : (l.drop (l.length - i)).length = i := by rw [List.length_drop]; omega
  have hlt := nb_lt (l.drop (l.length - i))
  rw [hl] at hlt
  have hn : nb l = (nb (l.take (l.length - 1 - i)) * 256 + (l[l.length - 1 - i]'(by omega)).toNat) * 256 ^ i + nb (l.drop (l.length - i)) := by
    conv => lhs; rw [e]
    rw [nb_append, nb_cons, List.length_cons, hl, Nat.pow_succ, Nat.add_mul, Nat.mul_assoc, Nat.mul_comm 256 (256 ^ i), Nat.add_assoc]
  generalize (l[l.length - 1 - i]'(by omega)) = c at *
  generalize nb (l.take (l.length - 1 - i)) = p at *
  have hc := c.toNat_lt
  rw [hn, Nat.mul_comm, Nat.mul_add_div (Nat.pow_pos (by decide)), Nat.div_eq_of_lt hlt, Nat.add_zero]
  omega
theorem nb_digit0 (l : List UInt8) (i : Nat) (h : l.length ≤ i) : nb l / 256 ^ i % 256 = 0 := by
  rw [Nat.div_eq_of_lt (Nat.lt_of_lt_of_le (nb_lt l) (Nat.pow_le_pow_right (by decide) h))]

/-- Leading zeros away. -/
theorem drop_zeros (l : List UInt8) : ∀ k, k ≤ l.length → (l.take k).all (· == 0) = true → (∀ h : k < l.length, l[k] ≠ 0) → l.dropWhile (· == 0) = l.drop k := by
  induction l with
  | nil => intro k _ _ _; simp
  | cons x r ih =>
    intro k hk h0 h1
    cases k with
    | zero =>
      have : x ≠ 0 := h1 (by simp)
      rw [List.dropWhile_cons, if_neg (by simpa using this), List.drop_zero]
    | succ k =>
      simp only [List.take_succ_cons, List.all_cons, Bool.and_eq_true] at h0
      rw [List.dropWhile_cons, if_pos h0.1, List.drop_succ_cons]
      exact ih k (by simpa using hk) h0.2 (fun h => by have := h1 (by simpa using h); simpa using this)
theorem mod_step (n k : Nat) : n % 256 ^ (k + 1) = n % 256 ^ k + 256 ^ k * (n / 256 ^ k % 256) := by
  rw [Nat.pow_succ, Nat.mod_mul]
end Go.Proofs.YtnnfmfdjgdgdhaaDoor


/- The document's answer: Trim, digit and the comparison. -/
namespace Go.Proofs.YtnnfmfdjgdgdhaaDoor
open Go.RowKit

theorem trim_at (s : ByteArray) (k : Nat) (hk : k ≤ s.size) (h0 : (s.data.toList.take k).all (· == 0) = true) (h1 : ∀ h : k < s.size, s[k].toNat ≠ 0) : s.extract k s.size = B (N s) := by
  have e : s.data.toList.dropWhile (· == 0) = s.data.toList.drop k := drop_zeros _ k (by simpa using hk) h0 (fun h hz => h1 (by simpa using h) (by
    have : s[k]'(by simpa using h) = s.data.toList[k] := rfl
    rw [this, hz]; rfl))
  apply ByteArray.ext
  apply Array.toList_inj.1
  rw [B, N, bn_nb, e]
  show (s.extract k s.size).data.toList = _
  rw [ByteArray.data_extract, Array.toList_extract]
  simp [List.take_of_length_le]

set_option maxRecDepth 100000 in
set_option maxHeartbeats 1000000 in
theorem rTrim_any (s : ByteArray) (w : World) (hs : s.size ≤ 140737488355328) :
    Calls Tryd.prog 11 #[.string s] w fun e w' => e = .returned (.string (B (N s))) ∧ w' = w := by
  go_enter Tryd.func11, Tryd.ntmps11
  go_wp2
  go_loop [3] (fun i => ∃ k : Nat, k ≤ s.size ∧ i = .int .i64 k ∧ (s.data.toList.take k).all (· == 0) = true) (fun i => s.size - (intOf i).toNat)
  case atStart => exact ⟨0, Nat.zero_le _, rfl, rfl⟩
  case round =>
    obtain ⟨k, hk, rfl, hall⟩ := hrel
    have HA : Hid ((s.data.toList.take k).all (· == 0) = true) := hall
    clear hall
    by_cases hlt : k < s.size
    · by_cases hc : s[k].toNat = 0
      · have HS : Hid ((s.data.toList.take (k + 1)).all (· == 0) = true) := by
          show _ = _
          rw [take_snoc s k hlt, List.all_append, HA.out]
          have : s[k] = 0 := UInt8.toNat_inj.1 hc
          simp [this]
        go_wp2
        go_round
        case rel => exact ⟨k + 1, by omega, by go_num, HS.out⟩
        case measure => simp [intOf]; omega
      · have HE := hide (trim_at s k hk HA.out fun _ => hc)
        go_wp2
        go_ret
        exact ⟨by rw [← HE.out]; rfl, rfl⟩
    · have HE := hide (trim_at s k hk HA.out fun h => absurd h hlt)
      go_wp2
      go_ret
      exact ⟨by rw [← HE.out]; rfl, rfl⟩

theorem wrap64_small (n : Nat) (h : n < 256) : wrap64 (n : Int) = (n : Int) := by
  rw [wrap64]
  omega

set_option maxRecDepth 100000 in
set_option maxHeartbeats 1000000 in
theorem digit_any (s : ByteArray) (i : Nat) (w : World) (hs : s.size ≤ 140737488355328) (hi : i ≤ 9223372036854775807) :
    Calls Tryd.prog 33 #[.string s, .int .i64 (i : Int)] w fun e w' => e = .returned (.int .i64 ((N s / 256 ^ i % 256 : Nat) : Int)) ∧ w' = w := by
  go_enter Tryd.func33, Tryd.ntmps33
  by_cases hlt : i < s.size
  · have HD : Hid (N s / 256 ^ i % 256 = (s[s.size - 1 - i]'(by omega)).toNat) := by
      show _ = _
      rw [N, nb_digit _ i (by simpa using hlt)]
      simp
      rfl
    have hx : 0 ≤ (s.size : Int) - 1 - i := by omega
    have hw := wrap64_small _ (s[s.size - 1 - i]'(by omega)).toNat_lt
    have HW := hide hw
    clear hw
    go_wp2
    go_ret
    exact ⟨by rw [HD.out]; exact congrArg (fun z => Ending.returned (Value.int .i64 z)) HW.out, rfl⟩
  · have HD : Hid (N s / 256 ^ i % 256 = 0) := nb_digit0 _ i (by simp; omega)
    go_wp2
    go_ret
    exact ⟨by rw [HD.out]; rfl, rfl⟩
def iv (x : Nat) : Value := .int .i64 (x : Int)
/-- The block g holds these ints. -/
def RowI (w : World) (g : Nat) (l : List Nat) : Prop := w.heap[g]? = some (.cells (l.map iv).toArray 3 (0, 0))
theorem RowI.cell {w : World} {g : Nat} {l : List Nat} (h : RowI w g l) (j : Nat) (hj : j < l.length) : w.cell? ⟨g, j, none⟩ = some (.int .i64 (l[j] : Nat)) := by
  rw [cell_of_row w g j _ _ (0, 0) h]
  simp [iv, hj]
theorem RowI.fz {w : World} {g : Nat} {l : List Nat} (h : RowI w g l) (j : Nat) : w.frozen? ⟨g, j, none⟩ = false := frozen_of_row w g j _ _ h
theorem RowI.lt {w : World} {g : Nat} {l : List Nat} (h : RowI w g l) : g < w.heap.size := (Array.getElem?_eq_some_iff.1 h).1
theorem RowI.below {w w' : World} {g b : Nat} {l : List Nat} (h : RowI w g l) (hb : Below b w w') (hg : g < b) : RowI w' g l := (hb.block g hg).trans h
theorem RowI.set {w : World} {g : Nat} {l : List Nat} (h : RowI w g l) (j y : Nat) : RowI (w.setCell ⟨g, j, none⟩ (.int .i64 (y : Int))) g (l.set j y) := by
  have := heap_setCell_same w g j _ _ (.int .i64 (y : Int)) h
  rw [RowI, List.map_set]
  simpa [iv] using this
theorem RowI.drew {w : World} {g : Nat} {l : List Nat} (h : RowI w g l) : RowI w.drew g l := h

/-- What pack has written when k digits are read. -/
def packI (l : List Nat) (k : Nat) : List Int := List.replicate (l.length - k) 0 ++ ((l.take k).reverse.map Int.ofNat)
theorem packI_zero (l : List Nat) : packI l 0 = List.replicate l.length 0 := by simp [packI]
theorem packI_length (l : List Nat) (k : Nat) (hk : k ≤ l.length) : (packI l k).length = l.length := by simp [packI]; omega
theorem packI_set (l : List Nat) (k : Nat) (hk : k < l.length) : (packI l k).set (l.length - 1 - k) (l[k] : Int) = packI l (k + 1) := by
  have h1 : l.length - k = (l.length - 1 - k) + 1 := by omega
  have h2 : List.replicate (l.length - k) (0 : Int) = List.replicate (l.length - 1 - k) 0 ++ [0] := by rw [h1, List.replicate_succ']
  have h3 : l.length - (k + 1) = l.length - 1 - k := by omega
  rw [packI, packI, h2, List.append_assoc, List.set_append_right _ _ (by simp), h3]
  rw [List.length_replicate, Nat.sub_self, List.cons_append, List.nil_append, List.set_cons_zero, List.take_succ_eq_append_getElem hk, List.reverse_append, List.reverse_singleton, List.map_append]
  rfl
theorem packI_all (l : List Nat) : packI l l.length = l.reverse.map Int.ofNat := by simp [packI]
theorem N_pack (l : List Nat) (h : Dig l) : N (strOfNums (l.reverse.map Int.ofNat)) = nd l := by
  rw [N, strOfNums_data, ← nb_rb l h, rb]
  congr 1
  simp [Function.comp_def]
theorem made_ints (n : Nat) : (madeCells (Value.int .i64 0).cells (n * 1)).toList = (List.replicate n (0 : Nat)).map iv := by
  rw [show (Value.int .i64 0).cells = #[Value.int .i64 0] from rfl, toList_madeCells_one, Nat.mul_one, List.map_replicate]; rfl
theorem Tryd.infoInt : (Tryd.prog.info? 3).map (fun i => (i.zero, i.size, i.bytes)) = some (some (.int .i64 0), 1, 8) := by kernel_rfl

set_option maxRecDepth 100000 in
set_option maxHeartbeats 2000000 in
theorem pack_any (g : Nat) (l : List Nat) (w : World) (hd : Dig l) (hlen : l.length ≤ 140737488355328) (h : RowI w g l) :
    Calls Tryd.prog 34 #[.slice (some ⟨g, 0, none⟩) l.length l.length] w fun e w' => e = .returned (.string (B (nd l))) ∧ Below w.heap.size w w' := by
  obtain ⟨i0, hi, hz0, hz1, hz2⟩ := info_parts Tryd.infoByte
  have hglt := h.lt
  have HR0 : Hid (RowI w g l) := h
  have HN : Hid (N (strOfNums (l.reverse.map Int.ofNat)) = nd l) := N_pack l hd
  have HD : Hid (Dig l) := hd
  clear h hd
  go_enter Tryd.func34, Tryd.ntmps34
  go_wp2_with (first
    | (at_make; refine wpList_make_full _ rfl _ _ 59 rfl w.heap.size 5 i0 (.int .u8 0) 1 Tryd.underlying59 hi hz0 hz1 .i64 .i64 _ _ l.length rfl rfl (by omega) (by omega) (by rw [hz2]; omega) (by unfold maxLen; omega) (Nat.le_refl _) ?_; intro w2 hown2 hgrow2))
  have hb2 := block_of_own hown2
  rw [made_bytes, ← packI_zero] at hb2
  have hB2 : Below w.heap.size w w2 := (Below.refl _ w).grown hgrow2 (Nat.le_refl _) (fun k e => by cases e)
  have HI : Hid (w2.heap[w.heap.size]? = some (.cells ((packI l 0).map u8).toArray 5 (0, 0))) := hb2
  clear hown2 hgrow2 hb2
  go_loopw [4] (fun i wr => ∃ k : Nat, k ≤ l.length ∧ i = .int .i64 k ∧ Hid (wr.heap[w.heap.size]? = some (.cells ((packI l k).map u8).toArray 5 (0, 0))) ∧ Below w.heap.size w wr)
    (fun i _ => l.length - (intOf i).toNat)
  case atStart => exact ⟨0, Nat.zero_le _, rfl, HI, hB2⟩
  case round =>
    obtain ⟨k, hk, rfl, HR, hBr⟩ := hrel
    clear HI hB2
    by_cases hlt : k < l.length
    · have hck : wr.cell? ⟨g, k, none⟩ = some (.int .i64 (l[k] : Nat)) := (HR0.out.below hBr hglt).cell k hlt
      have hx := HD.out l[k] (List.getElem_mem hlt)
      have hset := hide (packI_set l k hlt)
      obtain ⟨E, hE⟩ : ∃ E, E = l.length - 1 - k := ⟨_, rfl⟩
      rw [← hE] at hset
      have f1 : (l.length : Int) - 1 - (k : Int) = (E : Int) := by omega
      have f2 : E < l.length := by omega
      have hcd : wr.cell? ⟨w.heap.size, E, none⟩ = some (.int .u8 ((packI l k)[E]?.getD 0)) := by
        rw [cell_of_row wr _ E _ _ (0, 0) HR.out]
        have : E < (packI l k).length := by rw [packI_length l k hk]; exact f2
        simp [Go.Proofs.YtnnfmfdjgdgdhaaDoor.u8, List.getElem?_eq_getElem this]
      have hfz := frozen_of_row wr w.heap.size E _ _ HR.out
      have hput := hide (fun u => heap_setCell_same wr w.heap.size E _ _ u HR.out)
      generalize l[k] = x at *
      generalize (packI l k)[E]?.getD 0 = z at *
      clear hE
      go_wp2
      have hrow := hput.out (.int .u8 (x : Int))
      go_roundw
      case rel =>
        refine ⟨k + 1, by omega, by go_num, ?_, hBr.setCell (Nat.le_refl _) _⟩
        show _ = _
        rw [hrow, ← hset.out, List.map_set]
        simp [Go.Proofs.YtnnfmfdjgdgdhaaDoor.u8]
      case measure => simp [intOf]; omega
    · obtain rfl : k = l.length := by omega
      have hpa := packI_all l
      have hml : (l.reverse.map Int.ofNat).length = l.length := by simp
      have hNm := HN.out
      clear HN HR0 HD
      generalize l.reverse.map Int.ofNat = m at *
      have HN := hide hNm
      clear hNm
      have hconv := run_convert_bytes_arg (P := Tryd.prog) wr 59 5 Tryd.underlying59 Tryd.underlying5 w.heap.size 0 l.length l.length m hml (fun i hi => by
        have e := cell_of_row wr w.heap.size (0 + i) _ _ _ HR.out
        rw [e, hpa]
        have hil : i < m.length := by omega
        simp [Go.Proofs.YtnnfmfdjgdgdhaaDoor.u8, List.getElem?_eq_getElem hil, List.getD_eq_getElem?_getD]) 28 Tryd.underlying28
      clear HR hpa
      have hsz : (strOfNums m).size ≤ 140737488355328 := by
        rw [← bytes_len, strOfNums_data, List.length_map]
        omega
      go_wp2_with (go_at_call 11; refine (rTrim_any _ _ hsz).mono ?_; rintro e w3 ⟨rfl, hw1⟩; subst hw1)
      go_ret
      exact ⟨by rw [HN.out]; rfl, hBr⟩
end Go.Proofs.YtnnfmfdjgdgdhaaDoor

