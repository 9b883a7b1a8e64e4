/- Plain facts on numbers written as bytes (the highest first) and as parts below 2^32 (the lowest first); no condition; nothing of the program is named here. -/

namespace Go.Proofs.YtojidhnkpeiimaaGreatDoor
theorem snoc_ind {α : Type} {P : List α → Prop} (h0 : P []) (h1 : ∀ l a, P l → P (l ++ [a])) (l : List α) : P l := by
  have h : ∀ m : List α, P m.reverse := by
    intro m
    induction m with
    | nil => exact h0
    | cons a m ih => rw [List.reverse_cons]; exact h1 _ _ ih
  have := h l.reverse
  rwa [List.reverse_reverse] at this
def nb (l : List UInt8) : Nat := l.foldl (fun n c => n * 256 + c.toNat) 0
theorem nb_nil : nb [] = 0 := rfl
theorem nb_snoc (l : List UInt8) (c : UInt8) : nb (l ++ [c]) = nb l * 256 + c.toNat := by simp [nb]
theorem nb_append (a b : List UInt8) : nb (a ++ b) = nb a * 256 ^ b.length + nb b := by
  induction b using snoc_ind with
  | h0 => simp [nb_nil]
  | h1 l c ih =>
    rw [← List.append_assoc, nb_snoc, ih, nb_snoc, List.length_append, List.length_singleton, Nat.pow_succ, Nat.add_mul, Nat.mul_assoc, Nat.add_assoc]
theorem nb_one (c : UInt8) : nb [c] = c.toNat := by simp [nb]
theorem nb_cons (c : UInt8) (l : List UInt8) : nb (c :: l) = c.toNat * 256 ^ l.length + nb l := by
  have := nb_append [c] l
  rwa [List.singleton_append, nb_one] at this
theorem nb_lt (l : List UInt8) : nb l < 256 ^ l.length := by
  induction l using snoc_ind with
  | h0 => simp [nb_nil]
  | h1 l c ih =>
    rw [nb_snoc, List.length_append, List.length_singleton, Nat.pow_succ]
    have := c.toNat_lt
    omega
def bn (n : Nat) : List UInt8 := if _h : n = 0 then [] else bn (n / 256) ++ [UInt8.ofNat (n % 256)]
theorem bn_zero : bn 0 = [] := by rw [bn]; simp
theorem bn_pos (n : Nat) (h : n ≠ 0) : bn n = bn (n / 256) ++ [UInt8.ofNat (n % 256)] := by rw [bn]; simp [h]
theorem ofNat_toNat (n : Nat) : (UInt8.ofNat (n % 256)).toNat = n % 256 := by simp
theorem nb_bn (n : Nat) : nb (bn n) = n := by
  induction n using Nat.strongRecOn with
  | ind n ih =>
    by_cases h : n = 0
    · subst h; simp [bn_zero, nb_nil]
    · rw [bn_pos n h, nb_snoc, ih (n / 256) (by omega), ofNat_toNat]; omega
theorem bn_snoc (n : Nat) (c : UInt8) (h : n ≠ 0 ∨ c.toNat ≠ 0) : bn (n * 256 + c.toNat) = bn n ++ [c] := by
  have hc := c.toNat_lt
  rw [bn_pos _ (by omega), show (n * 256 + c.toNat) / 256 = n by omega, show (n * 256 + c.toNat) % 256 = c.toNat by omega]
  simp
theorem bn_nb (l : List UInt8) : bn (nb l) = l.dropWhile (· == 0) := by
  induction l using snoc_ind with
  | h0 => simp [nb_nil, bn_zero]
  | h1 l c ih =>
    rw [nb_snoc]
    by_cases h : nb l ≠ 0 ∨ c.toNat ≠ 0
    · rw [bn_snoc _ _ h, ih]
      by_cases hl : l.dropWhile (· == 0) = []
      · have hz : nb l = 0 := by rw [← nb_bn (nb l), ih, hl, nb_nil]
        have hc : c ≠ 0 := by intro e; subst e; simp [hz] at h
        rw [hl, List.dropWhile_append, hl]
        simp [hc]
      · rw [List.dropWhile_append]
        simp [hl]
    · have h1 : nb l = 0 := by omega
      have h2 : c.toNat = 0 := by omega
      have hc : c = 0 := by simpa [← UInt8.toNat_inj] using h2
      rw [h1, h2]
      rw [h1, bn_zero] at ih
      rw [List.dropWhile_append, ← ih]
      simp [hc, bn_zero]
theorem bn_length_mono {a b : Nat} (h : a ≤ b) : (bn a).length ≤ (bn b).length := by
  induction a using Nat.strongRecOn generalizing b with
  | ind a ih =>
    by_cases ha : a = 0
    · subst ha; simp [bn_zero]
    · rw [bn_pos a ha, bn_pos b (by omega)]
      have := @ih (a / 256) (by omega) (b / 256) (by omega)
      simp; omega
/-! ### Parts below 2^32, the lowest first -/
def W : Nat := 4294967296
theorem W_eq : W = 4294967296 := rfl
theorem W_pos : 0 < W := by decide
def nw : List Nat → Nat
  | [] => 0
  | x :: r => x + W * nw r
theorem nw_nil : nw [] = 0 := rfl
theorem nw_cons (x : Nat) (r : List Nat) : nw (x :: r) = x + W * nw r := rfl
theorem nw_append (a b : List Nat) : nw (a ++ b) = nw a + W ^ a.length * nw b := by
  induction a with
  | nil => simp [nw_nil]
  | cons x a ih => rw [List.cons_append, nw_cons, nw_cons, ih, List.length_cons, Nat.pow_succ, Nat.mul_add]; rw [Nat.mul_comm (W ^ a.length) W, Nat.mul_assoc]; omega
theorem nw_snoc (a : List Nat) (x : Nat) : nw (a ++ [x]) = nw a + W ^ a.length * x := by rw [nw_append, nw_cons, nw_nil]; simp
def Small (l : List Nat) : Prop := ∀ x ∈ l, x < W
theorem nw_lt (l : List Nat) (h : Small l) : nw l < W ^ l.length := by
  induction l with
  | nil => simp [nw_nil]
  | cons x r ih =>
    have h1 := ih (fun y hy => h y (List.mem_cons_of_mem _ hy))
    have h2 := h x (List.mem_cons_self)
    rw [nw_cons, List.length_cons, Nat.pow_succ]
    have : W * (nw r + 1) ≤ W * W ^ r.length := Nat.mul_le_mul_left _ h1
    rw [Nat.mul_comm (W ^ r.length) W]
    rw [Nat.mul_add] at this
    omega
def words (n : Nat) : List Nat := if _h : n = 0 then [] else (n % 4294967296) :: words (n / 4294967296)
theorem words_zero : words 0 = [] := by rw [words, dif_pos rfl]
theorem words_pos (n : Nat) (h : n ≠ 0) : words n = (n % W) :: words (n / W) := by rw [words, dif_neg h, W_eq]
theorem div_W_lt {n : Nat} (h : n ≠ 0) : n / W < n := Nat.div_lt_self (Nat.pos_of_ne_zero h) (by decide)
theorem nw_words (n : Nat) : nw (words n) = n := by
  induction n using Nat.strongRecOn with
  | ind n ih =>
    by_cases h : n = 0
    · subst h; simp [words_zero, nw_nil]
    · rw [words_pos n h, nw_cons, ih _ (div_W_lt h)]; exact Nat.mod_add_div n W
theorem words_small (n : Nat) : Small (words n) := by
  induction n using Nat.strongRecOn with
  | ind n ih =>
    by_cases h : n = 0
    · subst h; simp [words_zero, Small]
    · rw [words_pos n h]
      intro x hx
      rcases List.mem_cons.1 hx with rfl | hx
      · exact Nat.mod_lt _ W_pos
      · exact ih _ (div_W_lt h) x hx
theorem words_nil_iff (n : Nat) : words n = [] ↔ n = 0 := by
  constructor
  · intro h; rw [← nw_words n, h, nw_nil]
  · rintro rfl; exact words_zero
theorem words_last (n : Nat) (h : words n ≠ []) : (words n).getLast h ≠ 0 := by
  induction n using Nat.strongRecOn with
  | ind n ih =>
    have hn : n ≠ 0 := fun e => h ((words_nil_iff n).2 e)
    by_cases h2 : words (n / W) = []
    · have hz := (words_nil_iff _).1 h2
      have : (words n).getLast h = n % W := by
        have hw := words_pos n hn
        rw [h2] at hw
        simp [hw]
      rw [this]
      intro hm
      have := Nat.mod_add_div n W
      rw [hm, hz] at this
      simp at this
      exact hn this.symm
    · have : (words n).getLast h = (words (n / W)).getLast h2 := by
        have hw := words_pos n hn
        simp only [hw]
        rw [List.getLast_cons h2]
      rw [this]
      exact ih _ (div_W_lt hn) h2
theorem words_nw (l : List Nat) (hs : Small l) (hl : ∀ h : l ≠ [], l.getLast h ≠ 0) : words (nw l) = l := by
  induction l with
  | nil => simp [nw_nil, words_zero]
  | cons x r ih =>
    have hx := hs x (List.mem_cons_self)
    have hr : words (nw r) = r := ih (fun y hy => hs y (List.mem_cons_of_mem _ hy)) (fun h => by have := hl (by simp); rwa [List.getLast_cons h] at this)
    have hne : nw (x :: r) ≠ 0 := by
      intro h
      rw [nw_cons] at h
      have hx0 : x = 0 := by omega
      have hr0 : nw r = 0 := by
        have : W * nw r = 0 := by omega
        rcases Nat.mul_eq_zero.1 this with h | h
        · simp [W] at h
        · exact h
      rw [hr0, words_zero] at hr
      subst hr
      exact hl (by simp) (by simpa using hx0)
    rw [words_pos _ hne, nw_cons, Nat.add_mul_mod_self_left, Nat.mod_eq_of_lt hx, Nat.add_mul_div_left _ _ W_pos, Nat.div_eq_of_lt hx, Nat.zero_add, hr]
theorem words_length (n : Nat) : (words n).length = ((bn n).length + 3) / 4 := by
  induction n using Nat.strongRecOn with
  | ind n ih =>
    by_cases h : n = 0
    · subst h; simp [words_zero, bn_zero]
    · rw [words_pos n h, List.length_cons, ih _ (div_W_lt h)]
      by_cases h1 : n / 256 = 0
      · rw [bn_pos n h, h1, bn_zero, show n / W = 0 by simp only [W]; omega, bn_zero]; simp
      · by_cases h2 : n / 256 / 256 = 0
        · rw [bn_pos n h, bn_pos _ h1, h2, bn_zero, show n / W = 0 by simp only [W]; omega, bn_zero]; simp
        · by_cases h3 : n / 256 / 256 / 256 = 0
          · rw [bn_pos n h, bn_pos _ h1, bn_pos _ h2, h3, bn_zero, show n / W = 0 by simp only [W]; omega, bn_zero]; simp
          · rw [bn_pos n h, bn_pos _ h1, bn_pos _ h2, bn_pos _ h3, show n / 256 / 256 / 256 / 256 = n / W by simp only [W]; omega]
            simp; omega
def part (n i : Nat) : Nat := n / W ^ i % W
theorem part_zero (n : Nat) : part n 0 = n % W := by rw [part, Nat.pow_zero, Nat.div_one]
theorem part_succ (n i : Nat) : part n (Nat.succ i) = part (n / W) i := by rw [part, part, Nat.succ_eq_add_one, Nat.pow_succ, Nat.mul_comm, Nat.div_div_eq_div_mul]
theorem words_get (i : Nat) : ∀ n, i < (words n).length → (words n)[i]? = some (part n i) := by
  induction i with
  | zero =>
    intro n h
    have hn : n ≠ 0 := by rintro rfl; rw [words_zero] at h; simp at h
    rw [words_pos n hn, part_zero]; rfl
  | succ i ih =>
    intro n h
    have hn : n ≠ 0 := by rintro rfl; rw [words_zero] at h; simp at h
    rw [words_pos n hn, List.length_cons] at h
    rw [words_pos n hn, List.getElem?_cons_succ, ih _ (Nat.lt_of_succ_lt_succ h), ← part_succ]
theorem words_eq_parts (n : Nat) : words n = (List.range (words n).length).map (part n) := by
  apply List.ext_getElem?
  intro i
  rw [List.getElem?_map]
  by_cases h : i < (words n).length
  · rw [words_get i n h, List.getElem?_range h]; rfl
  · rw [List.getElem?_eq_none (by omega), List.getElem?_eq_none (by simpa using h)]; rfl
theorem W_pow (i : Nat) : W ^ i = 256 ^ (4 * i) := by rw [Nat.pow_mul]; rfl
theorem part_of_bytes (l : List UInt8) (i : Nat) (h : 4 * i ≤ l.length) : nb ((l.take (l.length - 4 * i)).drop (l.length - 4 * i - 4)) = part (nb l) i := by
  have e1 : nb (l.take (l.length - 4 * i)) = nb l / W ^ i := by
    have hsplit := List.take_append_drop (l.length - 4 * i) l
    have hn := nb_append (l.take (l.length - 4 * i)) (l.drop (l.length - 4 * i))
    rw [hsplit] at hn
    have hlen : (l.drop (l.length - 4 * i)).length = 4 * i := by simp; omega
    rw [hlen] at hn
    have hlt := nb_lt (l.drop (l.length - 4 * i))
    rw [hlen] at hlt
    have hp : 0 < 256 ^ (4 * i) := Nat.pow_pos (by decide)
    rw [W_pow, hn, Nat.add_comm, Nat.add_mul_div_right _ _ hp, Nat.div_eq_of_lt hlt, Nat.zero_add]
  rw [part, ← e1]
  generalize hm : l.take (l.length - 4 * i) = m
  have hml : m.length = l.length - 4 * i := by rw [← hm]; simp
  rw [← hml]
  have hn := nb_append (m.take (m.length - 4)) (m.drop (m.length - 4))
  rw [List.take_append_drop] at hn
  by_cases h4 : 4 ≤ m.length
  · have hlen : (m.drop (m.length - 4)).length = 4 := by simp; omega
    have hlt := nb_lt (m.drop (m.length - 4))
    rw [hlen] at hn hlt
    rw [hn, show (256 : Nat) ^ 4 = W from rfl, Nat.add_comm, Nat.add_mul_mod_self_right]
    exact (Nat.mod_eq_of_lt hlt).symm
  · have hz : m.length - 4 = 0 := by omega
    rw [hz, List.drop_zero]
    have hlt := nb_lt m
    have : 256 ^ m.length ≤ 256 ^ 4 := Nat.pow_le_pow_right (by decide) (by omega)
    exact (Nat.mod_eq_of_lt (by show nb m < 256 ^ 4; omega)).symm
theorem nw_take_succ (l : List Nat) (k : Nat) (h : k < l.length) : nw (l.take (k + 1)) = nw (l.take k) + W ^ k * l[k] := by
  rw [List.take_succ_eq_append_getElem h, nw_snoc, List.length_take, Nat.min_eq_left (Nat.le_of_lt h)]
theorem small_take {l : List Nat} (h : Small l) (k : Nat) : Small (l.take k) := fun x hx => h x (List.mem_of_mem_take hx)
theorem words_take (l : List Nat) (hs : Small l) (k : Nat) (hk : k ≤ l.length) (hn : nw (l.take k) = nw l) (hl : k = 0 ∨ l[k - 1]?.getD 0 ≠ 0) : words (nw l) = l.take k := by
  rw [← hn]
  refine words_nw _ (small_take hs k) fun h => ?_
  rcases hl with rfl | hl
  · simp at h
  · have hk0 : k ≠ 0 := by rintro rfl; simp at h
    rw [List.getLast_eq_getElem]
    simp only [List.length_take, Nat.min_eq_left hk, List.getElem_take]
    rwa [List.getElem?_eq_getElem (by omega)] at hl
theorem words_prefix (l : List Nat) (hs : Small l) : ∃ k, k ≤ l.length ∧ words (nw l) = l.take k := by
  induction l using snoc_ind with
  | h0 => exact ⟨0, Nat.le_refl _, by rw [nw_nil, words_zero]; rfl⟩
  | h1 l a ih =>
    by_cases ha : a = 0
    · subst ha
      obtain ⟨k, hk, e⟩ := ih (fun x hx => hs x (List.mem_append_left _ hx))
      refine ⟨k, by simp; omega, ?_⟩
      rw [nw_snoc, Nat.mul_zero, Nat.add_zero, e, List.take_append_of_le_length hk]
    · refine ⟨(l ++ [a]).length, Nat.le_refl _, ?_⟩
      exact words_take _ hs _ (Nat.le_refl _) (by rw [List.take_length]) (Or.inr (by simpa using ha))
/-! ### Division of parts by a small number, from the highest part down -/
def divG (d : Nat) : List Nat → List Nat × Nat
  | [] => ([], 0)
  | x :: r => (((divG d r).2 * W + x) / d :: (divG d r).1, ((divG d r).2 * W + x) % d)
theorem divG_length (d : Nat) (l : List Nat) : (divG d l).1.length = l.length := by
  induction l with
  | nil => rfl
  | cons x r ih => simp [divG, ih]
theorem divG_lt (d : Nat) (hd : 0 < d) (l : List Nat) : (divG d l).2 < d := by
  cases l with
  | nil => exact hd
  | cons x r => exact Nat.mod_lt _ hd
theorem divG_eq (d : Nat) (l : List Nat) : nw (divG d l).1 * d + (divG d l).2 = nw l := by
  induction l with
  | nil => simp [divG, nw_nil]
  | cons x r ih =>
    rw [divG, nw_cons, nw_cons, Nat.add_mul]
    show _ / d * d + _ + _ % d = _
    have e := Nat.div_add_mod' ((divG d r).2 * W + x) d
    have e2 : W * nw (divG d r).1 * d + (divG d r).2 * W = W * nw r := by
      rw [← ih, Nat.mul_add, Nat.mul_assoc, Nat.mul_comm (divG d r).2 W]
    omega
theorem divG_small (d : Nat) (hd : 0 < d) (l : List Nat) (hs : Small l) : Small (divG d l).1 := by
  induction l with
  | nil => intro x hx; simp [divG] at hx
  | cons x r ih =>
    have hr := divG_lt d hd r
    have hx := hs x List.mem_cons_self
    intro y hy
    rw [divG] at hy
    rcases List.mem_cons.1 hy with rfl | hy
    · refine Nat.div_lt_of_lt_mul ?_
      have : ((divG d r).2 + 1) * W ≤ d * W := Nat.mul_le_mul_right _ hr
      rw [Nat.add_mul] at this
      omega
    · exact ih (fun z hz => hs z (List.mem_cons_of_mem _ hz)) y hy
theorem divG_quot (d : Nat) (hd : 0 < d) (l : List Nat) : nw (divG d l).1 = nw l / d := by
  have e := divG_eq d l
  have h := divG_lt d hd l
  rw [← e, Nat.add_comm, Nat.add_mul_div_right _ _ hd, Nat.div_eq_of_lt h, Nat.zero_add]
theorem divG_rest (d : Nat) (hd : 0 < d) (l : List Nat) : (divG d l).2 = nw l % d := by
  have e := divG_eq d l
  have h := divG_lt d hd l
  rw [← e, Nat.add_comm, Nat.add_mul_mod_self_right, Nat.mod_eq_of_lt h]
theorem take_set_append (l q : List Nat) (m y : Nat) (h : m < l.length) : (l.take (m + 1) ++ q).set m y = l.take m ++ y :: q := by
  rw [List.take_succ_eq_append_getElem h, List.append_assoc]
  have e : (l.take m).length = m := by simp; omega
  rw [List.set_append_right _ _ (by omega), e, Nat.sub_self]
  rfl
end Go.Proofs.YtojidhnkpeiimaaGreatDoor
