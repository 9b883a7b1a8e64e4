/- The document's answer: Trim, digit and the comparison. -/
import Derived.Test.YtbejijgelljeaaaGreatDoorDivAPwRefN
import Derived.BigQuiet
namespace Go.Proofs.YtbejijgelljeaaaGreatDoor
open Go.RowKit
theorem trim_at (s : ByteArray) (k : Nat) (hk : k ≤ s.size) (h0 : (s.data.toList.take k).all (· == 0) = true) (h1 : ∀ h : k < s.size, s[k].toNat ≠ 0) : s.extract k s.size = B (N s) := by
  have e : s.data.toList.dropWhile (· == 0) = s.data.toList.drop k := drop_zeros _ k (by simpa using hk) h0 (fun h hz => h1 (by simpa using h) (by
    have : s[k]'(by simpa using h) = s.data.toList[k] := rfl
    rw [this, hz]; rfl))
  apply ByteArray.ext
  apply Array.toList_inj.1
  rw [B, N, bn_nb, e]
  show (s.extract k s.size).data.toList = _
  rw [ByteArray.data_extract, Array.toList_extract]
  simp [List.take_of_length_le]
set_option maxRecDepth 100000 in
set_option maxHeartbeats 1000000 in
theorem rTrim_any (s : ByteArray) (w : World) (hs : s.size ≤ 140737488355328) :
    Calls Tryz.prog 67 #[.string s] w fun e w' => e = .returned (.string (B (N s))) ∧ w' = w := by
  go_enter Tryz.func67, Tryz.ntmps67
  go_wp2
  go_loop [3] (fun i => ∃ k : Nat, k ≤ s.size ∧ i = .int .i64 k ∧ (s.data.toList.take k).all (· == 0) = true) (fun i => s.size - (intOf i).toNat)
  case atStart => exact ⟨0, Nat.zero_le _, rfl, rfl⟩
  case round =>
    obtain ⟨k, hk, rfl, hall⟩ := hrel
    have HA : Hid ((s.data.toList.take k).all (· == 0) = true) := hall
    clear hall
    by_cases hlt : k < s.size
    · by_cases hc : s[k].toNat = 0
      · have HS : Hid ((s.data.toList.take (k + 1)).all (· == 0) = true) := by
          show _ = _
          rw [take_snoc s k hlt, List.all_append, HA.out]
          have : s[k] = 0 := UInt8.toNat_inj.1 hc
          simp [this]
        go_wp2
        go_round
        case rel => exact ⟨k + 1, by omega, by go_num, HS.out⟩
        case measure => simp [intOf]; omega
      · have HE := hide (trim_at s k hk HA.out fun _ => hc)
        go_wp2
        go_ret
        exact ⟨by rw [← HE.out]; rfl, rfl⟩
    · have HE := hide (trim_at s k hk HA.out fun h => absurd h hlt)
      go_wp2
      go_ret
      exact ⟨by rw [← HE.out]; rfl, rfl⟩
theorem wrap64_small (n : Nat) (h : n < 256) : wrap64 (n : Int) = (n : Int) := by
  rw [wrap64]
  omega
set_option maxRecDepth 100000 in
set_option maxHeartbeats 1000000 in
theorem digit_any (s : ByteArray) (i : Nat) (w : World) (hs : s.size ≤ 140737488355328) (hi : i ≤ 9223372036854775807) :
    Calls Tryz.prog 65 #[.string s, .int .i64 (i : Int)] w fun e w' => e = .returned (.int .i64 ((N s / 256 ^ i % 256 : Nat) : Int)) ∧ w' = w := by
  go_enter Tryz.func65, Tryz.ntmps65
  by_cases hlt : i < s.size
  · have HD : Hid (N s / 256 ^ i % 256 = (s[s.size - 1 - i]'(by omega)).toNat) := by
      show _ = _
      rw [N, nb_digit _ i (by simpa using hlt)]
      simp
      rfl
    have hx : 0 ≤ (s.size : Int) - 1 - i := by omega
    have hw := wrap64_small _ (s[s.size - 1 - i]'(by omega)).toNat_lt
    have HW := hide hw
    clear hw
    go_wp2
    go_ret
    exact ⟨by rw [HD.out]; exact congrArg (fun z => Ending.returned (Value.int .i64 z)) HW.out, rfl⟩
  · have HD : Hid (N s / 256 ^ i % 256 = 0) := nb_digit0 _ i (by simp; omega)
    go_wp2
    go_ret
    exact ⟨by rw [HD.out]; rfl, rfl⟩
def iv (x : Nat) : Value := .int .i64 (x : Int)
/-- The block g holds these ints. -/
def RowI (w : World) (g : Nat) (l : List Nat) : Prop := w.heap[g]? = some (.cells (l.map iv).toArray 3 (0, 0))
theorem RowI.cell {w : World} {g : Nat} {l : List Nat} (h : RowI w g l) (j : Nat) (hj : j < l.length) : w.cell? ⟨g, j, none⟩ = some (.int .i64 (l[j] : Nat)) := by
  rw [cell_of_row w g j _ _ (0, 0) h]
  simp [iv, hj]
theorem RowI.fz {w : World} {g : Nat} {l : List Nat} (h : RowI w g l) (j : Nat) : w.frozen? ⟨g, j, none⟩ = false := frozen_of_row w g j _ _ h
theorem RowI.lt {w : World} {g : Nat} {l : List Nat} (h : RowI w g l) : g < w.heap.size := (Array.getElem?_eq_some_iff.1 h).1
theorem RowI.below {w w' : World} {g b : Nat} {l : List Nat} (h : RowI w g l) (hb : Below b w w') (hg : g < b) : RowI w' g l := (hb.block g hg).trans h
theorem RowI.set {w : World} {g : Nat} {l : List Nat} (h : RowI w g l) (j y : Nat) : RowI (w.setCell ⟨g, j, none⟩ (.int .i64 (y : Int))) g (l.set j y) := by
  have := heap_setCell_same w g j _ _ (.int .i64 (y : Int)) h
  rw [RowI, List.map_set]
  simpa [iv] using this
/-- What pack has written when k digits are read. -/
def packI (l : List Nat) (k : Nat) : List Int := List.replicate (l.length - k) 0 ++ ((l.take k).reverse.map Int.ofNat)
theorem packI_zero (l : List Nat) : packI l 0 = List.replicate l.length 0 := by simp [packI]
theorem packI_length (l : List Nat) (k : Nat) (hk : k ≤ l.length) : (packI l k).length = l.length := by simp [packI]; omega
theorem packI_set (l : List Nat) (k : Nat) (hk : k < l.length) : (packI l k).set (l.length - 1 - k) (l[k] : Int) = packI l (k + 1) := by
  have h1 : l.length - k = (l.length - 1 - k) + 1 := by omega
  have h2 : List.replicate (l.length - k) (0 : Int) = List.replicate (l.length - 1 - k) 0 ++ [0] := by rw [h1, List.replicate_succ']
  have h3 : l.length - (k + 1) = l.length - 1 - k := by omega
  rw [packI, packI, h2, List.append_assoc, List.set_append_right _ _ (by simp), h3]
  rw [List.length_replicate, Nat.sub_self, List.cons_append, List.nil_append, List.set_cons_zero, List.take_succ_eq_append_getElem hk, List.reverse_append, List.reverse_singleton, List.map_append]
  rfl
theorem packI_all (l : List Nat) : packI l l.length = l.reverse.map Int.ofNat := by simp [packI]
theorem N_pack (l : List Nat) (h : Dig l) : N (strOfNums (l.reverse.map Int.ofNat)) = nd l := by
  rw [N, strOfNums_data, ← nb_rb l h, rb]
  congr 1
  simp [Function.comp_def]
theorem made_ints (n : Nat) : (madeCells (Value.int .i64 0).cells (n * 1)).toList = (List.replicate n (0 : Nat)).map iv := by
  rw [show (Value.int .i64 0).cells = #[Value.int .i64 0] from rfl, toList_madeCells_one, Nat.mul_one, List.map_replicate]; rfl
theorem Tryz.infoInt : (Tryz.prog.info? 3).map (fun i => (i.zero, i.size, i.bytes)) = some (some (.int .i64 0), 1, 8) := by kernel_rfl
set_option maxRecDepth 100000 in
set_option maxHeartbeats 2000000 in
theorem pack_any (g : Nat) (l : List Nat) (w : World) (hd : Dig l) (hlen : l.length ≤ 140737488355328) (h : RowI w g l) :
    Calls Tryz.prog 66 #[.slice (some ⟨g, 0, none⟩) l.length l.length] w fun e w' => e = .returned (.string (B (nd l))) ∧ Below w.heap.size w w' := by
  obtain ⟨i0, hi, hz0, hz1, hz2⟩ := info_parts Tryz.infoByte
  have hglt := h.lt
  have HR0 : Hid (RowI w g l) := h
  have HN : Hid (N (strOfNums (l.reverse.map Int.ofNat)) = nd l) := N_pack l hd
  have HD : Hid (Dig l) := hd
  clear h hd
  go_enter Tryz.func66, Tryz.ntmps66
  go_wp2_with (first
    | (at_make; refine wpList_make_full _ rfl _ _ 86 rfl w.heap.size 5 i0 (.int .u8 0) 1 Tryz.underlying86 hi hz0 hz1 .i64 .i64 _ _ l.length rfl rfl (by omega) (by omega) (by rw [hz2]; omega) (by unfold maxLen; omega) (Nat.le_refl _) ?_; intro w2 hown2 hgrow2))
  have hb2 := block_of_own hown2
  rw [made_bytes, ← packI_zero] at hb2
  have hB2 : Below w.heap.size w w2 := (Below.refl _ w).grown hgrow2 (Nat.le_refl _) (fun k e => by cases e)
  have HI : Hid (w2.heap[w.heap.size]? = some (.cells ((packI l 0).map u8).toArray 5 (0, 0))) := hb2
  clear hown2 hgrow2 hb2
  go_loopw [4] (fun i wr => ∃ k : Nat, k ≤ l.length ∧ i = .int .i64 k ∧ Hid (wr.heap[w.heap.size]? = some (.cells ((packI l k).map u8).toArray 5 (0, 0))) ∧ Below w.heap.size w wr)
    (fun i _ => l.length - (intOf i).toNat)
  case atStart => exact ⟨0, Nat.zero_le _, rfl, HI, hB2⟩
  case round =>
    obtain ⟨k, hk, rfl, HR, hBr⟩ := hrel
    clear HI hB2
    by_cases hlt : k < l.length
    · have hck : wr.cell? ⟨g, k, none⟩ = some (.int .i64 (l[k] : Nat)) := (HR0.out.below hBr hglt).cell k hlt
      have hx := HD.out l[k] (List.getElem_mem hlt)
      have hset := hide (packI_set l k hlt)
      obtain ⟨E, hE⟩ : ∃ E, E = l.length - 1 - k := ⟨_, rfl⟩
      rw [← hE] at hset
      have f1 : (l.length : Int) - 1 - (k : Int) = (E : Int) := by omega
      have f2 : E < l.length := by omega
      have hcd : wr.cell? ⟨w.heap.size, E, none⟩ = some (.int .u8 ((packI l k)[E]?.getD 0)) := by
        rw [cell_of_row wr _ E _ _ (0, 0) HR.out]
        have : E < (packI l k).length := by rw [packI_length l k hk]; exact f2
        simp [Go.Proofs.YtbejijgelljeaaaGreatDoor.u8, List.getElem?_eq_getElem this]
      have hfz := frozen_of_row wr w.heap.size E _ _ HR.out
      have hput := hide (fun u => heap_setCell_same wr w.heap.size E _ _ u HR.out)
      generalize l[k] = x at *
      generalize (packI l k)[E]?.getD 0 = z at *
      clear hE
      go_wp2
      have hrow := hput.out (.int .u8 (x : Int))
      go_roundw
      case rel =>
        refine ⟨k + 1, by omega, by go_num, ?_, hBr.setCell (Nat.le_refl _) _⟩
        show _ = _
        rw [hrow, ← hset.out, List.map_set]
        simp [Go.Proofs.YtbejijgelljeaaaGreatDoor.u8]
      case measure => simp [intOf]; omega
    · obtain rfl : k = l.length := by omega
      have hpa := packI_all l
      have hml : (l.reverse.map Int.ofNat).length = l.length := by simp
      have hNm := HN.out
      clear HN HR0 HD
      generalize l.reverse.map Int.ofNat = m at *
      have HN := hide hNm
      clear hNm
      have hconv := run_convert_bytes_arg (P := Tryz.prog) wr 86 5 Tryz.underlying86 Tryz.underlying5 w.heap.size 0 l.length l.length m hml (fun i hi => by
        have e := cell_of_row wr w.heap.size (0 + i) _ _ _ HR.out
        rw [e, hpa]
        have hil : i < m.length := by omega
        simp [Go.Proofs.YtbejijgelljeaaaGreatDoor.u8, List.getElem?_eq_getElem hil, List.getD_eq_getElem?_getD]) 31 Tryz.underlying31
      clear HR hpa
      have hsz : (strOfNums m).size ≤ 140737488355328 := by
        rw [← bytes_len, strOfNums_data, List.length_map]
        omega
      go_wp2_with (go_at_call 67; refine (rTrim_any _ _ hsz).mono ?_; rintro e w3 ⟨rfl, hw1⟩; subst hw1)
      go_ret
      exact ⟨by rw [HN.out]; rfl, hBr⟩
end Go.Proofs.YtbejijgelljeaaaGreatDoor

/- The document's answer: NatAdd. -/
namespace Go.Proofs.YtbejijgelljeaaaGreatDoor
open Go.RowKit
theorem carry_step (v P : Nat) : v % 256 * P + v / 256 * (P * 256) = v * P := by
  have h : v = v / 256 * 256 + v % 256 := by omega
  conv => rhs; rw [h, Nat.add_mul, Nat.mul_assoc, Nat.mul_comm 256 P]
  omega
theorem add_step {A D k c : Nat} {p : List Nat} (hk : k < p.length) (h0 : p[k]?.getD 0 = 0) (h : nd p + c * 256 ^ k = A % 256 ^ k + D % 256 ^ k) :
    nd (p.set k ((c + A / 256 ^ k % 256 + D / 256 ^ k % 256) % 256)) + (c + A / 256 ^ k % 256 + D / 256 ^ k % 256) / 256 * 256 ^ (k + 1) = A % 256 ^ (k + 1) + D % 256 ^ (k + 1) := by
  have s := nd_set p k ((c + A / 256 ^ k % 256 + D / 256 ^ k % 256) % 256) hk
  have h0' : p[k] = 0 := by rwa [List.getElem?_eq_getElem hk] at h0
  rw [h0', Nat.zero_mul, Nat.add_zero] at s
  rw [s, mod_step, mod_step D, Nat.pow_succ]
  have := carry_step (c + A / 256 ^ k % 256 + D / 256 ^ k % 256) (256 ^ k)
  have e : (c + A / 256 ^ k % 256 + D / 256 ^ k % 256) * 256 ^ k = c * 256 ^ k + 256 ^ k * (A / 256 ^ k % 256) + 256 ^ k * (D / 256 ^ k % 256) := by
    rw [Nat.add_mul, Nat.add_mul, Nat.mul_comm (A / 256 ^ k % 256), Nat.mul_comm (D / 256 ^ k % 256)]
  omega
theorem set_getD {p : List Nat} {k y : Nat} (h : ∀ j, k ≤ j → p[j]?.getD 0 = 0) : ∀ j, k + 1 ≤ j → (p.set k y)[j]?.getD 0 = 0 := fun j hj => by
  rw [List.getElem?_set_ne (by omega)]
  exact h j (by omega)
theorem add_end {A D n c : Nat} {p : List Nat} (hA : A < 256 ^ n) (hD : D < 256 ^ n) (h : nd p + c * 256 ^ (n + 1) = A % 256 ^ (n + 1) + D % 256 ^ (n + 1)) : nd p = A + D := by
  have hp : 256 ^ (n + 1) = 256 * 256 ^ n := by rw [Nat.pow_succ, Nat.mul_comm]
  rw [Nat.mod_eq_of_lt (by omega), Nat.mod_eq_of_lt (by omega)] at h
  have hc : c = 0 := by
    rcases Nat.eq_zero_or_pos c with h0 | h0
    · exact h0
    · have : 1 * 256 ^ (n + 1) ≤ c * 256 ^ (n + 1) := Nat.mul_le_mul_right _ h0
      omega
  rw [hc] at h
  omega
theorem N_lt (s : ByteArray) : N s < 256 ^ s.size := by
  have := nb_lt s.data.toList
  rwa [bytes_len] at this
set_option maxRecDepth 100000 in
set_option maxHeartbeats 2000000 in
theorem rAdd_any (a b : ByteArray) (w : World) (ha : a.size ≤ 1000000) (hb : b.size ≤ 1000000) :
    Calls Tryz.prog 38 #[.string a, .string b] w fun e w' => e = .returned (.string (B (N a + N b))) ∧ Below w.heap.size w w' := by
  obtain ⟨i0, hi, hz0, hz1, hz2⟩ := info_parts Tryz.infoInt
  obtain ⟨n, hn⟩ : ∃ n, n = max a.size b.size := ⟨_, rfl⟩
  have hna : a.size ≤ n := by omega
  have hnb : b.size ≤ n := by omega
  have hn1 : n ≤ 1000000 := by omega
  have hcase : (b.size ≤ a.size ∧ a.size = n) ∨ (a.size < b.size ∧ b.size = n) := by omega
  clear hn
  have HLA : Hid (N a < 256 ^ n) := Nat.lt_of_lt_of_le (N_lt a) (Nat.pow_le_pow_right (by decide) hna)
  have HLB : Hid (N b < 256 ^ n) := Nat.lt_of_lt_of_le (N_lt b) (Nat.pow_le_pow_right (by decide) hnb)
  have HDA := hide (fun (k : Nat) (V : World) (h : k ≤ 9223372036854775807) => digit_any a k V (by omega) h)
  have HDB := hide (fun (k : Nat) (V : World) (h : k ≤ 9223372036854775807) => digit_any b k V (by omega) h)
  generalize hA : N a = A at *
  generalize hD : N b = D at *
  clear hA hD
  go_enter Tryz.func38, Tryz.ntmps38
  rcases hcase with ⟨hc1, hc2⟩ | ⟨hc1, hc2⟩
  all_goals
    go_wp2_with (first
      | (at_make; refine wpList_make_full _ rfl _ _ 22 rfl w.heap.size 3 i0 (.int .i64 0) 1 Tryz.underlying22 hi hz0 hz1 .i64 .i64 _ _ (n + 1) rfl rfl (by go_num) (by go_num) (by rw [hz2]; omega) (by unfold maxLen; omega) (Nat.le_refl _) ?_; intro w2 hown2 hgrow2))
    have hb2 := block_of_own hown2
    rw [made_ints] at hb2
    have hB2 : Below w.heap.size w w2 := (Below.refl _ w).grown hgrow2 (Nat.le_refl _) (fun k e => by cases e)
    have HI : Hid (RowI w2 w.heap.size (List.replicate (n + 1) 0)) := hb2
    clear hown2 hgrow2 hb2 hc1 hc2
    go_loopw [7, 8] (fun cv iv wr => ∃ (k c : Nat) (p : List Nat), k ≤ n + 1 ∧ iv = .int .i64 k ∧ cv = .int .i64 c ∧ c ≤ 1 ∧ p.length = n + 1 ∧ Hid (Dig p) ∧ Hid (∀ j, k ≤ j → p[j]?.getD 0 = 0) ∧ Hid (nd p + c * 256 ^ k = A % 256 ^ k + D % 256 ^ k) ∧ Hid (RowI wr w.heap.size p) ∧ Below w.heap.size w wr)
      (fun _ i _ => n + 1 - (intOf i).toNat)
    case atStart => exact ⟨0, 0, List.replicate (n + 1) 0, Nat.zero_le _, rfl, rfl, Nat.zero_le _, by simp, dig_zeros _, (fun j _ => by rw [List.getElem?_replicate]; split <;> rfl), (show _ = _ by rw [nd_zeros]; simp [Nat.mod_one]), HI, hB2⟩
    case round =>
      obtain ⟨k, c, p, hk, rfl, rfl, hc, hpl, HDg, HZ, HE, HR, hBr⟩ := hrel
      clear HI hB2
      by_cases hlt : k < n + 1
      · have hkp : k < p.length := by omega
        have hstep := hide (add_step hkp (HZ.out k (Nat.le_refl _)) HE.out)
        have HX := hide (fun V => HDA.out k V (by omega))
        have HY := hide (fun V => HDB.out k V (by omega))
        have hx : A / 256 ^ k % 256 < 256 := Nat.mod_lt _ (by decide)
        have hy : D / 256 ^ k % 256 < 256 := Nat.mod_lt _ (by decide)
        generalize A / 256 ^ k % 256 = x at *
        generalize D / 256 ^ k % 256 = y at *
        have hcell := HR.out.cell k hkp
        have hfz := HR.out.fz k
        have hset := hide (fun z => HR.out.set k z)
        generalize p[k] = pk at *
        clear HE
        go_wp2_with (first
          | (have hdone := hx1; go_at_call 65; refine (HY.out _).mono ?_; rintro e w3 ⟨rfl, hw3⟩; subst hw3)
          | (go_at_call 65; refine (HX.out _).mono ?_; rintro e w3 ⟨rfl, hw3⟩; subst hw3; have hx1 : True := trivial))
        have hv : Value.int .i64 (((c : Int) + (x : Int) + (y : Int)) % 256) = .int .i64 (((c + x + y) % 256 : Nat) : Int) := int_eq (by omega)
        have hv2 : Value.int .i64 (((c : Int) + (x : Int) + (y : Int)) / 256) = .int .i64 (((c + x + y) / 256 : Nat) : Int) := int_eq (by omega)
        rw [hv, hv2]
        go_roundw
        case rel => exact ⟨k + 1, (c + x + y) / 256, p.set k ((c + x + y) % 256), by omega, by go_num, rfl, by omega, by rw [List.length_set]; exact hpl, dig_set HDg.out _ _ (Nat.mod_lt _ (by decide)), set_getD HZ.out, hstep.out, hset.out _, hBr.setCell (Nat.le_refl _) _⟩
        case measure => simp [intOf]; omega
      · obtain rfl : k = n + 1 := by omega
        have hpk := pack_any w.heap.size p wr HDg.out (by omega) HR.out
        rw [hpl, add_end HLA.out HLB.out HE.out] at hpk
        have HPK := hide hpk
        clear hpk
        go_wp2_with (go_at_call 66; refine (HPK.out).mono ?_; rintro e w3 ⟨rfl, hb3⟩)
        go_ret
        exact ⟨rfl, hBr.trans (hb3.mono hBr.size)⟩
theorem below_dr {b : Nat} {v u : World} (h : Below b v u) (k : Nat) : Below b v (u.drewN k) := ⟨h.os, h.tape, h.output, h.size, h.block⟩
theorem lt_of_digit (a b : ByteArray) (k : Nat) (ha : k < a.size) (hb : k < b.size) (hl : a.size = b.size) (hp : a.data.toList.take k = b.data.toList.take k) (h : a[k].toNat < b[k].toNat) : N a < N b := by
  have ea : a.data.toList = a.data.toList.take k ++ (a[k] :: a.data.toList.drop (k + 1)) := by
    have hd : a.data.toList.drop k = a[k] :: a.data.toList.drop (k + 1) := List.drop_eq_getElem_cons (l := a.data.toList) (i := k) (by simpa using ha)
    rw [← hd, List.take_append_drop]
  have eb : b.data.toList = b.data.toList.take k ++ (b[k] :: b.data.toList.drop (k + 1)) := by
    have hd : b.data.toList.drop k = b[k] :: b.data.toList.drop (k + 1) := List.drop_eq_getElem_cons (l := b.data.toList) (i := k) (by simpa using hb)
    rw [← hd, List.take_append_drop]
  rw [N, N, ea, eb, hp, nb_append, nb_append, nb_cons, nb_cons]
  have l1 : (a.data.toList.drop (k + 1)).length = a.size - (k + 1) := by rw [List.length_drop, bytes_len]
  have l2 : (b.data.toList.drop (k + 1)).length = a.size - (k + 1) := by rw [List.length_drop, bytes_len, hl]
  have b1 := nb_lt (a.data.toList.drop (k + 1))
  rw [l1] at b1
  rw [List.length_cons, List.length_cons, l1, l2]
  have hm : (a[k].toNat + 1) * 256 ^ (a.size - (k + 1)) ≤ b[k].toNat * 256 ^ (a.size - (k + 1)) := Nat.mul_le_mul_right _ h
  rw [Nat.add_mul, Nat.one_mul] at hm
  omega
theorem lt_of_size {m n : Nat} (h : (B m).size < (B n).size) : m < n := by
  rcases Nat.lt_or_ge m n with h1 | h1
  · exact h1
  · have := sz_mono h1; omega
theorem cmpI_lt {m n : Nat} (h : m < n) : cmpI m n = -1 := if_pos h
theorem cmpI_gt {m n : Nat} (h : n < m) : cmpI m n = 1 := by rw [cmpI, if_neg (by omega), if_neg (by omega)]
theorem cmpI_eq {m n : Nat} (h : m = n) : cmpI m n = 0 := by rw [cmpI, if_neg (by omega), if_pos h]
theorem eq_of_all {m n : Nat} (hl : (B m).size = (B n).size) (hp : (B m).data.toList.take (B m).size = (B n).data.toList.take (B m).size) : m = n := by
  rw [List.take_of_length_le (by rw [bytes_len]; exact Nat.le_refl _), List.take_of_length_le (by rw [bytes_len, hl]; exact Nat.le_refl _)] at hp
  exact B_inj (ByteArray.ext (Array.toList_inj.1 hp))
set_option maxRecDepth 100000 in
set_option maxHeartbeats 2000000 in
theorem rCmp_any (a b : ByteArray) (w : World) (ha : a.size ≤ 1000000) (hb : b.size ≤ 1000000) :
    Calls Tryz.prog 71 #[.string a, .string b] w fun e w' => e = .returned (.int .i64 (cmpI (N a) (N b))) ∧ Below w.heap.size w w' := by
  have HTA := hide (rTrim_any a w (by omega))
  have HTB := hide (rTrim_any b w (by omega))
  have sa := Nat.le_trans (B_size_le a) ha
  have sb := Nat.le_trans (B_size_le b) hb
  have HL1 := hide (fun h => cmpI_lt (lt_of_size (m := N a) (n := N b) h))
  have HL2 := hide (fun h => cmpI_gt (lt_of_size (m := N b) (n := N a) h))
  have HL3 := hide (fun hl hp => cmpI_eq (eq_of_all (m := N a) (n := N b) hl hp))
  have HL4 := hide (fun k h1 h2 hl hp h => cmpI_lt (m := N a) (n := N b) (by have := lt_of_digit (B (N a)) (B (N b)) k h1 h2 hl hp h; rwa [N_B, N_B] at this))
  have HL5 := hide (fun k h1 h2 hl hp h => cmpI_gt (m := N a) (n := N b) (by have := lt_of_digit (B (N b)) (B (N a)) k h1 h2 hl hp h; rwa [N_B, N_B] at this))
  generalize cmpI (N a) (N b) = r at *
  generalize B (N a) = x at *
  generalize B (N b) = y at *
  go_enter Tryz.func71, Tryz.ntmps71
  go_wp2_with fail
  refine (HTA.out).mono ?_
  rintro e w1 ⟨rfl, hw⟩
  subst hw
  go_wp2_with fail
  refine (HTB.out).mono ?_
  rintro e w1 ⟨rfl, hw⟩
  subst hw
  clear HTA HTB
  rcases (show x.size < y.size ∨ y.size < x.size ∨ x.size = y.size by omega) with hs | hs | hs
  · go_wp2
    go_ret
    exact ⟨by rw [HL1.out hs]; rfl, Below.refl _ _⟩
  · go_wp2
    go_ret
    exact ⟨by rw [HL2.out hs]; rfl, Below.refl _ _⟩
  · clear HL1 HL2
    go_wp2
    go_loopw [5] (fun i wr => ∃ k : Nat, k ≤ x.size ∧ i = .int .i64 k ∧ Hid (x.data.toList.take k = y.data.toList.take k) ∧ Below w1.heap.size w1 wr) (fun i _ => x.size - (intOf i).toNat)
    case atStart => exact ⟨0, Nat.zero_le _, rfl, rfl, Below.refl _ _⟩
    case round =>
      obtain ⟨k, hk, rfl, HP, hBr⟩ := hrel
      by_cases hlt : k < x.size
      · have hlt' : k < y.size := by omega
        rcases (show x[k].toNat < y[k].toNat ∨ y[k].toNat < x[k].toNat ∨ x[k].toNat = y[k].toNat by omega) with hc | hc | hc
        · have HF := hide (HL4.out k hlt hlt' hs HP.out hc)
          go_wp2_with fail
          go_quiet (fail)
          go_wp2
          go_ret
          exact ⟨by rw [HF.out]; rfl, below_dr hBr _⟩
        · have HF := hide (HL5.out k hlt' hlt hs.symm HP.out.symm hc)
          go_wp2_with fail
          go_quiet (fail)
          go_wp2_with fail
          go_quiet (fail)
          go_wp2
          go_ret
          exact ⟨by rw [HF.out]; rfl, below_dr (below_dr hBr _) _⟩
        · have HS : Hid (x.data.toList.take (k + 1) = y.data.toList.take (k + 1)) := by
            show _ = _
            rw [take_snoc x k hlt, take_snoc y k hlt', HP.out, UInt8.toNat_inj.1 hc]
          go_wp2_with fail
          go_quiet (fail)
          go_wp2_with fail
          go_quiet (fail)
          go_wp2
          go_roundw
          case rel => exact ⟨k + 1, by omega, by go_num, HS.out, below_dr hBr _⟩
          case measure => simp [intOf]; omega
      · obtain rfl : k = x.size := by omega
        have HF := hide (HL3.out hs HP.out)
        go_wp2
        go_ret
        exact ⟨by rw [HF.out]; rfl, hBr⟩
end Go.Proofs.YtbejijgelljeaaaGreatDoor

/- The document's answer: NatSub. -/
namespace Go.Proofs.YtbejijgelljeaaaGreatDoor
open Go.RowKit
theorem sub_step {A D k c y : Nat} {p : List Nat} (hk : k < p.length) (h0 : p[k]?.getD 0 = 0) (h : nd p + D % 256 ^ k = A % 256 ^ k + c * 256 ^ k) (c' : Nat) (hy : A / 256 ^ k % 256 + c' * 256 = y + D / 256 ^ k % 256 + c) :
    nd (p.set k y) + D % 256 ^ (k + 1) = A % 256 ^ (k + 1) + c' * 256 ^ (k + 1) := by
  have s := nd_set p k y hk
  have h0' : p[k] = 0 := by rwa [List.getElem?_eq_getElem hk] at h0
  rw [h0', Nat.zero_mul, Nat.add_zero] at s
  rw [s, mod_step, mod_step A, Nat.pow_succ]
  have e := congrArg (fun z => z * 256 ^ k) hy
  simp only [Nat.add_mul] at e
  have e1 : c' * 256 * 256 ^ k = c' * (256 ^ k * 256) := by rw [Nat.mul_assoc, Nat.mul_comm 256]
  rw [e1] at e
  rw [Nat.mul_comm (256 ^ k) (D / 256 ^ k % 256), Nat.mul_comm (256 ^ k) (A / 256 ^ k % 256)]
  omega
theorem cmpI_ge {m n : Nat} (h : n ≤ m) : 0 ≤ cmpI m n := by
  rw [cmpI, if_neg (by omega)]
  split <;> decide
theorem sub_end {A D n c : Nat} {p : List Nat} (hA : A < 256 ^ n) (hD : D ≤ A) (hp : nd p < 256 ^ n) (h : nd p + D % 256 ^ n = A % 256 ^ n + c * 256 ^ n) : nd p = A - D := by
  rw [Nat.mod_eq_of_lt hA, Nat.mod_eq_of_lt (by omega)] at h
  have hc : c = 0 := by
    rcases Nat.eq_zero_or_pos c with h0 | h0
    · exact h0
    · have : 1 * 256 ^ n ≤ c * 256 ^ n := Nat.mul_le_mul_right _ h0
      omega
  rw [hc] at h
  omega
set_option maxRecDepth 100000 in
set_option maxHeartbeats 2000000 in
theorem rSub_no (a b : ByteArray) (w : World) (ha : a.size ≤ 1000000) (hb : b.size ≤ 1000000) (h : N a < N b) :
    Calls Tryz.prog 42 #[.string a, .string b] w fun e w' => e = .returned (.tuple #[.string ⟨#[]⟩, .bool false]) ∧ Below w.heap.size w w' := by
  have hc := rCmp_any a b w ha hb
  rw [cmpI_lt h] at hc
  have HC := hide hc
  clear hc h
  go_enter Tryz.func42, Tryz.ntmps42
  go_wp2_with fail
  refine (HC.out).mono ?_
  rintro e w1 ⟨rfl, hb1⟩
  go_wp2
  go_ret2
  exact ⟨rfl, hb1⟩
set_option maxRecDepth 100000 in
set_option maxHeartbeats 2000000 in
theorem rSub_yes (a b : ByteArray) (w : World) (ha : a.size ≤ 1000000) (hb : b.size ≤ 1000000) (h : N b ≤ N a) :
    Calls Tryz.prog 42 #[.string a, .string b] w fun e w' => e = .returned (.tuple #[.string (B (N a - N b)), .bool true]) ∧ Below w.heap.size w w' := by
  obtain ⟨i0, hi, hz0, hz1, hz2⟩ := info_parts Tryz.infoInt
  have hc := rCmp_any a b w ha hb
  have hcr : ∃ r : Int, cmpI (N a) (N b) = r ∧ 0 ≤ r := ⟨_, rfl, cmpI_ge h⟩
  obtain ⟨r, hcr, hr⟩ := hcr
  rw [hcr] at hc
  have HC := hide hc
  have HT := hide (fun V => rTrim_any b V (by omega))
  have sb := Nat.le_trans (B_size_le b) hb
  have HLA := hide (N_lt a)
  have HLE := hide h
  have HDA := hide (fun (k : Nat) (V : World) (h : k ≤ 9223372036854775807) => digit_any a k V (by omega) h)
  have hdb := fun (k : Nat) (V : World) (h : k ≤ 9223372036854775807) => digit_any (B (N b)) k V (by omega) h
  rw [N_B] at hdb
  have HDB := hide hdb
  clear hc hcr hdb h
  generalize B (N b) = y' at *
  generalize hA : N a = A at *
  generalize hD : N b = D at *
  clear hA hD
  generalize hn : a.size = n at *
  go_enter Tryz.func42, Tryz.ntmps42
  go_wp2_with fail
  refine (HC.out).mono ?_
  rintro e w1 ⟨rfl, hb1⟩
  clear HC
  go_wp2_with fail
  refine (HT.out _).mono ?_
  rintro e w9 ⟨rfl, hw9⟩
  subst hw9
  clear HT
  go_wp2_with (first
    | (at_make; refine wpList_make_full _ rfl _ _ 22 rfl w9.heap.size 3 i0 (.int .i64 0) 1 Tryz.underlying22 hi hz0 hz1 .i64 .i64 _ _ n rfl rfl (by go_num) (by go_num) (by rw [hz2]; omega) (by unfold maxLen; omega) (Nat.le_refl _) ?_; intro w2 hown2 hgrow2))
  have hb2 := block_of_own hown2
  rw [made_ints] at hb2
  have hB2 : Below w9.heap.size w9 w2 := (Below.refl _ w9).grown hgrow2 (Nat.le_refl _) (fun k e => by cases e)
  have HI : Hid (RowI w2 w9.heap.size (List.replicate n 0)) := hb2
  clear hown2 hgrow2 hb2
  go_loopw [8, 9] (fun cv iv wr => ∃ (k c : Nat) (p : List Nat), k ≤ n ∧ iv = .int .i64 k ∧ cv = .int .i64 c ∧ c ≤ 1 ∧ p.length = n ∧ Hid (Dig p) ∧ Hid (∀ j, k ≤ j → p[j]?.getD 0 = 0) ∧ Hid (nd p + D % 256 ^ k = A % 256 ^ k + c * 256 ^ k) ∧ Hid (RowI wr w9.heap.size p) ∧ Below w9.heap.size w9 wr)
    (fun _ i _ => n - (intOf i).toNat)
  case atStart => exact ⟨0, 0, List.replicate n 0, Nat.zero_le _, rfl, rfl, Nat.zero_le _, by simp, dig_zeros _, (fun j _ => by rw [List.getElem?_replicate]; split <;> rfl), (show _ = _ by rw [nd_zeros]; simp [Nat.mod_one]), HI, hB2⟩
  case round =>
    obtain ⟨k, c, p, hk, rfl, rfl, hc, hpl, HDg, HZ, HE, HR, hBr⟩ := hrel
    clear HI hB2
    by_cases hlt : k < n
    · have hkp : k < p.length := by omega
      have hstep := hide (fun y c' => sub_step (y := y) hkp (HZ.out k (Nat.le_refl _)) HE.out c')
      have HX := hide (fun V => HDA.out k V (by omega))
      have HY := hide (fun V => HDB.out k V (by omega))
      have hx : A / 256 ^ k % 256 < 256 := Nat.mod_lt _ (by decide)
      have hy : D / 256 ^ k % 256 < 256 := Nat.mod_lt _ (by decide)
      generalize A / 256 ^ k % 256 = x at *
      generalize D / 256 ^ k % 256 = y at *
      have hcell := HR.out.cell k hkp
      have hfz := HR.out.fz k
      have hset := hide (fun z => HR.out.set k z)
      generalize p[k] = pk at *
      clear HE
      by_cases hlow : (x : Int) - y - c < 0
      · go_wp2_with (first
          | (have hdone := hx1; go_at_call 65; refine (HY.out _).mono ?_; rintro e w3 ⟨rfl, hw3⟩; subst hw3)
          | (go_at_call 65; refine (HX.out _).mono ?_; rintro e w3 ⟨rfl, hw3⟩; subst hw3; have hx1 : True := trivial))
        have hv : Value.int .i64 ((x : Int) - (y : Int) - (c : Int) + 256) = .int .i64 ((x + 256 - y - c : Nat) : Int) := int_eq (by omega)
        rw [hv]
        go_roundw
        case rel => exact ⟨k + 1, 1, p.set k (x + 256 - y - c), by omega, by go_num, rfl, by omega, by rw [List.length_set]; exact hpl, dig_set HDg.out _ _ (by omega), set_getD HZ.out, hstep.out _ 1 (by omega), hset.out _, hBr.setCell (Nat.le_refl _) _⟩
        case measure => simp [intOf]; omega
      · go_wp2_with (first
          | (have hdone := hx1; go_at_call 65; refine (HY.out _).mono ?_; rintro e w3 ⟨rfl, hw3⟩; subst hw3)
          | (go_at_call 65; refine (HX.out _).mono ?_; rintro e w3 ⟨rfl, hw3⟩; subst hw3; have hx1 : True := trivial))
        have hv : Value.int .i64 ((x : Int) - (y : Int) - (c : Int)) = .int .i64 ((x - y - c : Nat) : Int) := int_eq (by omega)
        rw [hv]
        go_roundw
        case rel => exact ⟨k + 1, 0, p.set k (x - y - c), by omega, by go_num, rfl, by omega, by rw [List.length_set]; exact hpl, dig_set HDg.out _ _ (by omega), set_getD HZ.out, hstep.out _ 0 (by omega), hset.out _, hBr.setCell (Nat.le_refl _) _⟩
        case measure => simp [intOf]; omega
    · obtain rfl : k = n := by omega
      have hpk := pack_any w9.heap.size p wr HDg.out (by omega) HR.out
      have hpn := nd_lt p HDg.out
      rw [hpl] at hpn
      rw [hpl, sub_end HLA.out HLE.out hpn HE.out] at hpk
      have HPK := hide hpk
      clear hpk hpn
      go_wp2_with (go_at_call 66; refine (HPK.out).mono ?_; rintro e w3 ⟨rfl, hb3⟩)
      go_ret2
      exact ⟨rfl, (hb1.trans (hBr.mono hb1.size)).trans (hb3.mono (hb1.trans (hBr.mono hb1.size)).size)⟩
set_option maxRecDepth 100000 in
set_option maxHeartbeats 1000000 in
theorem rOf_any (n : Int) (w : World) (h0 : -9223372036854775808 ≤ n) (h1 : n ≤ 9223372036854775807) :
    Calls Tryz.prog 37 #[.int .i64 n] w fun e w' => e = .returned (.string (B n.toNat)) ∧ Below w.heap.size w w' := by
  go_enter Tryz.func37, Tryz.ntmps37
  go_wp2
  go_loopw [0, 3] (fun v a wr => ∃ (z : Int) (s : ByteArray), v = .int .i64 z ∧ a = .string s ∧ -9223372036854775808 ≤ z ∧ z ≤ 9223372036854775807 ∧ Hid (bn z.toNat ++ s.data.toList = bn n.toNat) ∧ Below w.heap.size w wr) (fun v _ _ => (intOf v).toNat)
  case atStart => exact ⟨n, ⟨#[]⟩, rfl, rfl, h0, h1, (show _ = _ by simp), Below.refl _ _⟩
  case round =>
    obtain ⟨z, s, rfl, rfl, hz0, hz1, HS, hBr⟩ := hrel
    by_cases hz : 0 < z
    · have hconv := run_convert_bytes_arg (P := Tryz.prog) (wr.alloc (.cells #[.int .u8 (z % 256)] 5)) 86 5 Tryz.underlying86 Tryz.underlying5 wr.heap.size 0 1 1 [z % 256] rfl (fun i hi => by
        obtain rfl : i = 0 := by omega
        rw [cell_of_row _ wr.heap.size (0 + 0) _ _ (0, 0) (heap_alloc_new _ _)]
        rfl) 31 Tryz.underlying31
      have HS2 : Hid (bn (z / 256).toNat ++ (strOfNums [z % 256] ++ s).data.toList = bn n.toNat) := by
        show _ = _
        rw [← HS.out, bn_pos z.toNat (by omega), ByteArray.data_append, Array.toList_append, strOfNums_data, show (z / 256).toNat = z.toNat / 256 by omega, List.append_assoc]
        have : UInt8.ofNat (z % 256).toNat = UInt8.ofNat (z.toNat % 256) := by congr 1; omega
        simp [this]
      have hs8 : s.size ≤ 8 := by
        have e := congrArg List.length HS.out
        rw [List.length_append, bytes_len] at e
        have := bn_fits 8 n.toNat (by show n.toNat < 18446744073709551616; omega)
        omega
      have hs1 : (strOfNums [z % 256]).size = 1 := strOfNums_size _
      go_wp2
      go_roundw
      case rel => exact ⟨z / 256, strOfNums [z % 256] ++ s, rfl, rfl, by omega, by omega, HS2.out, hBr.alloc hBr.size _⟩
      case measure => simp [intOf]; omega
    · have HE : Hid (s = B n.toNat) := by
        show s = _
        have := HS.out
        rw [show z.toNat = 0 by omega, bn_zero, List.nil_append] at this
        apply ByteArray.ext
        apply Array.toList_inj.1
        rw [this, B]
      go_wp2
      go_ret
      exact ⟨by rw [← HE.out]; rfl, hBr⟩
end Go.Proofs.YtbejijgelljeaaaGreatDoor

/- The document's answer: short and NatInt. -/
namespace Go.Proofs.YtbejijgelljeaaaGreatDoor
open Go.RowKit
theorem nb_take_le (l : List UInt8) (k : Nat) : nb (l.take k) ≤ nb l := by
  conv => rhs; rw [← List.take_append_drop k l, nb_append]
  have : nb (l.take k) * 1 ≤ nb (l.take k) * 256 ^ (l.drop k).length := Nat.mul_le_mul_left _ (Nat.pow_pos (by decide))
  omega
theorem nb_take_succ (s : ByteArray) (k : Nat) (h : k < s.size) : nb (s.data.toList.take (k + 1)) = nb (s.data.toList.take k) * 256 + s[k].toNat := by
  rw [take_snoc s k h, nb_snoc]
theorem nb_take_all (s : ByteArray) : nb (s.data.toList.take s.size) = N s := by
  rw [List.take_of_length_le (by rw [bytes_len]; exact Nat.le_refl _), N]
set_option maxRecDepth 100000 in
set_option maxHeartbeats 1000000 in
theorem short_yes (s : ByteArray) (w : World) (hs : s.size ≤ 7) :
    Calls Tryz.prog 68 #[.string s] w fun e w' => e = .returned (.tuple #[.int .i64 (N s : Nat), .bool true]) ∧ w' = w := by
  have hN : N s < 72057594037927936 := Nat.lt_of_lt_of_le (N_lt s) (Nat.pow_le_pow_right (by decide) hs)
  have HA := hide (nb_take_all s)
  go_enter Tryz.func68, Tryz.ntmps68
  go_wp2
  go_loop [4, 5] (fun v i => ∃ k : Nat, k ≤ s.size ∧ i = .int .i64 k ∧ v = .int .i64 (nb (s.data.toList.take k) : Nat)) (fun _ i => s.size - (intOf i).toNat)
  case atStart => exact ⟨0, Nat.zero_le _, rfl, rfl⟩
  case round =>
    obtain ⟨k, hk, rfl, rfl⟩ := hrel
    by_cases hlt : k < s.size
    · have hwr := wrap64_small _ s[k].toNat_lt
      have hst := nb_take_succ s k hlt
      have hle := nb_take_le s.data.toList (k + 1)
      rw [hst] at hle
      have hle' : nb (s.data.toList.take k) * 256 + s[k].toNat < 72057594037927936 := Nat.lt_of_le_of_lt hle hN
      have HST := hide hst
      clear hst hle hN
      generalize nb (s.data.toList.take k) = m at *
      go_wp2
      go_round
      case rel => exact ⟨k + 1, by omega, by go_num, by rw [HST.out]; exact int_eq (by omega)⟩
      case measure => simp [intOf]; omega
    · obtain rfl : k = s.size := by omega
      rw [HA.out]
      go_wp2
      go_ret2
      exact ⟨rfl, rfl⟩
set_option maxRecDepth 100000 in
set_option maxHeartbeats 1000000 in
theorem short_no (s : ByteArray) (w : World) (h1 : 7 < s.size) (hs : s.size ≤ 1000000) :
    Calls Tryz.prog 68 #[.string s] w fun e w' => e = .returned (.tuple #[.int .i64 0, .bool false]) ∧ w' = w := by
  go_enter Tryz.func68, Tryz.ntmps68
  go_wp2
  go_ret2
  exact ⟨rfl, rfl⟩
theorem small_of (m : Nat) (h : (B m).size ≤ 7) : m < 72057594037927936 := Nat.lt_of_lt_of_le (B_lt m) (Nat.pow_le_pow_right (by decide) h)
end Go.Proofs.YtbejijgelljeaaaGreatDoor
