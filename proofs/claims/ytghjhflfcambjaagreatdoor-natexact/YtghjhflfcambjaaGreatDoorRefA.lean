/- The document's answer: Trim, digit and the comparison. -/
import Derived.Test.YtghjhflfcambjaaGreatDoorRefN
namespace Go.Proofs.YtghjhflfcambjaaGreatDoor
open Go.RowKit

theorem trim_at (s : ByteArray) (k : Nat) (hk : k ≤ s.size) (h0 : (s.data.toList.take k).all (· == 0) = true) (h1 : ∀ h : k < s.size, s[k].toNat ≠ 0) : s.extract k s.size = B (N s) := by
  have e : s.data.toList.dropWhile (· == 0) = s.data.toList.drop k := drop_zeros _ k (by simpa using hk) h0 (fun h hz => h1 (by simpa using h) (by
    have : s[k]'(by simpa using h) = s.data.toList[k] := rfl
    rw [this, hz]; rfl))
  apply ByteArray.ext
  apply Array.toList_inj.1
  rw [B, N, bn_nb, e]
  show (s.extract k s.size).data.toList = _
  rw [ByteArray.data_extract, Array.toList_extract]
  simp [List.take_of_length_le]

set_option maxRecDepth 100000 in
set_option maxHeartbeats 1000000 in
theorem rTrim_any (s : ByteArray) (w : World) (hs : s.size ≤ 140737488355328) :
    Calls Tryz.prog 8 #[.string s] w fun e w' => e = .returned (.string (B (N s))) ∧ w' = w := by
  go_enter Tryz.func8, Tryz.ntmps8
  go_wp2
  go_loop [3] (fun i => ∃ k : Nat, k ≤ s.size ∧ i = .int .i64 k ∧ (s.data.toList.take k).all (· == 0) = true) (fun i => s.size - (intOf i).toNat)
  case atStart => exact ⟨0, Nat.zero_le _, rfl, rfl⟩
  case round =>
    obtain ⟨k, hk, rfl, hall⟩ := hrel
    have HA : Hid ((s.data.toList.take k).all (· == 0) = true) := hall
    clear hall
    by_cases hlt : k < s.size
    · by_cases hc : s[k].toNat = 0
      · have HS : Hid ((s.data.toList.take (k + 1)).all (· == 0) = true) := by
          show _ = _
          rw [take_snoc s k hlt, List.all_append, HA.out]
          have : s[k] = 0 := UInt8.toNat_inj.1 hc
          simp [this]
        go_wp2
        go_round
        case rel => exact ⟨k + 1, by omega, by go_num, HS.out⟩
        case measure => simp [intOf]; omega
      · have HE := hide (trim_at s k hk HA.out fun _ => hc)
        go_wp2
        go_ret
        exact ⟨by rw [← HE.out]; rfl, rfl⟩
    · have HE := hide (trim_at s k hk HA.out fun h => absurd h hlt)
      go_wp2
      go_ret
      exact ⟨by rw [← HE.out]; rfl, rfl⟩

theorem wrap64_small (n : Nat) (h : n < 256) : wrap64 (n : Int) = (n : Int) := by
  rw [wrap64]
  omega

set_option maxRecDepth 100000 in
set_option maxHeartbeats 1000000 in
theorem digit_any (s : ByteArray) (i : Nat) (w : World) (hs : s.size ≤ 140737488355328) (hi : i ≤ 9223372036854775807) :
    Calls Tryz.prog 39 #[.string s, .int .i64 (i : Int)] w fun e w' => e = .returned (.int .i64 ((N s / 256 ^ i % 256 : Nat) : Int)) ∧ w' = w := by
  go_enter Tryz.func39, Tryz.ntmps39
  by_cases hlt : i < s.size
  · have HD : Hid (N s / 256 ^ i % 256 = (s[s.size - 1 - i]'(by omega)).toNat) := by
      show _ = _
      rw [N, nb_digit _ i (by simpa using hlt)]
      simp
      rfl
    have hx : 0 ≤ (s.size : Int) - 1 - i := by omega
    have hw := wrap64_small _ (s[s.size - 1 - i]'(by omega)).toNat_lt
    have HW := hide hw
    clear hw
    go_wp2
    go_ret
    exact ⟨by rw [HD.out]; exact congrArg (fun z => Ending.returned (Value.int .i64 z)) HW.out, rfl⟩
  · have HD : Hid (N s / 256 ^ i % 256 = 0) := nb_digit0 _ i (by simp; omega)
    go_wp2
    go_ret
    exact ⟨by rw [HD.out]; rfl, rfl⟩
def iv (x : Nat) : Value := .int .i64 (x : Int)
/-- The block g holds these ints. -/
def RowI (w : World) (g : Nat) (l : List Nat) : Prop := w.heap[g]? = some (.cells (l.map iv).toArray 3 (0, 0))
theorem RowI.cell {w : World} {g : Nat} {l : List Nat} (h : RowI w g l) (j : Nat) (hj : j < l.length) : w.cell? ⟨g, j, none⟩ = some (.int .i64 (l[j] : Nat)) := by
  rw [cell_of_row w g j _ _ (0, 0) h]
  simp [iv, hj]
theorem RowI.fz {w : World} {g : Nat} {l : List Nat} (h : RowI w g l) (j : Nat) : w.frozen? ⟨g, j, none⟩ = false := frozen_of_row w g j _ _ h
theorem RowI.lt {w : World} {g : Nat} {l : List Nat} (h : RowI w g l) : g < w.heap.size := (Array.getElem?_eq_some_iff.1 h).1
theorem RowI.below {w w' : World} {g b : Nat} {l : List Nat} (h : RowI w g l) (hb : Below b w w') (hg : g < b) : RowI w' g l := (hb.block g hg).trans h
theorem RowI.set {w : World} {g : Nat} {l : List Nat} (h : RowI w g l) (j y : Nat) : RowI (w.setCell ⟨g, j, none⟩ (.int .i64 (y : Int))) g (l.set j y) := by
  have := heap_setCell_same w g j _ _ (.int .i64 (y : Int)) h
  rw [RowI, List.map_set]
  simpa [iv] using this
theorem RowI.drew {w : World} {g : Nat} {l : List Nat} (h : RowI w g l) : RowI w.drew g l := h

/-- What pack has written when k digits are read. -/
def packI (l : List Nat) (k : Nat) : List Int := List.replicate (l.length - k) 0 ++ ((l.take k).reverse.map Int.ofNat)
theorem packI_zero (l : List Nat) : packI l 0 = List.replicate l.length 0 := by simp [packI]
theorem packI_length (l : List Nat) (k : Nat) (hk : k ≤ l.length) : (packI l k).length = l.length := by simp [packI]; omega
theorem packI_set (l : List Nat) (k : Nat) (hk : k < l.length) : (packI l k).set (l.length - 1 - k) (l[k] : Int) = packI l (k + 1) := by
  have h1 : l.length - k = (l.length - 1 - k) + 1 := by omega
  have h2 : List.replicate (l.length - k) (0 : Int) = List.replicate (l.length - 1 - k) 0 ++ [0] := by rw [h1, List.replicate_succ']
  have h3 : l.length - (k + 1) = l.length - 1 - k := by omega
  rw [packI, packI, h2, List.append_assoc, List.set_append_right _ _ (by simp), h3]
  rw [List.length_replicate, Nat.sub_self, List.cons_append, List.nil_append, List.set_cons_zero, List.take_succ_eq_append_getElem hk, List.reverse_append, List.reverse_singleton, List.map_append]
  rfl
theorem packI_all (l : List Nat) : packI l l.length = l.reverse.map Int.ofNat := by simp [packI]
theorem N_pack (l : List Nat) (h : Dig l) : N (strOfNums (l.reverse.map Int.ofNat)) = nd l := by
  rw [N, strOfNums_data, ← nb_rb l h, rb]
  congr 1
  simp [Function.comp_def]
theorem made_ints (n : Nat) : (madeCells (Value.int .i64 0).cells (n * 1)).toList = (List.replicate n (0 : Nat)).map iv := by
  rw [show (Value.int .i64 0).cells = #[Value.int .i64 0] from rfl, toList_madeCells_one, Nat.mul_one, List.map_replicate]; rfl
theorem Tryz.infoInt : (Tryz.prog.info? 3).map (fun i => (i.zero, i.size, i.bytes)) = some (some (.int .i64 0), 1, 8) := by kernel_rfl

set_option maxRecDepth 100000 in
set_option maxHeartbeats 2000000 in
theorem pack_any (g : Nat) (l : List Nat) (w : World) (hd : Dig l) (hlen : l.length ≤ 140737488355328) (h : RowI w g l) :
    Calls Tryz.prog 40 #[.slice (some ⟨g, 0, none⟩) l.length l.length] w fun e w' => e = .returned (.string (B (nd l))) ∧ Below w.heap.size w w' := by
  obtain ⟨i0, hi, hz0, hz1, hz2⟩ := info_parts Tryz.infoByte
  have hglt := h.lt
  have HR0 : Hid (RowI w g l) := h
  have HN : Hid (N (strOfNums (l.reverse.map Int.ofNat)) = nd l) := N_pack l hd
  have HD : Hid (Dig l) := hd
  clear h hd
  go_enter Tryz.func40, Tryz.ntmps40
  go_wp2_with (first
    | (at_make; refine wpList_make_full _ rfl _ _ 51 rfl w.heap.size 5 i0 (.int .u8 0) 1 Tryz.underlying51 hi hz0 hz1 .i64 .i64 _ _ l.length rfl rfl (by omega) (by omega) (by rw [hz2]; omega) (by unfold maxLen; omega) (Nat.le_refl _) ?_; intro w2 hown2 hgrow2))
  have hb2 := block_of_own hown2
  rw [made_bytes, ← packI_zero] at hb2
  have hB2 : Below w.heap.size w w2 := (Below.refl _ w).grown hgrow2 (Nat.le_refl _) (fun k e => by cases e)
  have HI : Hid (w2.heap[w.heap.size]? = some (.cells ((packI l 0).map u8).toArray 5 (0, 0))) := hb2
  clear hown2 hgrow2 hb2
  go_loopw [4] (fun i wr => ∃ k : Nat, k ≤ l.length ∧ i = .int .i64 k ∧ Hid (wr.heap[w.heap.size]? = some (.cells ((packI l k).map u8).toArray 5 (0, 0))) ∧ Below w.heap.size w wr)
    (fun i _ => l.length - (intOf i).toNat)
  case atStart => exact ⟨0, Nat.zero_le _, rfl, HI, hB2⟩
  case round =>
    obtain ⟨k, hk, rfl, HR, hBr⟩ := hrel
    clear HI hB2
    by_cases hlt : k < l.length
    · have hck : wr.cell? ⟨g, k, none⟩ = some (.int .i64 (l[k] : Nat)) := (HR0.out.below hBr hglt).cell k hlt
      have hx := HD.out l[k] (List.getElem_mem hlt)
      have hset := hide (packI_set l k hlt)
      obtain ⟨E, hE⟩ : ∃ E, E = l.length - 1 - k := ⟨_, rfl⟩
      rw [← hE] at hset
      have f1 : (l.length : Int) - 1 - (k : Int) = (E : Int) := by omega
      have f2 : E < l.length := by omega
      have hcd : wr.cell? ⟨w.heap.size, E, none⟩ = some (.int .u8 ((packI l k)[E]?.getD 0)) := by
        rw [cell_of_row wr _ E _ _ (0, 0) HR.out]
        have : E < (packI l k).length := by rw [packI_length l k hk]; exact f2
        simp [Go.Proofs.YtghjhflfcambjaaGreatDoor.u8, List.getElem?_eq_getElem this]
      have hfz := frozen_of_row wr w.heap.size E _ _ HR.out
      have hput := hide (fun u => heap_setCell_same wr w.heap.size E _ _ u HR.out)
      generalize l[k] = x at *
      generalize (packI l k)[E]?.getD 0 = z at *
      clear hE
      go_wp2
      have hrow := hput.out (.int .u8 (x : Int))
      go_roundw
      case rel =>
        refine ⟨k + 1, by omega, by go_num, ?_, hBr.setCell (Nat.le_refl _) _⟩
        show _ = _
        rw [hrow, ← hset.out, List.map_set]
        simp [Go.Proofs.YtghjhflfcambjaaGreatDoor.u8]
      case measure => simp [intOf]; omega
    · obtain rfl : k = l.length := by omega
      have hpa := packI_all l
      have hml : (l.reverse.map Int.ofNat).length = l.length := by simp
      have hNm := HN.out
      clear HN HR0 HD
      generalize l.reverse.map Int.ofNat = m at *
      have HN := hide hNm
      clear hNm
      have hconv := run_convert_bytes_arg (P := Tryz.prog) wr 51 5 Tryz.underlying51 Tryz.underlying5 w.heap.size 0 l.length l.length m hml (fun i hi => by
        have e := cell_of_row wr w.heap.size (0 + i) _ _ _ HR.out
        rw [e, hpa]
        have hil : i < m.length := by omega
        simp [Go.Proofs.YtghjhflfcambjaaGreatDoor.u8, List.getElem?_eq_getElem hil, List.getD_eq_getElem?_getD]) 22 Tryz.underlying22
      clear HR hpa
      have hsz : (strOfNums m).size ≤ 140737488355328 := by
        rw [← bytes_len, strOfNums_data, List.length_map]
        omega
      go_wp2_with (go_at_call 8; refine (rTrim_any _ _ hsz).mono ?_; rintro e w3 ⟨rfl, hw1⟩; subst hw1)
      go_ret
      exact ⟨by rw [HN.out]; rfl, hBr⟩
end Go.Proofs.YtghjhflfcambjaaGreatDoor
