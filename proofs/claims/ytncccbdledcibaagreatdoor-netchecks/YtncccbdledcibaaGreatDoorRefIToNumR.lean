/- The document's answer: NatDiv. -/
import Derived.Test.YtncccbdledcibaaGreatDoorRefCToRefH
import Derived.Deep.RegionHeld3
import Derived.Deep.CutRange
import Derived.Test.YtncccbdledcibaaGreatDoorDivCToRefA
namespace Go.Proofs.YtncccbdledcibaaGreatDoor
open Go.RowKit

def bv (d : Nat) : Value := .int .u8 (d : Int)
/-- The slice value v holds these bytes, and nobody else's; or it is nil and there are none. -/
def HasB (w : World) (base : Nat) (v : Value) (l : List Nat) : Prop := w.ownsRow base 5 1 v l.length (l.map bv)
def qn (l : List Nat) : Nat := l.foldl (fun n d => n * 256 + d) 0
theorem qn_snoc (l : List Nat) (d : Nat) : qn (l ++ [d]) = qn l * 256 + d := by simp [qn]
theorem dig_snoc {l : List Nat} (h : Dig l) {d : Nat} (hd : d < 256) : Dig (l ++ [d]) := fun x hx => by
  rcases List.mem_append.1 hx with h1 | h1
  · exact h x h1
  · simp at h1; omega
theorem N_qn (l : List Nat) : Dig l → N (strOfNums (l.map Int.ofNat)) = qn l := by
  induction l using snoc_ind with
  | h0 => intro _; rfl
  | h1 l d ih =>
    intro h
    have h1 := ih fun x hx => h x (List.mem_append_left _ hx)
    have h2 := h d (List.mem_append_right _ (List.mem_singleton.2 rfl))
    rw [N, strOfNums_data] at h1 ⊢
    rw [List.map_append, List.map_append, List.map_cons, List.map_nil, List.map_cons, List.map_nil, nb_snoc, h1, qn_snoc]
    have : (UInt8.ofNat (Int.ofNat d).toNat).toNat = d := by simp; omega
    rw [this]
theorem div_next {P D c : Nat} (hD : 0 < D) : (P * 256 + c) / D = P / D * 256 + (P % D * 256 + c) / D ∧ (P * 256 + c) % D = (P % D * 256 + c) % D := by
  have e : P * 256 + c = P % D * 256 + c + P / D * 256 * D := by
    have := Nat.div_add_mod P D
    have f : P / D * 256 * D = D * (P / D) * 256 := by rw [Nat.mul_right_comm, Nat.mul_comm (P / D) D]
    omega
  rw [e, Nat.add_mul_div_right _ _ hD, Nat.add_mul_mod_self_right]
  exact ⟨Nat.add_comm _ _, rfl⟩
theorem N_one (s x : ByteArray) (k : Nat) (h : k < x.size) : N (s ++ x.extract k (k + 1)) = N s * 256 + x[k].toNat := by
  have e : (x.extract k (k + 1)).data.toList = [x[k]] := by
    rw [ByteArray.data_extract, Array.toList_extract, List.extract_eq_take_drop, show k + 1 - k = 1 by omega, List.drop_eq_getElem_cons (by rw [bytes_len]; exact h)]
    rfl
  rw [N, ByteArray.data_append, Array.toList_append, e, nb_snoc]
  rfl
theorem one_size (x : ByteArray) (k : Nat) (h : k < x.size) : (x.extract k (k + 1)).size = 1 := by
  rw [ByteArray.size_extract]; omega

set_option maxRecDepth 100000 in
set_option maxHeartbeats 1000000 in
theorem rDiv_no (a b : ByteArray) (w : World) (ha : a.size ≤ 1000000) (hb : b.size ≤ 1000000) (h : N b = 0) :
    Calls Tryz.prog 83 #[.string a, .string b] w fun e w' => e = .returned (.tuple #[.string ⟨#[]⟩, .string ⟨#[]⟩, .bool false]) ∧ w' = w := by
  have HTA := hide (rTrim_any a w (by omega))
  have htb := rTrim_any b w (by omega)
  rw [h, B_zero] at htb
  have HTB := hide htb
  clear htb
  go_enter Tryz.func83, Tryz.ntmps83
  go_wp2_with fail
  refine (HTA.out).mono ?_
  rintro e w1 ⟨rfl, hw⟩
  subst hw
  go_wp2_with fail
  refine (HTB.out).mono ?_
  rintro e w1 ⟨rfl, hw⟩
  subst hw
  go_wp2
  go_ret3
  exact ⟨rfl, rfl⟩

set_option maxRecDepth 100000 in
set_option maxHeartbeats 2000000 in
theorem rDiv_small (a b : ByteArray) (w : World) (ha : a.size ≤ 1000000) (hb : b.size ≤ 1000000) (h : N b ≠ 0) (h1 : (B (N a)).size ≤ 7) (h2 : (B (N b)).size ≤ 7) :
    Calls Tryz.prog 83 #[.string a, .string b] w fun e w' => e = .returned (.tuple #[.string (B (N a / N b)), .string (B (N a % N b)), .bool true]) ∧ Below w.heap.size w w' := by
  have HTA := hide (rTrim_any a w (by omega))
  have HTB := hide (rTrim_any b w (by omega))
  have HNx : N (B (N a)) = N a := N_B _
  have HNy : N (B (N b)) = N b := N_B _
  have hne := B_full h
  have hA := small_of _ h1
  have hD := small_of _ h2
  generalize B (N a) = x at *
  generalize B (N b) = y at *
  have HSA := hide (fun (V : World) => short_yes x V h1)
  have HSB := hide (fun (V : World) => short_yes y V h2)
  rw [HNx] at HSA
  rw [HNy] at HSB
  clear HNx HNy
  generalize hA' : N a = A at *
  generalize hD' : N b = D at *
  clear hA' hD' ha hb h1 h2
  have hd1 : (A : Int) / (D : Int) ≤ A := by
    rw [← Int.natCast_ediv]; have := Nat.div_le_self A D; omega
  have hd0 : 0 ≤ (A : Int) / (D : Int) := Int.ediv_nonneg (by omega) (by omega)
  have hr1 : (A : Int) % (D : Int) ≤ A := by
    rw [← Int.natCast_emod]; have := Nat.mod_le A D; omega
  have hr0 : 0 ≤ (A : Int) % (D : Int) := Int.emod_nonneg _ (by omega)
  have hq := fun V => rOf_any ((A : Int) / (D : Int)) V (by omega) (by omega)
  have hr := fun V => rOf_any ((A : Int) % (D : Int)) V (by omega) (by omega)
  rw [← Int.natCast_ediv, Int.toNat_natCast, Int.natCast_ediv] at hq
  rw [← Int.natCast_emod, Int.toNat_natCast, Int.natCast_emod] at hr
  have HQ := hide hq
  have HR := hide hr
  clear hq hr
  have hD0 : 0 < D := Nat.pos_of_ne_zero h
  go_enter Tryz.func83, Tryz.ntmps83
  go_wp2_with fail
  refine (HTA.out).mono ?_
  rintro e w1 ⟨rfl, hw⟩
  subst hw
  go_wp2_with fail
  refine (HTB.out).mono ?_
  rintro e w1 ⟨rfl, hw⟩
  subst hw
  go_wp2_with fail
  refine (HSA.out _).mono ?_
  rintro e w2 ⟨rfl, hw⟩
  subst hw
  go_wp2_with fail
  refine (HSB.out _).mono ?_
  rintro e w2 ⟨rfl, hw⟩
  subst hw
  go_upto_region 8 with fail
  have hz : ¬ (D : Int) = 0 := by omega
  have hw1 : IntKind.i64.wrap ((A : Int) / (D : Int)) = (A : Int) / (D : Int) := by rw [IntKind.wrap_i64]; omega
  have hw2 : IntKind.i64.wrap ((A : Int) % (D : Int)) = (A : Int) % (D : Int) := by rw [IntKind.wrap_i64]; omega
  have hB0 := (Below.refl w2.heap.size w2).drew
  go_region_held3 (fun V => Hid (Below w2.heap.size w2 V))
    (first | exact hB4 | exact hB3 | exact hB0)
    (first
      | (have hb3' := hB3; go_at_call 50; refine (HR.out _).mono ?_; rintro e w4 ⟨rfl, hb4⟩; have hB4 := hb3'.trans (hb4.mono hb3'.size))
      | (go_at_call 50; refine (HQ.out _).mono ?_; rintro e w3 ⟨rfl, hb3⟩; have hB3 := hB0.trans (hb3.mono hB0.size)))
  go_wp2
  go_ret3
  exact ⟨rfl, hB4⟩
end Go.Proofs.YtncccbdledcibaaGreatDoor

/- The document's answer: NatDiv, byte by byte. -/
namespace Go.Proofs.YtncccbdledcibaaGreatDoor
open Go.RowKit

theorem HasB.cases {w : World} {base : Nat} {v : Value} {l : List Nat} (h : HasB w base v l) : (v = .slice none 0 0 ∧ l = []) ∨ ∃ g cap, v = .slice (some ⟨g, 0, none⟩) l.length cap ∧ ∀ j, j < l.length → w.cell? ⟨g, j, none⟩ = some (.int .u8 (l[j]?.getD 0 : Nat)) := by
  rcases h.2 with ⟨hv, hn⟩ | ⟨g, cap, cur, hv, r⟩
  · exact .inl ⟨hv, List.eq_nil_of_length_eq_zero hn⟩
  · subst hv
    refine .inr ⟨g, cap, rfl, fun j hj => ?_⟩
    rw [World.ownsRow.cellAt h j (by omega), List.getElem?_map, List.getElem?_eq_getElem hj]
    rfl

theorem div_fits {D R : Nat} {y : ByteArray} (hy : N y = D) (hR : R < 256 * D) (hs : y.size ≤ 500000) (d : Nat) : (B (R - d * D)).size ≤ 1000000 := by
  have h1 := sz_mono (Nat.le_trans (Nat.sub_le R (d * D)) (Nat.le_of_lt hR))
  have h2 := sz_mul 256 D
  have h3 := B_size_le y
  rw [hy] at h3
  have h4 : (B 256).size ≤ 2 := by rw [B_size]; exact bn_fits 2 256 (by decide)
  omega
theorem div_done {R D d : Nat} (hD : 0 < D) (h1 : d * D ≤ R) (h2 : ¬ D ≤ R - d * D) : R / D = d ∧ R % D = R - d * D := by
  have e : R = (R - d * D) + d * D := by omega
  constructor
  · rw [e, Nat.add_mul_div_right _ _ hD, Nat.div_eq_of_lt (by omega)]; omega
  · conv => lhs; rw [e]
    rw [Nat.add_mul_mod_self_right, Nat.mod_eq_of_lt (by omega)]

set_option maxRecDepth 100000 in
set_option maxHeartbeats 2000000 in
theorem rDiv_long (a b : ByteArray) (w : World) (ha : a.size ≤ 500000) (hb : b.size ≤ 500000) (h : N b ≠ 0) (hlong : ¬ ((B (N a)).size ≤ 7 ∧ (B (N b)).size ≤ 7)) :
    Calls Tryz.prog 83 #[.string a, .string b] w fun e w' => e = .returned (.tuple #[.string (B (N a / N b)), .string (B (N a % N b)), .bool true]) ∧ Below w.heap.size w w' := by
  obtain ⟨i0, hi, hz0, hz1, hz2⟩ := info_parts Tryz.infoByte
  have HTA := hide (rTrim_any a w (by omega))
  have HTB := hide (rTrim_any b w (by omega))
  have HNx : N (B (N a)) = N a := N_B _
  have HNy : N (B (N b)) = N b := N_B _
  have hne := B_full h
  have sa := Nat.le_trans (B_size_le a) ha
  have sb := Nat.le_trans (B_size_le b) hb
  generalize B (N a) = x at *
  generalize hy : B (N b) = y at *
  have HY0 := hide HNy
  have HX := hide (nb_take_all x)
  rw [HNx] at HX
  have hD0 : 0 < N b := Nat.pos_of_ne_zero h
  clear HNx HNy
  -- the two shorts: one of them says no
  have HSA := hide (fun (V : World) => if h7 : x.size ≤ 7 then Exists.intro (p := fun r : Value × Value => r.2 = .bool (decide (x.size ≤ 7)) ∧ Calls Tryz.prog 87 #[.string x] V fun e w' => e = .returned (.tuple #[r.1, r.2]) ∧ w' = V) (.int .i64 (N x : Nat), .bool true) ⟨by simp [h7], short_yes x V h7⟩ else ⟨(.int .i64 0, .bool false), by simp [h7], short_no x V (by omega) (by omega)⟩)
  have HSB := hide (fun (V : World) => if h7 : y.size ≤ 7 then Exists.intro (p := fun r : Value × Value => r.2 = .bool (decide (y.size ≤ 7)) ∧ Calls Tryz.prog 87 #[.string y] V fun e w' => e = .returned (.tuple #[r.1, r.2]) ∧ w' = V) (.int .i64 (N y : Nat), .bool true) ⟨by simp [h7], short_yes y V h7⟩ else ⟨(.int .i64 0, .bool false), by simp [h7], short_no y V (by omega) (by omega)⟩)
  generalize hA' : N a = A at *
  generalize hD' : N b = D at *
  clear hA' hD' ha hb hy
  go_enter Tryz.func83, Tryz.ntmps83
  go_wp2_with fail
  refine (HTA.out).mono ?_
  rintro e w1 ⟨rfl, hw⟩
  subst hw
  go_wp2_with fail
  refine (HTB.out).mono ?_
  rintro e w1 ⟨rfl, hw⟩
  subst hw
  clear HTA HTB
  obtain ⟨⟨p1, p2⟩, hp2, HC1⟩ := HSA.out w1
  obtain ⟨⟨q1, q2⟩, hq2, HC2⟩ := HSB.out w1
  simp only at hp2 hq2
  subst hp2 hq2
  have HC1' := hide HC1
  have HC2' := hide HC2
  clear HC1 HC2 HSA HSB
  have hboth : (decide (x.size ≤ 7) = false) ∨ (decide (x.size ≤ 7) = true ∧ decide (y.size ≤ 7) = false) := by
    by_cases h7 : x.size ≤ 7
    · exact .inr ⟨decide_eq_true h7, decide_eq_false fun h8 => hlong ⟨h7, h8⟩⟩
    · exact .inl (decide_eq_false h7)
  clear hlong
  generalize decide (x.size ≤ 7) = t1 at *
  generalize decide (y.size ≤ 7) = t2 at *
  go_wp2_with fail
  refine (HC1'.out).mono ?_
  rintro e w2 ⟨rfl, hw⟩
  subst hw
  go_wp2_with fail
  refine (HC2'.out).mono ?_
  rintro e w2 ⟨rfl, hw⟩
  subst hw
  clear HC1' HC2'
  rcases hboth with rfl | ⟨rfl, rfl⟩
  all_goals
    go_wp2
    go_loopw [11, 12, 13] (fun qv rv iv wr => ∃ (k : Nat) (ql : List Nat), k ≤ x.size ∧ iv = .int .i64 k ∧ rv = .string (B (nb (x.data.toList.take k) % D)) ∧ ql.length = k ∧ Hid (Dig ql) ∧ Hid (qn ql = nb (x.data.toList.take k) / D) ∧ Hid (HasB wr w2.heap.size qv ql) ∧ Below w2.heap.size w2 wr)
      (fun _ _ i _ => x.size - (intOf i).toNat)
    case atStart => exact ⟨0, [], Nat.zero_le _, rfl, (by rw [List.take_zero, nb_nil, Nat.zero_mod, B_zero]), rfl, (fun x hx => by cases hx), (show _ = _ by rw [List.take_zero, nb_nil, Nat.zero_div]; rfl), World.ownsRow_nil _ _ _ _, Below.refl _ _⟩
    case round =>
      obtain ⟨k, ql, hk, rfl, rfl, hql, HDg, HE, HH, hBr⟩ := hrel
      by_cases hlt : k < x.size
      · have hsz := one_size x k hlt
        have hn1 := N_one (B (nb (x.data.toList.take k) % D)) x k hlt
        rw [N_B] at hn1
        have hst := nb_take_succ x k hlt
        obtain ⟨hdn1, hdn2⟩ := div_next (P := nb (x.data.toList.take k)) (D := D) (c := x[k].toNat) hD0
        rw [← hst] at hdn1 hdn2
        have hrl : nb (x.data.toList.take k) % D < D := Nat.mod_lt _ hD0
        have hcl := x[k].toNat_lt
        have hsr : (B (nb (x.data.toList.take k) % D)).size ≤ 500000 := Nat.le_trans (sz_mono (Nat.le_of_lt hrl)) (by have := B_size_le y; rw [HY0.out] at this; omega)
        have HQ1 : Hid (nb (x.data.toList.take (k + 1)) / D = qn ql * 256 + (nb (x.data.toList.take k) % D * 256 + x[k].toNat) / D) := by show _ = _; rw [hdn1, HE.out]
        have HR1 := hide hdn2
        have hR : nb (x.data.toList.take k) % D * 256 + x[k].toNat < 256 * D := by omega
        clear hst hdn1 hdn2 HE hcl hrl
        generalize nb (x.data.toList.take k) % D * 256 + x[k].toNat = R at *
        generalize B (nb (x.data.toList.take k) % D) = rs at *
        have hcat : (rs ++ x.extract k (k + 1)).size ≤ 1000001 := by rw [ByteArray.size_append, hsz]; omega
        have HT := hide (fun V => rTrim_any (rs ++ x.extract k (k + 1)) V (by omega))
        rw [hn1] at HT
        clear hn1 hcat
        have HSY := hide (fun (d : Nat) (V : World) (h1 : d * D ≤ R) (h2 : D ≤ R - d * D) => by
          have hs := rSub_yes (B (R - d * D)) y V (div_fits HY0.out hR sb d) (by omega) (by rw [N_B, HY0.out]; exact h2)
          rw [N_B, HY0.out, show R - d * D - D = R - (d + 1) * D by rw [Nat.add_mul, Nat.one_mul]; omega] at hs
          exact hs)
        have HSN := hide (fun (d : Nat) (V : World) (h2 : ¬ D ≤ R - d * D) => rSub_no (B (R - d * D)) y V (div_fits HY0.out hR sb d) (by omega) (by rw [N_B, HY0.out]; omega))
        go_wp2_with (go_at_call 82; refine (HT.out _).mono ?_; rintro e w3 ⟨rfl, hw3⟩; subst hw3)
        clear HT
        go_loopw [12, 14] (fun rv dv wi => ∃ d : Nat, d * D ≤ R ∧ rv = .string (B (R - d * D)) ∧ dv = .int .i64 d ∧ Below w3.heap.size w3 wi) (fun _ dv _ => 256 - (intOf dv).toNat)
        case atStart => exact ⟨0, by omega, by rw [Nat.zero_mul, Nat.sub_zero], rfl, Below.refl _ _⟩
        case round =>
          obtain ⟨d, hd, rfl, rfl, hBi⟩ := hrel
          have hd256 : d < 256 := by
            rcases Nat.lt_or_ge d 256 with h1 | h1
            · exact h1
            · have := Nat.mul_le_mul_right D h1
              omega
          by_cases hle : D ≤ R - d * D
          · have hd2 : (d + 1) * D ≤ R := by rw [Nat.add_mul, Nat.one_mul]; omega
            have HC := hide (fun V => HSY.out d V hd hle)
            clear hd hle
            go_wp2_with fail
            refine (HC.out _).mono ?_
            rintro e w4 ⟨rfl, hb4⟩
            go_wp2
            go_roundw
            case rel => exact ⟨d + 1, hd2, rfl, by go_num, hBi.trans (hb4.mono hBi.size)⟩
            case measure => simp [intOf]; omega
          · have HC := hide (fun V => HSN.out d V hle)
            obtain ⟨hq, hr⟩ := div_done hD0 hd hle
            have HQ2 : Hid (qn (ql ++ [d]) = nb (x.data.toList.take (k + 1)) / D) := by show _ = _; rw [qn_snoc, HQ1.out, hq]
            have HR2 : Hid (R - d * D = nb (x.data.toList.take (k + 1)) % D) := by show _ = _; rw [HR1.out, hr]
            clear hq hr hd hle HSY HSN HR1 HQ1
            go_wp2_with fail
            refine (HC.out _).mono ?_
            rintro e w4 ⟨rfl, hb4⟩
            have HH4 : HasB w4 w2.heap.size _ ql := own_below (own_below HH.out hBi (Nat.le_refl _)) hb4 (Nat.le_refl _)
            have hB4 := (hBr.trans (hBi.mono hBr.size)).trans (hb4.mono (hBr.trans (hBi.mono hBr.size)).size)
            have hs4 := hB4.size
            rw [HR2.out]
            clear HR2 HC
            go_wp2_with (at_builtin; refine wpList_append_own _ rfl _ _ 107 rfl w2.heap.size 5 i0 (.int .u8 0) 1 1 Tryz.underlying107 hi hz0 hz1 hz2 rfl (by decide) _ _ _ rfl (World.ownsRow.alloc HH4 _) ⟨w4.heap.size, 0, none⟩ 1 1 [.int .u8 (d : Nat)] rfl rfl (cell_one_new _ _ _) (by simp [Value.oneCell']) (by unfold maxLen; omega) (by omega) (by simp; omega) ?_; intro v' w5 hown5 hgrow5 _)
            have hB5 : Below w2.heap.size w2 w5 := (hB4.alloc hB4.size _).grown hgrow5 (by simp; omega) (fun k hk => (World.ownsRow.lt HH4 k hk).1)
            go_wp2
            go_roundw
            case rel =>
              refine ⟨k + 1, ql ++ [d], by omega, by go_num, rfl, by rw [List.length_append, hql]; rfl, dig_snoc HDg.out hd256, HQ2.out, ?_, hB5⟩
              have e : (ql ++ [d]).length = ql.length + 1 := by simp
              show HasB _ _ _ _
              rw [HasB, e]
              simpa [bv] using hown5
            case measure => simp [intOf]; omega
      · obtain rfl : k = x.size := by omega
        rw [HX.out] at HE ⊢
        have hnq := N_qn ql HDg.out
        rw [HE.out] at hnq
        rcases HH.out.cases with ⟨rfl, rfl⟩ | ⟨g, cap, rfl, hcs⟩
        · have HT := hide (fun V => rTrim_any ⟨#[]⟩ V (by show 0 ≤ _; omega))
          have hnq' : N ⟨#[]⟩ = A / D := hnq
          rw [hnq'] at HT
          have hconv := run_convert_bytes_nil (P := Tryz.prog) wr 107 5 Tryz.underlying107 Tryz.underlying5 0 0 35 Tryz.underlying35
          rw [show ByteArray.empty = ⟨#[]⟩ from rfl] at hconv
          clear hnq hnq' HH HDg HE hql
          go_wp2_with (go_at_call 82; refine (HT.out _).mono ?_; rintro e w3 ⟨rfl, hw3⟩; subst hw3)
          go_ret3
          exact ⟨rfl, hBr⟩
        · have hmap : (ql.map Int.ofNat).length = ql.length := by simp
          have hcm : ∀ i, i < ql.length → wr.cell? ⟨g, 0 + i, none⟩ = some (.int .u8 ((ql.map Int.ofNat).getD i 0)) := fun i hi => by
            rw [Nat.zero_add, hcs i hi]
            simp [List.getD_eq_getElem?_getD, List.getElem?_eq_getElem hi]
          have hconv := run_convert_bytes_arg (P := Tryz.prog) wr 107 5 Tryz.underlying107 Tryz.underlying5 g 0 ql.length cap (ql.map Int.ofNat) hmap hcm 35 Tryz.underlying35
          have hsz : (strOfNums (ql.map Int.ofNat)).size ≤ 140737488355328 := by
            rw [strOfNums_size, hmap]
            omega
          clear hmap hql
          have HT := hide (fun V => rTrim_any (strOfNums (ql.map Int.ofNat)) V hsz)
          rw [hnq] at HT
          clear hnq HH HDg HE hcs hcm
          go_wp2_with (go_at_call 82; refine (HT.out _).mono ?_; rintro e w3 ⟨rfl, hw3⟩; subst hw3)
          go_ret3
          exact ⟨rfl, hBr⟩

theorem rDiv_any (a b : ByteArray) (w : World) (ha : a.size ≤ 500000) (hb : b.size ≤ 500000) (h : N b ≠ 0) :
    Calls Tryz.prog 83 #[.string a, .string b] w fun e w' => e = .returned (.tuple #[.string (B (N a / N b)), .string (B (N a % N b)), .bool true]) ∧ Below w.heap.size w w' := by
  by_cases hs : (B (N a)).size ≤ 7 ∧ (B (N b)).size ≤ 7
  · exact rDiv_small a b w (by omega) (by omega) h hs.1 hs.2
  · exact rDiv_long a b w ha hb h hs
theorem rDiv_B (m n : Nat) (w : World) (hm : (B m).size ≤ 500000) (hn : (B n).size ≤ 500000) (h : n ≠ 0) :
    Calls Tryz.prog 83 #[.string (B m), .string (B n)] w fun e w' => e = .returned (.tuple #[.string (B (m / n)), .string (B (m % n)), .bool true]) ∧ Below w.heap.size w w' := by
  have := rDiv_any (B m) (B n) w hm hn (by rw [N_B]; exact h)
  rwa [N_B, N_B] at this

set_option maxRecDepth 100000 in
set_option maxHeartbeats 1000000 in
theorem rGcd_any (a b : ByteArray) (w : World) (ha : a.size ≤ 500000) (hb : b.size ≤ 500000) :
    Calls Tryz.prog 88 #[.string a, .string b] w fun e w' => e = .returned (.string (B (Nat.gcd (N a) (N b)))) ∧ Below w.heap.size w w' := by
  have HTA := hide (rTrim_any a w (by omega))
  have HTB := hide (rTrim_any b w (by omega))
  have sa := Nat.le_trans (B_size_le a) ha
  have sb := Nat.le_trans (B_size_le b) hb
  generalize hA' : N a = A at *
  generalize hD' : N b = D at *
  clear hA' hD' ha hb
  go_enter Tryz.func88, Tryz.ntmps88
  go_wp2_with fail
  refine (HTA.out).mono ?_
  rintro e w1 ⟨rfl, hw⟩
  subst hw
  go_wp2_with fail
  refine (HTB.out).mono ?_
  rintro e w1 ⟨rfl, hw⟩
  subst hw
  clear HTA HTB
  go_wp2
  go_loopg [0, 1] D (fun r vx vy wr => ∃ m : Nat, vx = .string (B m) ∧ vy = .string (B r) ∧ (B m).size ≤ 500000 ∧ (B r).size ≤ 500000 ∧ Hid (Nat.gcd m r = Nat.gcd A D) ∧ Below w1.heap.size w1 wr)
  case atStart => exact ⟨A, rfl, rfl, sa, sb, rfl, Below.refl _ _⟩
  case round =>
    obtain ⟨m, rfl, rfl, hm, hr, HG, hBr⟩ := hrel
    by_cases h0 : gk = 0
    · subst h0
      rw [B_zero]
      have HE : Hid (m = Nat.gcd A D) := by show _ = _; rw [← HG.out, Nat.gcd_zero_right]
      go_wp2
      go_ret
      exact ⟨by rw [← HE.out]; rfl, hBr⟩
    · have hne := B_full h0
      have HD := hide (fun V => rDiv_B m gk V hm hr h0)
      have hmod := Nat.mod_lt m (Nat.pos_of_ne_zero h0)
      have hsz := Nat.le_trans (sz_mono (Nat.le_of_lt hmod)) hr
      have HG2 : Hid (Nat.gcd gk (m % gk) = Nat.gcd A D) := by show _ = _; rw [← HG.out, Nat.gcd_comm m gk, Nat.gcd_rec gk m, Nat.gcd_comm]
      go_wp2_with fail
      refine (HD.out _).mono ?_
      rintro e w2 ⟨rfl, hb2⟩
      go_wp2
      go_roundg (m % gk)
      case measure => exact hmod
      case rel => exact ⟨gk, rfl, rfl, hr, hsz, HG2.out, hBr.trans (hb2.mono hBr.size)⟩
end Go.Proofs.YtncccbdledcibaaGreatDoor

/- Plain facts on rational numbers: how fractions of natural numbers stand for them, and how long they are. -/
namespace Go.Proofs.YtncccbdledcibaaGreatDoor

/-- A number with its sign. -/
def sg (neg : Bool) (n : Nat) : Int := if neg then -(n : Int) else (n : Int)
theorem sg_natAbs (neg : Bool) (n : Nat) : (sg neg n).natAbs = n := by cases neg <;> simp [sg]
theorem sg_zero (neg : Bool) : sg neg 0 = 0 := by cases neg <;> rfl
theorem sg_not (neg : Bool) (n : Nat) : sg (!neg) n = -sg neg n := by cases neg <;> simp [sg]
theorem sg_mul (a b : Bool) (m n : Nat) : sg (a != b) (m * n) = sg a m * sg b n := by cases a <;> cases b <;> simp [sg, Int.neg_mul, Int.mul_neg]
theorem sg_mul_nat (a : Bool) (m n : Nat) : sg a m * (n : Int) = sg a (m * n) := by cases a <;> simp [sg, Int.neg_mul]
theorem sg_eq_zero {neg : Bool} {n : Nat} : sg neg n = 0 ↔ n = 0 := by cases neg <;> simp [sg]
theorem sg_div (neg : Bool) (n g : Nat) (h : g ∣ n) : sg neg n / (g : Int) = sg neg (n / g) := by
  cases neg
  · simp [sg]
  · simp only [sg, if_true]
    rw [Int.neg_ediv_of_dvd (Int.natCast_dvd_natCast.2 h)]
    simp

theorem mk_norm {n : Int} {d : Nat} (hd : d ≠ 0) : mkRat n d = Rat.normalize n d hd := by rw [mkRat, dif_neg hd]
theorem mk_num {n : Int} {d : Nat} (hd : d ≠ 0) : (mkRat n d).num = n / (Nat.gcd n.natAbs d : Int) := by rw [mk_norm hd, Rat.normalize_eq]
theorem mk_den {n : Int} {d : Nat} (hd : d ≠ 0) : (mkRat n d).den = d / Nat.gcd n.natAbs d := by rw [mk_norm hd, Rat.normalize_eq]

/-- What Make makes of a number that is not 0. -/
theorem mk_parts (neg : Bool) (a d : Nat) (ha : a ≠ 0) (hd : d ≠ 0) : decide ((mkRat (sg neg a) d).num < 0) = neg ∧ (mkRat (sg neg a) d).num.natAbs = a / Nat.gcd a d ∧ (mkRat (sg neg a) d).den = d / Nat.gcd a d := by
  have hg : Nat.gcd a d ∣ a := Nat.gcd_dvd_left _ _
  have hgp : 0 < Nat.gcd a d := Nat.gcd_pos_of_pos_left _ (Nat.pos_of_ne_zero ha)
  rw [mk_num hd, mk_den hd, sg_natAbs, sg_div neg a _ hg, sg_natAbs]
  refine ⟨?_, rfl, rfl⟩
  have hq : 0 < a / Nat.gcd a d := Nat.div_pos (Nat.le_of_dvd (Nat.pos_of_ne_zero ha) hg) hgp
  cases neg
  · simp only [sg]; simp; omega
  · simp only [sg]; simp; omega

/-- The fraction of three fields, as a rational number: 0 where the denominator is 0. -/
def val (neg : Bool) (num den : ByteArray) : Rat := mkRat (sg neg (N num)) (N den)
theorem val_num0 {neg : Bool} {num den : ByteArray} (h : N num = 0) : val neg num den = 0 := by rw [val, h, sg_zero, Rat.zero_mkRat]
theorem val_den0 {neg : Bool} {num den : ByteArray} (h : N den = 0) : val neg num den = 0 := by rw [val, h, Rat.mkRat_zero]
theorem val_zero_iff {neg : Bool} {num den : ByteArray} : val neg num den = 0 ↔ N num = 0 ∨ N den = 0 := by
  constructor
  · intro h
    by_cases hd : N den = 0
    · exact .inr hd
    · rw [val, Rat.mkRat_eq_zero hd, sg_eq_zero] at h; exact .inl h
  · rintro (h | h)
    · exact val_num0 h
    · exact val_den0 h
theorem val_not (neg : Bool) (num den : ByteArray) : val (!neg) num den = -val neg num den := by rw [val, val, sg_not, Rat.neg_mkRat]
theorem val_mul (a b : Bool) (x y u v : ByteArray) : mkRat (sg (a != b) (N x * N u)) (N y * N v) = val a x y * val b u v := by rw [val, val, Rat.mkRat_mul_mkRat, sg_mul]
theorem val_add (a b : Bool) (x y u v : ByteArray) (hy : N y ≠ 0) (hv : N v ≠ 0) : mkRat (sg a (N x * N v) + sg b (N u * N y)) (N y * N v) = val a x y + val b u v := by
  rw [val, val, Rat.mkRat_add_mkRat _ _ hy hv, sg_mul_nat, sg_mul_nat]
theorem val_inv (neg : Bool) (x y : ByteArray) (hx : N x ≠ 0) (hy : N y ≠ 0) : val neg y x = (val neg x y)⁻¹ := by
  have h : val neg x y * val neg y x = 1 := by
    rw [← val_mul]
    have : sg (neg != neg) (N x * N y) = ((N x * N y : Nat) : Int) * 1 := by cases neg <;> simp [sg]
    rw [this, Nat.mul_comm (N y) (N x), ← Nat.mul_one (N x * N y), Int.natCast_mul (N x * N y) 1, Int.natCast_one, Int.mul_one, Rat.mkRat_mul_left (Nat.mul_ne_zero hx hy)]
    rfl
  grind

/-- A rational number's fields, as package frac writes them. -/
def C (q : Rat) : Value := .agg #[.bool (decide (q.num < 0)), .string (B q.num.natAbs), .string (B q.den)]
theorem C_zero : C 0 = .agg #[.bool false, .string ⟨#[]⟩, .string (B 1)] := by
  show Value.agg #[_, .string (B 0), .string (B 1)] = _
  rw [B_zero]
  rfl
theorem val_C (q : Rat) : val (decide (q.num < 0)) (B q.num.natAbs) (B q.den) = q := by
  rw [val, N_B, N_B]
  have : sg (decide (q.num < 0)) q.num.natAbs = q.num := by
    by_cases h : q.num < 0
    · simp [sg, h]; omega
    · simp [sg, h]; omega
  rw [this, Rat.mkRat_self]
theorem C_make (neg : Bool) (a d : Nat) (ha : a ≠ 0) (hd : d ≠ 0) : C (mkRat (sg neg a) d) = .agg #[.bool neg, .string (B (a / Nat.gcd a d)), .string (B (d / Nat.gcd a d))] := by
  obtain ⟨h1, h2, h3⟩ := mk_parts neg a d ha hd
  rw [C, h1, h2, h3]
theorem C_inj {p q : Rat} (h : C p = C q) : p = q := by
  have h1 := val_C p
  have h2 := val_C q
  simp only [C, Value.agg.injEq, Array.mk.injEq, List.cons.injEq, Value.bool.injEq, Value.string.injEq] at h
  rw [h.1, h.2.1, h.2.2.1] at h1
  exact h1.symm.trans h2

/-- How many bytes a rational number's fields have. -/
def qw (q : Rat) : Nat := (B q.num.natAbs).size + (B q.den).size
theorem qw_norm {n : Int} {d : Nat} (hd : d ≠ 0) : qw (Rat.normalize n d hd) ≤ (B n.natAbs).size + (B d).size := by
  rw [Rat.normalize_eq]
  have h1 : (n / (Nat.gcd n.natAbs d : Int)).natAbs ≤ n.natAbs := by
    have hg : ((Nat.gcd n.natAbs d : Nat) : Int) ∣ n := by have h := Int.natCast_dvd_natCast.2 (Nat.gcd_dvd_left n.natAbs d); rwa [Int.dvd_natAbs] at h
    rw [Int.natAbs_ediv_of_dvd hg]
    exact Nat.div_le_self _ _
  have s1 := sz_mono h1
  have s2 := sz_mono (Nat.div_le_self d (Nat.gcd n.natAbs d))
  simp only [qw]
  omega
theorem qw_zero : qw 0 ≤ 1 := by
  show (B 0).size + (B 1).size ≤ 1
  rw [B_zero]
  have := B_one_size
  have : (⟨#[]⟩ : ByteArray).size = 0 := rfl
  omega
theorem qw_val (neg : Bool) (num den : ByteArray) : qw (val neg num den) ≤ num.size + den.size + 1 := by
  by_cases hd : N den = 0
  · rw [val_den0 hd]; have := qw_zero; omega
  · rw [val, mk_norm hd]
    have := qw_norm (n := sg neg (N num)) hd
    rw [sg_natAbs] at this
    have := B_size_le num
    have := B_size_le den
    omega
theorem qw_mul (p q : Rat) : qw (p * q) ≤ qw p + qw q := by
  rw [Rat.mul_def]
  refine Nat.le_trans (qw_norm _) ?_
  rw [Int.natAbs_mul]
  have := sz_mul p.num.natAbs q.num.natAbs
  have := sz_mul p.den q.den
  simp only [qw]
  omega
theorem qw_add (p q : Rat) : qw (p + q) ≤ 2 * (qw p + qw q) + 1 := by
  rw [Rat.add_def]
  refine Nat.le_trans (qw_norm _) ?_
  have h : (p.num * (q.den : Int) + q.num * (p.den : Int)).natAbs ≤ p.num.natAbs * q.den + q.num.natAbs * p.den := by
    refine Nat.le_trans (Int.natAbs_add_le _ _) ?_
    rw [Int.natAbs_mul, Int.natAbs_mul]
    exact Nat.le_refl _
  have h0 := sz_mono h
  have h1 := sz_add (p.num.natAbs * q.den) (q.num.natAbs * p.den)
  have h2 := sz_mul p.num.natAbs q.den
  have h3 := sz_mul q.num.natAbs p.den
  have h4 := sz_mul p.den q.den
  simp only [qw]
  omega
theorem qw_neg (q : Rat) : qw (-q) = qw q := by simp [qw, Rat.neg_num, Rat.neg_den]
theorem qw_sub (p q : Rat) : qw (p - q) ≤ 2 * (qw p + qw q) + 1 := by
  rw [Rat.sub_eq_add_neg]
  have := qw_add p (-q)
  rwa [qw_neg] at this

/-- -1, 0 or 1: less, the same, greater. -/
def cmpQ (p q : Rat) : Int := if p < q then -1 else if p = q then 0 else 1
theorem mk_sign (neg : Bool) (n d : Nat) (hd : d ≠ 0) (hn : n ≠ 0) : (neg = true → mkRat (sg neg n) d < 0) ∧ (neg = false → 0 < mkRat (sg neg n) d) := by
  have hp : ∀ m : Nat, m ≠ 0 → 0 < mkRat (m : Int) d := fun m hm => by
    have h1 : 0 ≤ mkRat (m : Int) d := by
      rw [← Rat.num_nonneg, mk_num hd]
      exact Int.ediv_nonneg (by omega) (by omega)
    have h2 : mkRat (m : Int) d ≠ 0 := by rw [Ne, Rat.mkRat_eq_zero hd]; omega
    grind
  constructor
  · rintro rfl
    have h := hp n hn
    have e : mkRat (sg true n) d = -mkRat (n : Int) d := by rw [Rat.neg_mkRat]; rfl
    rw [e]
    grind
  · rintro rfl
    exact hp n hn
end Go.Proofs.YtncccbdledcibaaGreatDoor
