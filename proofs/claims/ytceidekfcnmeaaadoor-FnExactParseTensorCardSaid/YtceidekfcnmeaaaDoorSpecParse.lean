
/- spec.ParseInt: the int whose numeral s is, or (0, false): for every string of at most 2^48 bytes. -/
import Derived.Test.YtceidekfcnmeaaaDoorFmt
import Derived.Test.YtceidekfcnmeaaaDoorOpen
import Derived.Lib.Strings
namespace Go.Proofs.YtceidekfcnmeaaaDoor
set_option maxRecDepth 20000
open Go.RowKit

theorem byte_le (c : UInt8) : c.toNat ≤ 255 := by have := c.toNat_lt; omega
theorem take_snoc (s : ByteArray) (k : Nat) (h : k < s.size) : s.data.toList.take (k + 1) = s.data.toList.take k ++ [s[k]] := by
  rw [List.take_succ_eq_append_getElem (by simpa using h)]; rfl
theorem num_take {T : ByteArray} {k x : Nat} (h : k < T.size) (hx : num 0 (T.data.toList.take k) = x) : num 0 (T.data.toList.take (k + 1)) = x * 10 + (T[k].toNat - 48) := by
  rw [take_snoc T k h, num_snoc, hx]
theorem get_mem (T : ByteArray) (k : Nat) (h : k < T.size) : T[k] ∈ T.data.toList := by
  have : T[k] = T.data.toList[k]'(by simpa using h) := by simp [ByteArray.getElem_eq_getElem_data]
  rw [this]; exact List.getElem_mem _
theorem guard_over {x d : Nat} (hd : d ≤ 9) (h : -(x : Int) < (-9223372036854775808 + (d : Int)).tdiv 10) : 9223372036854775808 < x * 10 + d := by
  rw [tdiv10 (by omega)] at h; omega
theorem guard_fits {x d : Nat} (hd : d ≤ 9) (h : ¬ -(x : Int) < (-9223372036854775808 + (d : Int)).tdiv 10) : x * 10 + d ≤ 9223372036854775808 := by
  rw [tdiv10 (by omega)] at h; omega
theorem dig_sub {c : UInt8} (h : 48 ≤ c.toNat) : ((c.toNat : Int) - 48) = ((c.toNat - 48 : Nat) : Int) := by omega
theorem signed_neg {s T : ByteArray} (h0 : 0 < s.size) (h45 : s[0].toNat = 45) (hT : s.extract 1 s.size = T) : Signed true s.data.toList T.data.toList := by
  show s.data.toList = 45 :: T.data.toList
  rw [← hT, Lib.extract_data]
  have hlen : s.data.toList.length = s.size := by simp
  have h1 : s.data.toList.drop 0 = s[0] :: s.data.toList.drop 1 := by
    rw [List.drop_eq_getElem_cons (by omega)]
    simp [ByteArray.getElem_eq_getElem_data]
  have e : s[0] = 45 := UInt8.toNat_inj.1 h45
  rw [List.drop_zero, e] at h1
  have h2 : (s.data.toList.drop 1).take (s.size - 1) = s.data.toList.drop 1 := List.take_of_length_le (by rw [List.length_drop]; omega)
  rw [h2]
  exact h1
theorem signed_pos {s : ByteArray} (h45 : ∀ h : 0 < s.size, s[0].toNat ≠ 45) : Signed false s.data.toList s.data.toList := by
  refine ⟨rfl, ?_⟩
  intro h
  have hlen : s.data.toList.length = s.size := by simp
  cases hl : s.data.toList with
  | nil => rw [hl] at h; simp at h
  | cons c r =>
    rw [hl] at h hlen
    simp at h hlen
    have h0 : 0 < s.size := by omega
    have : s[0] = c := by
      have : s[0] = s.data.toList[0]'(by rw [hl]; simp) := by simp [ByteArray.getElem_eq_getElem_data]
      rw [this]; simp [hl]
    exact h45 h0 (by rw [this, h]; rfl)

set_option maxHeartbeats 400000 in
theorem spec_parse_neg (s T : ByteArray) (w : World) (h0 : 0 < s.size) (h45 : s[0].toNat = 45) (hs : s.size ≤ 20) (h1 : 2 ≤ s.size) (hT : s.extract 1 s.size = T) :
    Calls Tryd.prog 55 #[.string s] w fun e w' => ParseEnd s.data.toList e ∧ Below w.heap.size w w' := by
  have hS := Lib.hid (signed_neg h0 h45 hT)
  have hT2 : s.size - 1 = T.size := by rw [← hT]; simp
  have hTs : T.size ≤ 19 := by omega
  have H2 := Lib.hid hT2
  have HT := Lib.hid hT
  clear hT hT2
  go_enter Tryd.func55, Tryd.ntmps55
  go_wp2
  rw [HT.out, H2.out]
  go_loop [6, 7] (fun n i => ∃ k x : Nat, k ≤ T.size ∧ x ≤ 9223372036854775808 ∧ Hid (num 0 (T.data.toList.take k) = x) ∧ i = .int .i64 k ∧ n = .int .i64 (-(x : Int))) (fun _ i => T.size - (intOf i).toNat)
  case atStart => exact ⟨0, 0, by omega, by omega, rfl, rfl, rfl⟩
  case round =>
    obtain ⟨k, x, hk, hx, HX, rfl, rfl⟩ := hrel
    clear h45 h0 hs h1
    by_cases hlt : k < T.size
    · have hb := byte_le T[k]
      by_cases hd : 48 ≤ T[k].toNat
      · by_cases hd2 : T[k].toNat ≤ 57
        · by_cases hg : -(x : Int) < (-9223372036854775808 + ((T[k].toNat : Int) - 48)).tdiv 10
          · go_wp2
            go_ret2
            rw [dig_sub hd] at hg
            exact ⟨.inr ⟨end_over (k := k + 1) hS.out (by rw [num_take hlt HX.out]; exact guard_over (by omega) hg), rfl⟩, Below.refl _ _⟩
          · have hg2 := hg
            rw [dig_sub hd] at hg2
            have hf := guard_fits (by omega) hg2
            clear hg2
            have hf2 : (x : Int) * 10 + ((T[k].toNat : Int) - 48) ≤ 9223372036854775808 := by omega
            have HF := Lib.hid hf
            clear hf
            go_wp2
            go_round
            case rel => exact ⟨k + 1, x * 10 + (T[k].toNat - 48), by omega, HF.out, num_take hlt HX.out, by go_num, by rw [show (-(x : Int)) * 10 - ((T[k].toNat : Int) - 48) = -((x * 10 + (T[k].toNat - 48) : Nat) : Int) from by omega]⟩
            case measure => simp [intOf]; omega
        · go_wp2
          go_ret2
          exact ⟨.inr ⟨end_digit hS.out (get_mem T k hlt) (by omega), rfl⟩, Below.refl _ _⟩
      · go_wp2
        go_ret2
        exact ⟨.inr ⟨end_digit hS.out (get_mem T k hlt) (by omega), rfl⟩, Below.refl _ _⟩
    · obtain rfl : k = T.size := by omega
      have hval : value true T.data.toList = -(x : Int) := by
        have := HX.out
        rw [List.take_of_length_le (by simp)] at this
        unfold value; rw [this]; rfl
      have HV := Lib.hid hval
      clear hval
      go_wp2_with fail
      refine (fmt_any (-(x : Int)) w (by omega) (by omega)).mono ?_
      rintro e w1 ⟨rfl, hb⟩
      by_cases hq : (Lib.itoa (-(x : Int)) == s.toList) = true
      · go_wp2
        go_ret2
        exact ⟨.inl ⟨-(x : Int), ⟨by omega, by omega⟩, by rw [beq_iff_eq, ByteArray.toList_eq] at hq; exact hq.symm, rfl⟩, hb⟩
      · have hq' : (Lib.itoa (-(x : Int)) == s.toList) = false := by simpa using hq
        clear hq
        go_wp2
        go_ret2
        exact ⟨.inr ⟨end_other hS.out (by rw [HV.out]; rw [beq_eq_false_iff_ne, ByteArray.toList_eq] at hq'; exact hq'), rfl⟩, hb⟩
set_option maxHeartbeats 400000 in
theorem spec_parse_pos (T : ByteArray) (w : World) (h0 : 0 < T.size) (h45 : T[0].toNat ≠ 45) (hTs : T.size ≤ 19) :
    Calls Tryd.prog 55 #[.string T] w fun e w' => ParseEnd T.data.toList e ∧ Below w.heap.size w w' := by
  have hS := Lib.hid (signed_pos (s := T) (fun _ => h45))
  go_enter Tryd.func55, Tryd.ntmps55
  go_wp2
  go_loop [6, 7] (fun n i => ∃ k x : Nat, k ≤ T.size ∧ x ≤ 9223372036854775808 ∧ Hid (num 0 (T.data.toList.take k) = x) ∧ i = .int .i64 k ∧ n = .int .i64 (-(x : Int))) (fun _ i => T.size - (intOf i).toNat)
  case atStart => exact ⟨0, 0, by omega, by omega, rfl, rfl, rfl⟩
  case round =>
    obtain ⟨k, x, hk, hx, HX, rfl, rfl⟩ := hrel
    by_cases hlt : k < T.size
    · have hb := byte_le T[k]
      by_cases hd : 48 ≤ T[k].toNat
      · by_cases hd2 : T[k].toNat ≤ 57
        · by_cases hg : -(x : Int) < (-9223372036854775808 + ((T[k].toNat : Int) - 48)).tdiv 10
          · go_wp2
            go_ret2
            rw [dig_sub hd] at hg
            exact ⟨.inr ⟨end_over (k := k + 1) hS.out (by rw [num_take hlt HX.out]; exact guard_over (by omega) hg), rfl⟩, Below.refl _ _⟩
          · have hg2 := hg
            rw [dig_sub hd] at hg2
            have hf := guard_fits (by omega) hg2
            clear hg2
            have hf2 : (x : Int) * 10 + ((T[k].toNat : Int) - 48) ≤ 9223372036854775808 := by omega
            have HF := Lib.hid hf
            clear hf
            go_wp2
            go_round
            case rel => exact ⟨k + 1, x * 10 + (T[k].toNat - 48), by omega, HF.out, num_take hlt HX.out, by go_num, by rw [show (-(x : Int)) * 10 - ((T[k].toNat : Int) - 48) = -((x * 10 + (T[k].toNat - 48) : Nat) : Int) from by omega]⟩
            case measure => simp [intOf]; omega
        · go_wp2
          go_ret2
          exact ⟨.inr ⟨end_digit hS.out (get_mem T k hlt) (by omega), rfl⟩, Below.refl _ _⟩
      · go_wp2
        go_ret2
        exact ⟨.inr ⟨end_digit hS.out (get_mem T k hlt) (by omega), rfl⟩, Below.refl _ _⟩
    · obtain rfl : k = T.size := by omega
      by_cases hx8 : x = 9223372036854775808
      · have hN : Hid (num 0 T.data.toList = x) := by
          have := HX.out
          rw [List.take_of_length_le (by simp)] at this
          exact this
        have hge : 9223372036854775808 ≤ x := by omega
        have H8 := Lib.hid hx8
        clear hx8
        go_wp2
        go_ret2
        exact ⟨.inr ⟨end_min hS.out (hN.out.trans H8.out), rfl⟩, Below.refl _ _⟩
      have hlt8 : x ≤ 9223372036854775807 := by omega
      have hval : value false T.data.toList = (x : Int) := by
        have := HX.out
        rw [List.take_of_length_le (by simp)] at this
        unfold value; rw [this]; rfl
      have HV := Lib.hid hval
      clear hval hx8
      go_wp2_with fail
      refine (fmt_any (x : Int) w (by omega) (by omega)).mono ?_
      rintro e w1 ⟨rfl, hb⟩
      by_cases hq : (Lib.itoa (x : Int) == T.toList) = true
      · go_wp2
        go_ret2
        exact ⟨.inl ⟨(x : Int), ⟨by omega, by omega⟩, by rw [beq_iff_eq, ByteArray.toList_eq] at hq; exact hq.symm, rfl⟩, hb⟩
      · have hq' : (Lib.itoa (x : Int) == T.toList) = false := by simpa using hq
        clear hq
        go_wp2
        go_ret2
        exact ⟨.inr ⟨end_other hS.out (by rw [HV.out]; rw [beq_eq_false_iff_ne, ByteArray.toList_eq] at hq'; exact hq'), rfl⟩, hb⟩

set_option maxHeartbeats 400000 in
theorem spec_parse_short (s : ByteArray) (w : World) (h0 : s.size = 0) :
    Calls Tryd.prog 55 #[.string s] w fun e w' => ParseEnd s.data.toList e ∧ Below w.heap.size w w' := by
  have hE := Lib.hid (end_len (signed_pos (s := s) (fun h => by omega)) (.inl (by simp [h0])))
  have h1 : s.size < 1 := by omega
  clear h0
  go_enter Tryd.func55, Tryd.ntmps55
  go_wp2
  go_ret2
  exact ⟨.inr ⟨hE.out, rfl⟩, Below.refl _ _⟩

set_option maxHeartbeats 400000 in
theorem spec_parse_neg_len (s : ByteArray) (w : World) (hs : s.size ≤ 281474976710656) (h0 : 0 < s.size) (h45 : s[0].toNat = 45) (hlen : s.size < 2 ∨ 20 < s.size) :
    Calls Tryd.prog 55 #[.string s] w fun e w' => ParseEnd s.data.toList e ∧ Below w.heap.size w w' := by
  have hE := Lib.hid (end_len (signed_neg h0 h45 rfl) (by
    have : (s.extract 1 s.size).data.toList.length = s.size - 1 := by
      simp
    omega))
  rcases hlen with h | h
  · go_enter Tryd.func55, Tryd.ntmps55
    go_wp2
    go_ret2
    exact ⟨.inr ⟨hE.out, rfl⟩, Below.refl _ _⟩
  · go_enter Tryd.func55, Tryd.ntmps55
    go_wp2
    go_ret2
    exact ⟨.inr ⟨hE.out, rfl⟩, Below.refl _ _⟩

set_option maxHeartbeats 400000 in
theorem spec_parse_pos_len (s : ByteArray) (w : World) (hs : s.size ≤ 281474976710656) (h45 : ∀ h : 0 < s.size, s[0].toNat ≠ 45) (hlen : 19 < s.size) :
    Calls Tryd.prog 55 #[.string s] w fun e w' => ParseEnd s.data.toList e ∧ Below w.heap.size w w' := by
  have hE := Lib.hid (end_len (signed_pos h45) (.inr (by simpa using hlen)))
  have h0 : 0 < s.size := by omega
  have h45' := h45 h0
  clear h45
  go_enter Tryd.func55, Tryd.ntmps55
  go_wp2
  go_ret2
  exact ⟨.inr ⟨hE.out, rfl⟩, Below.refl _ _⟩

/-- spec.ParseInt, at every string of at most 2^48 bytes. -/
theorem spec_parse (s : ByteArray) (w : World) (hs : s.size ≤ 281474976710656) :
    Calls Tryd.prog 55 #[.string s] w fun e w' => ParseEnd s.data.toList e ∧ Below w.heap.size w w' := by
  by_cases h0 : 0 < s.size
  · by_cases h45 : s[0].toNat = 45
    · by_cases hlen : s.size < 2 ∨ 20 < s.size
      · exact spec_parse_neg_len s w hs h0 h45 hlen
      · exact spec_parse_neg s _ w h0 h45 (by omega) (by omega) rfl
    · by_cases hlen : 19 < s.size
      · exact spec_parse_pos_len s w hs (fun _ => h45) hlen
      · exact spec_parse_pos s w h0 h45 (by omega)
  · exact spec_parse_short s w (by omega)
end Go.Proofs.YtceidekfcnmeaaaDoor
