
/- spec.ParseInt: the int whose numeral s is, or (0, false): for every string of at most 2^48 bytes. -/
import Derived.Test.YtceidekfcnmeaaaGreatDoorFmt
import Derived.Test.YtceidekfcnmeaaaGreatDoorOpen
import Derived.Lib.Strings
namespace Go.Proofs.YtceidekfcnmeaaaGreatDoor
set_option maxRecDepth 20000
open Go.RowKit

theorem byte_le (c : UInt8) : c.toNat ≤ 255 := by have := c.toNat_lt; omega
theorem bytes_snoc (s : ByteArray) (k : Nat) (h : k < s.size) : s.data.toList.take (k + 1) = s.data.toList.take k ++ [s[k]] := by
  rw [List.take_succ_eq_append_getElem (by simpa using h)]; rfl
theorem num_take {T : ByteArray} {k x : Nat} (h : k < T.size) (hx : num 0 (T.data.toList.take k) = x) : num 0 (T.data.toList.take (k + 1)) = x * 10 + (T[k].toNat - 48) := by
  rw [bytes_snoc T k h, num_snoc, hx]
theorem get_mem (T : ByteArray) (k : Nat) (h : k < T.size) : T[k] ∈ T.data.toList := by
  have : T[k] = T.data.toList[k]'(by simpa using h) := by simp [ByteArray.getElem_eq_getElem_data]
  rw [this]; exact List.getElem_mem _
theorem guard_over {x d : Nat} (hd : d ≤ 9) (h : -(x : Int) < (-9223372036854775808 + (d : Int)).tdiv 10) : 9223372036854775808 < x * 10 + d := by
  rw [tdiv10 (by omega)] at h; omega
theorem guard_fits {x d : Nat} (hd : d ≤ 9) (h : ¬ -(x : Int) < (-9223372036854775808 + (d : Int)).tdiv 10) : x * 10 + d ≤ 9223372036854775808 := by
  rw [tdiv10 (by omega)] at h; omega
theorem dig_sub {c : UInt8} (h : 48 ≤ c.toNat) : ((c.toNat : Int) - 48) = ((c.toNat - 48 : Nat) : Int) := by omega
theorem signed_neg {s T : ByteArray} (h0 : 0 < s.size) (h45 : s[0].toNat = 45) (hT : s.extract 1 s.size = T) : Signed true s.data.toList T.data.toList := by
  show s.data.toList = 45 :: T.data.toList
  rw [← hT, Lib.extract_data]
  have hlen : s.data.toList.length = s.size := by simp
  have h1 : s.data.toList.drop 0 = s[0] :: s.data.toList.drop 1 := by
    rw [List.drop_eq_getElem_cons (by omega)]
    simp [ByteArray.getElem_eq_getElem_data]
  have e : s[0] = 45 := UInt8.toNat_inj.1 h45
  rw [List.drop_zero, e] at h1
  have h2 : (s.data.toList.drop 1).take (s.size - 1) = s.data.toList.drop 1 := List.take_of_length_le (by rw [List.length_drop]; omega)
  rw [h2]
  exact h1
theorem signed_pos {s : ByteArray} (h45 : ∀ h : 0 < s.size, s[0].toNat ≠ 45) : Signed false s.data.toList s.data.toList := by
  refine ⟨rfl, ?_⟩
  intro h
  have hlen : s.data.toList.length = s.size := by simp
  cases hl : s.data.toList with
  | nil => rw [hl] at h; simp at h
  | cons c r =>
    rw [hl] at h hlen
    simp at h hlen
    have h0 : 0 < s.size := by omega
    have : s[0] = c := by
      have : s[0] = s.data.toList[0]'(by rw [hl]; simp) := by simp [ByteArray.getElem_eq_getElem_data]
      rw [this]; simp [hl]
    exact h45 h0 (by rw [this, h]; rfl)

end Go.Proofs.YtceidekfcnmeaaaGreatDoor
