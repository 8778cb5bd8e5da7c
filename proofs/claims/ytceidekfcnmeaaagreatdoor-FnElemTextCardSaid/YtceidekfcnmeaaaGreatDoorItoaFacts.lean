
/- Plain facts on numerals: their bytes. -/
import Derived.Test.YtceidekfcnmeaaaGreatDoorCutL
import Derived.Test.YtceidekfcnmeaaaGreatDoorParseInts
namespace Go.Proofs.YtceidekfcnmeaaaGreatDoor
set_option maxRecDepth 20000
open Go Go.RowKit

theorem itoa_shape (n : Int) : Lib.itoa n = Lib.decDigits n.natAbs ∨ Lib.itoa n = 45 :: Lib.decDigits n.natAbs := by
  unfold Lib.itoa
  by_cases h : n < 0
  · rw [if_pos h]; exact .inr rfl
  · rw [if_neg h, show n.toNat = n.natAbs by omega]; exact .inl rfl
theorem itoa_bytes (n : Int) : ∀ c ∈ Lib.itoa n, 45 ≤ c.toNat := by
  intro c hc
  rcases itoa_shape n with e | e
  · rw [e] at hc; have := digs_dec _ c hc; omega
  · rw [e] at hc
    rcases List.mem_cons.1 hc with rfl | hc
    · decide
    · have := digs_dec _ c hc; omega
theorem itoa_ne (n : Int) : Lib.itoa n ≠ [] := by
  rcases itoa_shape n with e | e
  · rw [e]; exact dec_ne _
  · rw [e]; simp
theorem no_sep (n : Int) {c : Nat} (h : c < 45) : ∀ x ∈ Lib.itoa n, x.toNat ≠ c := fun x hx => by have := itoa_bytes n x hx; omega
theorem mk_list (l : List UInt8) : (⟨l.toArray⟩ : ByteArray).data.toList = l := rfl

end Go.Proofs.YtceidekfcnmeaaaGreatDoor
