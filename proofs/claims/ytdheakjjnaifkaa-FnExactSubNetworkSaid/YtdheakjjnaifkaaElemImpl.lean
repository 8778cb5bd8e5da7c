
/- (Tensor).elem, impl.ElemAt. -/
import Derived.Test.YtdheakjjnaifkaaIndexIn
import Derived.Test.YtdheakjjnaifkaaTensorOk2
import Derived.Test.YtdheakjjnaifkaaElemRd
import Derived.Test.YtdheakjjnaifkaaElemAt
import Derived.Test.YtdheakjjnaifkaaZero
namespace Go.Proofs.Ytdheakjjnaifkaa
set_option maxRecDepth 20000
open Go.RowKit

/-- Where find answers: at a tensor that is valid over the ring and an index of it. -/
theorem findT_cases (k p q : Int) (L D X ix : List Int) : (findT k p q L D X ix = -1 ∧ ¬ (0 ≤ offsetI L D ix ∧ tensorB k p q L D X = true)) ∨
    ∃ o wd : Nat, findT k p q L D X ix = (o : Int) ∧ offsetI L D ix = (o : Int) ∧ tensorB k p q L D X = true ∧ widthI k q = (wd : Int) ∧ 1 ≤ wd ∧ wd ≤ 6 ∧ o ≤ 4096 ∧ o * wd + wd ≤ X.length ∧ ringB k p q = true := by
  cases ht : tensorB k p q L D X with
  | false => exact .inl ⟨if_neg (by rw [ht]; simp), by simp⟩
  | true =>
    obtain ⟨hrb, hs0, hxl, -⟩ := tensorB_inv ht
    have e : findT k p q L D X ix = offsetI L D ix := by unfold findT; rw [if_pos ht, offsetI_in hs0]
    rw [e]
    rcases offsetI_range L D ix with h | ⟨-, -, h1, h2, h3, h4⟩
    · exact .inl ⟨h, fun h5 => by omega⟩
    · right
      rw [← h1] at h2 h3
      have hwd := ring_width hrb
      obtain ⟨wd, hw⟩ : ∃ wd : Nat, widthI k q = (wd : Int) := ⟨(widthI k q).toNat, by omega⟩
      obtain ⟨o, ho⟩ : ∃ o : Nat, offsetI L D ix = (o : Int) := ⟨(offsetI L D ix).toNat, by omega⟩
      rw [ho] at h2 h3
      rw [hw] at hwd hxl
      have hlen : o * wd + wd ≤ X.length := by
        have h5 : ((o : Int) + 1) * wd ≤ sizeI L D * wd := Int.mul_le_mul_of_nonneg_right (by omega) (by omega)
        rw [← hxl, Int.add_mul, Int.one_mul] at h5
        exact_mod_cast h5
      exact ⟨o, wd, ho, ho, rfl, hw, by omega, by omega, by omega, hlen, hrb⟩

end Go.Proofs.Ytdheakjjnaifkaa
