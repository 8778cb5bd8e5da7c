
/- laws.ints on two slices that read the same. -/
import Derived.Test.YtgabcdploeledaaLawKit
import Derived.Lib.Hide
namespace Go.Proofs.Ytgabcdploeledaa
set_option maxRecDepth 20000
open Go.RowKit

set_option maxHeartbeats 800000 in
theorem ints_same {B B' : Nat} {va vb : Value} {xs : List Int} {w : World} (ha : Rd B w va (ints xs)) (hb : Rd B' w vb (ints xs)) (hn : xs.length ≤ 281474976710656) :
    Calls Try.prog 49 #[va, vb] w fun e w' => e = .returned (.bool true) ∧ w = w' := by
  obtain ⟨a, ca, rfl, hca⟩ := ints_form ha
  obtain ⟨b, cb, rfl, hcb⟩ := ints_form hb
  obtain ⟨n, hnn⟩ : ∃ n, n = xs.length := ⟨_, rfl⟩
  rw [← hnn] at hn ⊢
  have HN := Lib.hid hnn.symm
  have HA := Lib.hid hca
  have HBB := Lib.hid hcb
  clear ha hb hca hcb hnn
  go_enter Try.func49, Try.ntmps49
  go_wp2
  go_loop [9] (fun i => ∃ j : Nat, j ≤ n ∧ i = .int .i64 j) (fun i => n - (intOf i).toNat)
  case atStart => exact ⟨0, by omega, rfl⟩
  case round =>
    obtain ⟨j, hj, rfl⟩ := hrel
    by_cases hlt : j < n
    · obtain ⟨ba, oa, rfl, -, hc1⟩ := HA.out (by rw [HN.out]; omega)
      obtain ⟨bb, ob, rfl, -, hc2⟩ := HBB.out (by rw [HN.out]; omega)
      obtain ⟨x, e1, X1⟩ := ints_cell HN.out hc1 hlt
      obtain ⟨y, e2, Y1⟩ := ints_cell HN.out hc2 hlt
      obtain rfl : x = y := Option.some.inj (X1.out.symm.trans Y1.out)
      have hge : decide (n ≤ j) = false := by simp; omega
      clear hc1 hc2
      go_wp2
      go_round
      case rel => exact ⟨j + 1, by omega, by go_num⟩
      case measure => simp [intOf]; omega
    · obtain rfl : j = n := by omega
      go_wp2
      go_ret
      exact ⟨rfl, rfl⟩

end Go.Proofs.Ytgabcdploeledaa
