
/- MakeNum, MakeSize. -/
import Derived.Test.YtfdjlahaiogababDrawn
namespace Go.Proofs.Ytfdjlahaiogabab
set_option maxRecDepth 20000
open Go.RowKit

set_option maxHeartbeats 400000 in
/-- MakeNum. -/
theorem make_num {v : Value} {bs : List UInt8} {w : World} (n : Nat) (hn : n ≤ 1000) (hr : Rd w.heap.size w v (bytes8 bs)) (hl : bs.length ≤ 1048576) :
    Calls Try.prog 115 #[v, .int .i64 n] w fun e w' => ∃ x : Nat, e = .returned (.int .i64 x) ∧ x ≤ 65535 ∧ Below w.heap.size w w' := by
  have HR := Lib.hid hr
  have HL := Lib.hid hl
  clear hr hl
  go_enter Try.func115, Try.ntmps115
  go_wp2_with fail
  refine (cur_at n hn HR.out HL.out).mono ?_
  rintro e w1 ⟨cb, rfl, hc, hb1⟩
  have HC1 := Lib.hid hc
  have HB1 := Lib.hid hb1
  clear hc hb1
  go_wp2_with fail
  refine (cur_byte HC1.out).mono ?_
  rintro e w2 ⟨x, rfl, hx, hc, hk⟩
  have HC2 := Lib.hid hc
  have HB2 := Lib.hid (hk.below HB1.out (by obtain ⟨i, h, hc1⟩ := HC1.out; exact hc1.hB) HB1.out.size)
  clear hc hk
  go_wp2_with fail
  refine (cur_byte HC2.out).mono ?_
  rintro e w3 ⟨y, rfl, hy, hc, hk⟩
  have HB3 := Lib.hid (hk.below HB2.out (by obtain ⟨i, h, hc1⟩ := HC2.out; exact hc1.hB) HB2.out.size)
  clear hc hk
  go_wp2
  go_ret
  exact ⟨256 * x + y, by simp, by omega, HB3.out⟩
set_option maxHeartbeats 400000 in
/-- MakeSize. -/
theorem make_size {v : Value} {bs : List UInt8} {w : World} (n low high : Nat) (hn : n ≤ 1000) (hlo : low ≤ high) (hhi : high ≤ 1000000) (hr : Rd w.heap.size w v (bytes8 bs)) (hl : bs.length ≤ 1048576) :
    Calls Try.prog 46 #[v, .int .i64 n, .int .i64 low, .int .i64 high] w fun e w' => ∃ x : Nat, e = .returned (.int .i64 x) ∧ low ≤ x ∧ x ≤ high ∧ Below w.heap.size w w' := by
  have HR := Lib.hid hr
  have HL := Lib.hid hl
  clear hr hl
  go_enter Try.func46, Try.ntmps46
  go_wp2_with fail
  refine (make_num n hn HR.out HL.out).mono ?_
  rintro e w1 ⟨x, rfl, hx, hb⟩
  have HB := Lib.hid hb
  obtain ⟨d, hd⟩ : ∃ d : Nat, d = high - low + 1 := ⟨_, rfl⟩
  have hd2 : (high : Int) - (low : Int) + 1 = (d : Int) := by omega
  have hd3 : 0 < d := by omega
  have hm : x % d < d := Nat.mod_lt _ hd3
  have HD := Lib.hid hd
  clear hb hd
  go_wp2
  go_ret
  exact ⟨low + x % d, by simp, by omega, by have := HD.out; omega, HB.out⟩
end Go.Proofs.Ytfdjlahaiogabab
