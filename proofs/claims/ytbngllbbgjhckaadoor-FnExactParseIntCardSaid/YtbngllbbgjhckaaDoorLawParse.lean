/- The law FnExactParseInt, walked: both ParseInts end as ParseEnd says, which leaves one end. -/
import Derived.Test.YtbngllbbgjhckaaDoorImplParse
import Derived.Test.YtbngllbbgjhckaaDoorSpecParse
namespace Go.Proofs.YtbngllbbgjhckaaDoor
open Go.RowKit

/-- An end of ParseInt, as a value. -/
theorem ParseEnd.form {l : List UInt8} {e : Ending} (h : ParseEnd l e) : ∃ (n : Int) (b : Bool), inI n ∧ e = .returned (.tuple #[.int .i64 n, .bool b]) := by
  rcases h with ⟨n, hn, -, rfl⟩ | ⟨-, rfl⟩
  · exact ⟨n, true, hn, rfl⟩
  · exact ⟨0, false, by unfold inI; omega, rfl⟩

set_option maxHeartbeats 400000 in
theorem law_parse_big (s : ByteArray) (w : World) (hs : s.size ≤ 281474976710656) (hbig : 1048576 < s.size) :
    Calls Tryd.prog 4 #[.string s] w fun e w' => e = .returned (.bool true) ∧ Below w.heap.size w w' := by
  go_enter Tryd.func4, Tryd.ntmps4
  go_wp2
  go_ret
  exact ⟨rfl, Below.refl _ _⟩

set_option maxHeartbeats 400000 in
theorem law_parse (s : ByteArray) (w : World) (hs : s.size ≤ 281474976710656) (hv : LibVars w) :
    Calls Tryd.prog 4 #[.string s] w fun e w' => e = .returned (.bool true) ∧ Below w.heap.size w w' := by
  by_cases hbig : 1048576 < s.size
  · exact law_parse_big s w hs hbig
  have HV := Lib.hid hv
  clear hv
  go_enter Tryd.func4, Tryd.ntmps4
  go_wp2_with fail
  refine (spec_parse s w hs).mono ?_
  rintro e w1 ⟨he, hb⟩
  obtain ⟨n, b, hn, rfl⟩ := he.form
  have HE := Lib.hid he
  clear he
  have HV1 := Lib.hid (HV.out.below hb)
  go_wp2_with fail
  refine (impl_parse s w1 hs HV1.out).mono ?_
  rintro e w2 ⟨he2, hb2⟩
  obtain rfl := he2.unique HE.out
  clear he2
  go_wp2
  all_goals
    go_ret
    exact ⟨rfl, hb.trans (hb2.mono hb.size)⟩
end Go.Proofs.YtbngllbbgjhckaaDoor
