
/- slices.Clone of a row, whatever it is. -/
import Derived.Test.YtlmhnlepdfdceaaZero
import Derived.Deep.DeepMust
import Derived.Maps.AppendAt
import Derived.Test.YtlmhnlepdfdceaaClone
namespace Go.Proofs.Ytlmhnlepdfdceaa
set_option maxRecDepth 20000
set_option maxRecDepth 20000
open Go.RowKit

set_option maxHeartbeats 800000 in
theorem clone_some (ad : Addr) (cap m : Nat) (xs : List Int) (w : World) (hm : xs.length = m) (hn : m ≤ 1099511627776) (hc : ∀ j u, (ints xs)[j]? = some u → (w.alloc (.cells #[] 3)).cell? (ad.add j) = some u) :
    Calls Try.prog 54 #[.slice (some ad) m cap] w (NewRow w xs) := by
  obtain ⟨i0, hi, hz0, hz1, hz2⟩ := info_parts infoInt
  have J0 := Lib.hid hi
  have J1 := Lib.hid hz0
  have J2 := Lib.hid hz1
  have J3 := Lib.hid hz2
  have HM := Lib.hid hm
  have HC := Lib.hid hc
  have HL := Lib.hid (World.ownsRow_lit (base := w.heap.size) (e := 3) (size := 1) w #[] 0 (Nat.le_refl _) (by unfold maxLen; omega) rfl)
  clear hi hz0 hz1 hz2 hm hc
  have hnil := fun wx : World => Lib.run_eql_slice_nil (P := Try.prog) wx 22 3 (some ad) m cap 0 0 Try.underlying22
  go_enter Try.func54, Try.ntmps54
  go_wp2_with (at_builtin; go_must (refine wpList_append_own _ rfl _ _ 22 rfl w.heap.size 3 i0 (.int .i64 0) 1 8 Try.underlying22 J0.out J1.out J2.out J3.out rfl (by decide) _ _ _ rfl HL.out ad m cap (ints xs) rfl ?c1 HC.out (one_cells xs) ?c2 ?c3 (by simp) ?_))
  case c1 => rw [ints_len, HM.out]
  case c2 => unfold maxLen; omega
  case c3 => omega
  intro v' w2 hown hg _
  have RES : Hid (NewRow w xs (.returned v') w2) := Lib.hid ⟨v', rfl, Own.of (n := 0 + m) (by simpa using hown) (by rw [HM.out]; omega), by
    have := ((Below.refl w.heap.size w).alloc (Nat.le_refl _) (.cells #[] 3)).grown hg (by simp) (fun j hj => by cases hj; exact Nat.le_refl _)
    exact this⟩
  clear hown hg
  go_wp2
  go_ret
  exact RES.out
set_option maxHeartbeats 400000 in
theorem clone_nil (cap m : Nat) (w : World) :
    Calls Try.prog 54 #[.slice none m cap] w (NewRow w []) := by
  have hnil := fun wx : World => Lib.run_eql_slice_nil (P := Try.prog) wx 22 3 none m cap 0 0 Try.underlying22
  go_enter Try.func54, Try.ntmps54
  go_wp2
  go_ret
  exact ⟨_, rfl, ⟨World.ownsRow_nil _ _ _ _, (fun g hg => by cases hg), Nat.le_refl _⟩, Below.refl _ _⟩
theorem clone_any {B : Nat} {v : Value} {xs : List Int} {w : World} (h : Rd B w v (ints xs)) (hB : B ≤ w.heap.size) (hn : xs.length ≤ 1099511627776) :
    Calls Try.prog 54 #[v] w (NewRow w xs) := by
  rcases h.ints_cases with ⟨rfl, a, cap, rfl⟩ | ⟨b, off, cap, rfl, hb, -, hc⟩
  · cases a with
    | none => exact clone_nil cap 0 w
    | some ad => exact clone_some ad cap 0 [] w rfl (by omega) (fun j u hj => by simp [ints] at hj)
  · exact clone_row b off cap xs.length xs w rfl hn (Nat.lt_of_lt_of_le hb hB) hc
end Go.Proofs.Ytlmhnlepdfdceaa
