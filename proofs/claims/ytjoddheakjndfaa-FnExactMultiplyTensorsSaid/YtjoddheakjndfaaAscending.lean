
/- impl.sorted: a sorted copy. -/
import Derived.Test.YtjoddheakjndfaaShelfSort
import Derived.Test.YtjoddheakjndfaaZero
import Derived.Test.YtjoddheakjndfaaPermMath
import Derived.Test.YtjoddheakjndfaaRs
import Derived.Sort.OwnSortedInts
import Derived.Test.YtjoddheakjndfaaPermuted
import Derived.Deep.RegionHeld3
import Derived.Test.YtjoddheakjndfaaReorderSpec
import Derived.Test.YtjoddheakjndfaaTenOkImpl
namespace Go.Proofs.Ytjoddheakjndfaa
set_option maxRecDepth 20000
open Go.RowKit

/-- slices.Sort on a row of the call's own. -/
theorem sort_own {w : World} {lo : Nat} {v : Value} {xs : List Int} (h : Own w lo w.heap.size v xs) (hlw : lo ≤ w.heap.size) (hn : xs.length ≤ 1099511627776) :
    Calls Try.prog 94 #[v] w fun e w' => e = .returned (.tuple #[]) ∧ Own w' lo w'.heap.size v (sortL xs) ∧ Below lo w w' := by
  rcases h.1.2 with ⟨rfl, h0⟩ | ⟨g, cap, cur, rfl, hlo, hg, h1, h2, h3, h4⟩
  · have hx : xs = [] := by
      cases xs with
      | nil => rfl
      | cons x r => simp at h0
    subst hx
    refine (Try.slices_Sort_int_none none 0 w).mono ?_
    rintro e w' ⟨rfl, rfl⟩
    have e0 : sortL [] = [] := List.eq_nil_of_length_eq_zero (sortL_len [])
    rw [e0]
    exact ⟨rfl, Own.nil _ _, Below.refl _ _⟩
  · have hlt := (Array.getElem?_eq_some_iff.1 hg).1
    have h4' : cur.toList.take xs.length = xs.map (Value.int .i64) := by simpa [ints] using h4
    refine (Try.slices_Sort_int g 0 cap xs w (holds_of_blockI hg h4') hlt (by omega)).mono ?_
    rintro e w' ⟨rfl, nn, os, rfl⟩
    have hs : (xs.mergeSort fun x y => decide (x ≤ y)) = sortL xs := rfl
    rw [hs]
    have ho := ownsRow_sortedI (n := nn) (os := os) (ts := sortL xs) (ss := xs) (sortL_len xs) hlo hg h1 h2 h3
    have hgr := grownBy_sortedI (w := w) (g := g) (n := nn) (os := os) (sortL xs).toArray
    exact ⟨rfl, Own.of (n := xs.length) ho (sortL_len xs), (Below.refl lo w).grown hgr hlw (fun k hk => by cases hk; exact hlo)⟩

set_option maxHeartbeats 800000 in
theorem sorted_impl {B : Nat} {v : Value} {xs : List Int} {w : World} (h : Rd B w v (ints xs)) (hB : B ≤ w.heap.size) (hn : xs.length ≤ 1099511627776) :
    Calls Try.prog 79 #[v] w (NewRow w (sortL xs)) := by
  have HC := Lib.hid (clone_any h hB hn)
  clear h hB
  go_enter Try.func79, Try.ntmps79
  go_wp2_with fail
  refine HC.out.mono ?_
  rintro e w1 ⟨r, rfl, ho, hb⟩
  have HS := Lib.hid (sort_own ho hb.size hn)
  have HB := Lib.hid hb
  clear ho hb HC
  go_wp2_with fail
  refine HS.out.mono ?_
  rintro e w2 ⟨rfl, ho, hb⟩
  have HO := Lib.hid ho
  have HB2 := Lib.hid (HB.out.trans hb)
  clear ho hb HS HB
  go_wp2
  go_ret
  exact ⟨r, rfl, HO.out, HB2.out⟩
end Go.Proofs.Ytjoddheakjndfaa
namespace Go.Proofs.Ytjoddheakjndfaa
set_option maxRecDepth 20000
open Go.RowKit

theorem tensorB_axes {k p q : Int} {L D X : List Int} (ht : tensorB k p q L D X = true) : AxesV L D ∧ 0 ≤ sizeI L D := by
  obtain ⟨-, h0, -, -⟩ := tensorB_inv ht
  rcases sizeI_cases L D with ⟨h, -⟩ | ⟨-, h2, -, -⟩
  · omega
  · exact ⟨h2, h0⟩
theorem sort_set {L D : List Int} (h : AxesV L D) : SetV L (sortL L) := setV_perm (sortL_perm L) h.2.2.2.2

end Go.Proofs.Ytjoddheakjndfaa
namespace Go.Proofs.Ytjoddheakjndfaa
set_option maxRecDepth 20000
open Go.RowKit

end Go.Proofs.Ytjoddheakjndfaa
