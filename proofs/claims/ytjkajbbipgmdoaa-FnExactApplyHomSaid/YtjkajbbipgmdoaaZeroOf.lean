/- ZeroOf, OneOf, both. -/
import Derived.Test.YtjkajbbipgmdoaaZero
import Derived.Deep.Onto
namespace Go.Proofs.Ytjkajbbipgmdoaa
open Go.RowKit

noncomputable def zeroOfL (k p n : Int) : List Int := if ringB k p n = true then zeroL k p n else []
noncomputable def oneOfL (k p n : Int) : List Int := if ringB k p n = true then oneL k p n else []
theorem zeroOf_len (k p n : Int) : (zeroOfL k p n).length ≤ 6 := by
  unfold zeroOfL
  by_cases h : ringB k p n = true
  · rw [if_pos h]
    obtain ⟨m, hm, h1, h2⟩ := width_nat h
    simp [zeroL, hm]; omega
  · rw [if_neg h]; simp
theorem oneOf_len (k p n : Int) : (oneOfL k p n).length ≤ 6 := by
  unfold oneOfL
  by_cases h : ringB k p n = true
  · rw [if_pos h]
    obtain ⟨m, hm, h1, h2⟩ := width_nat h
    simp [oneL, hm]; omega
  · rw [if_neg h]; simp
theorem NewRow.after {w0 w : World} {xs : List Int} {e : Ending} {w' : World} (hb : Below w0.heap.size w0 w) (h : NewRow w xs e w') : NewRow w0 xs e w' := by
  obtain ⟨r, he, ho, h1⟩ := h
  exact ⟨r, he, ⟨ho.1.mono hb.size, ho.2⟩, hb.trans (h1.mono hb.size)⟩

set_option maxHeartbeats 400000 in
theorem zero_of_spec (k p n : Int) (w : World) : Calls Try.prog 35 #[ringV k p n] w (NewRow w (zeroOfL k p n)) := by
  cases hr : ringB k p n with
  | false =>
    have e : zeroOfL k p n = [] := by simp [zeroOfL, hr]
    rw [e]
    have HR := Lib.hid hr
    clear hr e
    go_enter Try.func35, Try.ntmps35
    go_wp2_with fail
    refine (Inv.call (Lib.hid (Inv.box w k p n _)) (ring_ok_spec k p n _)).mono ?_
    rw [HR.out]
    rintro e w1 ⟨rfl, HV1, c0, c1, c2⟩
    go_wp2
    go_ret
    exact ⟨_, rfl, ⟨World.ownsRow_nil _ _ _ _, (fun g hg => by cases hg), Nat.le_refl _⟩, HV1.out.1⟩
  | true =>
    obtain ⟨r, hres⟩ : ∃ r, r = zeroOfL k p n := ⟨_, rfl⟩
    have HE := Lib.hid (show r = zeroL k p n by rw [hres]; simp [zeroOfL, hr])
    rw [← hres]
    have HR := Lib.hid hr
    clear hr hres
    go_enter Try.func35, Try.ntmps35
    go_wp2_with fail
    refine (Inv.call (Lib.hid (Inv.box w k p n _)) (ring_ok_spec k p n _)).mono ?_
    rw [HR.out]
    rintro e w1 ⟨rfl, HV1, c0, c1, c2⟩
    go_wp2_with fail
    refine (zero_spec k p n _ HR.out).mono ?_
    rw [← HE.out]
    intro e w2 h2
    obtain ⟨v, rfl, ho, hb⟩ := NewRow.after HV1.out.1 h2
    clear h2
    have HO := Lib.hid ho
    have HB := Lib.hid hb
    clear ho hb
    go_wp2
    go_ret
    exact ⟨v, rfl, HO.out, HB.out⟩

set_option maxHeartbeats 400000 in
theorem zero_of_impl (k p n : Int) (w : World) : Calls Try.prog 36 #[ringV k p n] w (NewRow w (zeroOfL k p n)) := by
  cases hr : ringB k p n with
  | false =>
    have e : zeroOfL k p n = [] := by simp [zeroOfL, hr]
    rw [e]
    have HR := Lib.hid hr
    clear hr e
    go_enter Try.func36, Try.ntmps36
    go_wp2_with fail
    refine (Inv.call (Lib.hid (Inv.box w k p n _)) (ring_ok_impl k p n _)).mono ?_
    rw [HR.out]
    rintro e w1 ⟨rfl, HV1, c0, c1, c2⟩
    go_wp2
    go_ret
    exact ⟨_, rfl, ⟨World.ownsRow_nil _ _ _ _, (fun g hg => by cases hg), Nat.le_refl _⟩, HV1.out.1⟩
  | true =>
    obtain ⟨r, hres⟩ : ∃ r, r = zeroOfL k p n := ⟨_, rfl⟩
    have HE := Lib.hid (show r = zeroL k p n by rw [hres]; simp [zeroOfL, hr])
    rw [← hres]
    have HR := Lib.hid hr
    clear hr hres
    go_enter Try.func36, Try.ntmps36
    go_wp2_with fail
    refine (Inv.call (Lib.hid (Inv.box w k p n _)) (ring_ok_impl k p n _)).mono ?_
    rw [HR.out]
    rintro e w1 ⟨rfl, HV1, c0, c1, c2⟩
    go_wp2_with fail
    refine (zero_impl k p n _ HR.out).mono ?_
    rw [← HE.out]
    intro e w2 h2
    obtain ⟨v, rfl, ho, hb⟩ := NewRow.after HV1.out.1 h2
    clear h2
    have HO := Lib.hid ho
    have HB := Lib.hid hb
    clear ho hb
    go_wp2
    go_ret
    exact ⟨v, rfl, HO.out, HB.out⟩

set_option maxHeartbeats 400000 in
theorem one_of_spec (k p n : Int) (w : World) : Calls Try.prog 37 #[ringV k p n] w (NewRow w (oneOfL k p n)) := by
  cases hr : ringB k p n with
  | false =>
    have e : oneOfL k p n = [] := by simp [oneOfL, hr]
    rw [e]
    have HR := Lib.hid hr
    clear hr e
    go_enter Try.func37, Try.ntmps37
    go_wp2_with fail
    refine (Inv.call (Lib.hid (Inv.box w k p n _)) (ring_ok_spec k p n _)).mono ?_
    rw [HR.out]
    rintro e w1 ⟨rfl, HV1, c0, c1, c2⟩
    go_wp2
    go_ret
    exact ⟨_, rfl, ⟨World.ownsRow_nil _ _ _ _, (fun g hg => by cases hg), Nat.le_refl _⟩, HV1.out.1⟩
  | true =>
    obtain ⟨r, hres⟩ : ∃ r, r = oneOfL k p n := ⟨_, rfl⟩
    have HE := Lib.hid (show r = oneL k p n by rw [hres]; simp [oneOfL, hr])
    rw [← hres]
    have HR := Lib.hid hr
    clear hr hres
    go_enter Try.func37, Try.ntmps37
    go_wp2_with fail
    refine (Inv.call (Lib.hid (Inv.box w k p n _)) (ring_ok_spec k p n _)).mono ?_
    rw [HR.out]
    rintro e w1 ⟨rfl, HV1, c0, c1, c2⟩
    go_wp2_with fail
    refine (one_spec k p n _ HR.out).mono ?_
    rw [← HE.out]
    intro e w2 h2
    obtain ⟨v, rfl, ho, hb⟩ := NewRow.after HV1.out.1 h2
    clear h2
    have HO := Lib.hid ho
    have HB := Lib.hid hb
    clear ho hb
    go_wp2
    go_ret
    exact ⟨v, rfl, HO.out, HB.out⟩

set_option maxHeartbeats 400000 in
theorem one_of_impl (k p n : Int) (w : World) : Calls Try.prog 38 #[ringV k p n] w (NewRow w (oneOfL k p n)) := by
  cases hr : ringB k p n with
  | false =>
    have e : oneOfL k p n = [] := by simp [oneOfL, hr]
    rw [e]
    have HR := Lib.hid hr
    clear hr e
    go_enter Try.func38, Try.ntmps38
    go_wp2_with fail
    refine (Inv.call (Lib.hid (Inv.box w k p n _)) (ring_ok_impl k p n _)).mono ?_
    rw [HR.out]
    rintro e w1 ⟨rfl, HV1, c0, c1, c2⟩
    go_wp2
    go_ret
    exact ⟨_, rfl, ⟨World.ownsRow_nil _ _ _ _, (fun g hg => by cases hg), Nat.le_refl _⟩, HV1.out.1⟩
  | true =>
    obtain ⟨r, hres⟩ : ∃ r, r = oneOfL k p n := ⟨_, rfl⟩
    have HE := Lib.hid (show r = oneL k p n by rw [hres]; simp [oneOfL, hr])
    rw [← hres]
    have HR := Lib.hid hr
    clear hr hres
    go_enter Try.func38, Try.ntmps38
    go_wp2_with fail
    refine (Inv.call (Lib.hid (Inv.box w k p n _)) (ring_ok_impl k p n _)).mono ?_
    rw [HR.out]
    rintro e w1 ⟨rfl, HV1, c0, c1, c2⟩
    go_wp2_with fail
    refine (one_impl k p n _ HR.out).mono ?_
    rw [← HE.out]
    intro e w2 h2
    obtain ⟨v, rfl, ho, hb⟩ := NewRow.after HV1.out.1 h2
    clear h2
    have HO := Lib.hid ho
    have HB := Lib.hid hb
    clear ho hb
    go_wp2
    go_ret
    exact ⟨v, rfl, HO.out, HB.out⟩

end Go.Proofs.Ytjkajbbipgmdoaa
