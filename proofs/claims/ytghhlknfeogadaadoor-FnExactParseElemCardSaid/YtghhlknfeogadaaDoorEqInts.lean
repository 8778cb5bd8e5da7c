
/- laws.eqIntS compares two slices of integers. -/
import Derived.Test.YtghhlknfeogadaaDoorProg
import Derived.Test.YtghhlknfeogadaaDoorSl
import Derived.WalkLawsBesides
import Derived.Lib.Hide
import Derived.Deep.QuietTactic
import Derived.BigQuiet
namespace Go.Proofs.YtghhlknfeogadaaDoor
set_option maxRecDepth 20000
open Go.RowKit

set_option maxHeartbeats 400000 in
theorem eq_ints_len (a b : Option Addr) (n m ca cb : Nat) (w : World) (hne : n ≠ m) :
    Calls Tryd.prog 12 #[.slice a n ca, .slice b m cb] w fun e w' => e = .returned (.bool false) ∧ w = w' := by
  have hq : ((n : Int) != (m : Int)) = true := by simp; omega
  go_enter Tryd.func12, Tryd.ntmps12
  go_wp2
  go_ret
  exact ⟨rfl, rfl⟩

set_option maxHeartbeats 400000 in
theorem eq_ints_nil (a b : Option Addr) (ca cb : Nat) (w : World) :
    Calls Tryd.prog 12 #[.slice a 0 ca, .slice b 0 cb] w fun e w' => e = .returned (.bool true) ∧ w = w' := by
  go_enter Tryd.func12, Tryd.ntmps12
  go_wp2
  go_loop [5] (fun i => i = .int .i64 0) (fun _ => 0)
  case atStart => rfl
  case round =>
    subst hrel
    go_wp2
    go_ret
    exact ⟨rfl, rfl⟩

set_option maxHeartbeats 400000 in
theorem eq_ints_full (b off cap b' off' cap' n : Nat) (xs ys : List Int) (w : World) (hn : n ≤ 281474976710656) (hx : xs.length = n) (hy : ys.length = n)
    (hcx : ∀ i (h : i < xs.length), w.cell? ⟨b, off + i, none⟩ = some (.int .i64 xs[i])) (hcy : ∀ i (h : i < ys.length), w.cell? ⟨b', off' + i, none⟩ = some (.int .i64 ys[i])) :
    Calls Tryd.prog 12 #[.slice (some ⟨b, off, none⟩) n cap, .slice (some ⟨b', off', none⟩) n cap'] w fun e w' => e = .returned (.bool (decide (xs = ys))) ∧ ∃ q, w' = w.drewN q := by
  have HX := Lib.hid hcx
  have HY := Lib.hid hcy
  have L1 := Lib.hid hx
  have L2 := Lib.hid hy
  clear hcx hcy hx hy
  go_enter Tryd.func12, Tryd.ntmps12
  go_wp2
  go_loopw [5] (fun i wr => ∃ k : Nat, k ≤ n ∧ i = .int .i64 k ∧ Hid (xs.take k = ys.take k) ∧ ∃ q, wr = w.drewN q) (fun i _ => n - (intOf i).toNat)
  case atStart => exact ⟨0, by omega, rfl, rfl, 0, rfl⟩
  case round =>
    obtain ⟨k, hk, rfl, HE, q, rfl⟩ := hrel
    by_cases hlt : k < n
    · obtain ⟨x, c1, X1⟩ := ints_cell L1.out HX.out hlt
      obtain ⟨y, c2, Y1⟩ := ints_cell L2.out HY.out hlt
      by_cases hxy : x = y
      · subst hxy
        go_wp2
        go_quiet (fail)
        go_wp2
        go_roundw
        case rel => exact ⟨k + 1, by omega, by go_num, take_step HE.out X1.out Y1.out, _, by first | rfl | (simp only [World.drewN_drewN]; rfl)⟩
        case measure => simp [intOf]; omega
      · have hq : (x != y) = true := by simpa using hxy
        have HN := Lib.hid (ne_of_step X1.out Y1.out hxy)
        clear hxy
        go_wp2
        go_quiet (fail)
        go_wp2
        go_ret
        exact ⟨by rw [decide_eq_false HN.out]; rfl, _, by first | rfl | (simp only [World.drewN_drewN]; rfl)⟩
    · obtain rfl : k = n := by omega
      go_wp2
      go_ret
      exact ⟨by have h := HE.out; rw [List.take_of_length_le (by rw [L1.out]; omega), List.take_of_length_le (by rw [L2.out]; omega)] at h; rw [decide_eq_true h]; rfl, q, rfl⟩

/-- laws.eqIntS, at any two slices of integers. -/
theorem eq_ints {B B' : Nat} {va vb : Value} {xs ys : List Int} {w : World} (ha : Rd B w va (ints xs)) (hb : Rd B' w vb (ints ys)) (hn : xs.length ≤ 281474976710656) :
    Calls Tryd.prog 12 #[va, vb] w fun e w' => e = .returned (.bool (decide (xs = ys))) ∧ ∃ q, w' = w.drewN q := by
  have same0 : ∀ (a b : Option Addr) (ca cb : Nat), Calls Tryd.prog 12 #[.slice a 0 ca, .slice b 0 cb] w fun e w' => e = .returned (.bool true) ∧ w = w' := fun a b ca cb => eq_ints_nil a b ca cb w
  rcases ha.ints_cases with ⟨rfl, a, ca, rfl⟩ | ⟨b, off, ca, rfl, -, -, hca⟩
  · rcases hb.ints_cases with ⟨rfl, a', ca', rfl⟩ | ⟨b', off', ca', rfl, -, -, hcb⟩
    · exact (same0 _ _ _ _).mono fun e w' ⟨he, hw⟩ => ⟨he, 0, hw.symm⟩
    · by_cases h0 : ys = []
      · subst h0
        exact (same0 _ _ _ _).mono fun e w' ⟨he, hw⟩ => ⟨he, 0, hw.symm⟩
      · exact (eq_ints_len _ _ _ _ _ _ w (by have := List.length_pos_iff.2 h0; omega)).mono fun e w' ⟨he, hw⟩ => ⟨by rw [he, decide_eq_false (fun h => h0 h.symm)], 0, hw.symm⟩
  · rcases hb.ints_cases with ⟨rfl, a', ca', rfl⟩ | ⟨b', off', ca', rfl, -, -, hcb⟩
    · by_cases h0 : xs = []
      · subst h0
        exact (same0 _ _ _ _).mono fun e w' ⟨he, hw⟩ => ⟨he, 0, hw.symm⟩
      · exact (eq_ints_len _ _ _ _ _ _ w (by have := List.length_pos_iff.2 h0; simp; omega)).mono fun e w' ⟨he, hw⟩ => ⟨by rw [he, decide_eq_false h0], 0, hw.symm⟩
    · by_cases hl : xs.length = ys.length
      · rw [← hl]
        exact eq_ints_full b off ca b' off' ca' xs.length xs ys w hn rfl hl.symm hca hcb
      · exact (eq_ints_len _ _ _ _ _ _ w hl).mono fun e w' ⟨he, hw⟩ => ⟨by rw [he, decide_eq_false (fun h => hl (by rw [h]))], 0, hw.symm⟩
end Go.Proofs.YtghhlknfeogadaaDoor
