
/- impl.ringWith: the ring of a kind and the numbers of a text. -/
import Derived.Test.YtceidekfcnmeaaaGreatDoorRingText
import Derived.Test.YtceidekfcnmeaaaGreatDoorRing
import Derived.WalkLawsBesides
namespace Go.Proofs.YtceidekfcnmeaaaGreatDoor
set_option maxRecDepth 20000
open Go.RowKit

theorem ringW_else {k : Int} {zs : List Int} (h1 : zs.length ≠ 1) (h2 : zs.length ≠ 2) : ringW k zs = (k, 0, 0) := by
  match zs, h1, h2 with
  | [], _, _ => rfl
  | [_], h1, _ => exact absurd rfl h1
  | [_, _], _, h2 => exact absurd rfl h2
  | _ :: _ :: _ :: _, _, _ => rfl
/-- The cells of a read list of one number, of two. -/
theorem Rd.first {B : Nat} {w : World} {a : Option Addr} {n cap : Nat} {x : Int} {r : List Int} (h : Rd B w (.slice a n cap) (ints (x :: r))) : ∃ b off, a = some ⟨b, off, none⟩ ∧ b < B ∧ w.cell? ⟨b, off, none⟩ = some (.int .i64 x) := by
  rcases h.ints_cases with ⟨h, -⟩ | ⟨b, off, ca, e, hb, -, hc⟩
  · cases h
  · cases e
    exact ⟨b, off, rfl, hb, hc 0 (by simp)⟩
theorem Rd.second {B : Nat} {w : World} {a : Option Addr} {n cap : Nat} {x y : Int} {r : List Int} (h : Rd B w (.slice a n cap) (ints (x :: y :: r))) : ∃ b off, a = some ⟨b, off, none⟩ ∧ b < B ∧ w.cell? ⟨b, off, none⟩ = some (.int .i64 x) ∧ w.cell? ⟨b, off + 1, none⟩ = some (.int .i64 y) := by
  rcases h.ints_cases with ⟨h, -⟩ | ⟨b, off, ca, e, hb, -, hc⟩
  · cases h
  · cases e
    exact ⟨b, off, rfl, hb, hc 0 (by simp), hc 1 (by simp)⟩

set_option maxHeartbeats 800000 in
theorem ring_with_else (k : Int) (a : Option Addr) (n cap : Nat) (w : World) (h1 : n ≠ 1) (h2 : n ≠ 2) :
    Calls Tryz.prog 21 #[.int .i64 k, .slice a n cap] w fun e w' => e = .returned (ringV k 0 0) ∧ Below w.heap.size w w' := by
  have q1 : ((n : Int) == 1) = false := by simp; omega
  have q2 : ((n : Int) == 2) = false := by simp; omega
  go_enter Tryz.func21, Tryz.ntmps21
  go_wp2
  refine bodyPost_ret (v := ringV k 0 0) (by simp [results, Tryz.results21, go_sem]) rfl ⟨rfl, ?_⟩
  first | exact ((Below.refl _ _).alloc (Nat.le_refl _) _).alloc (by simp) _ | exact (((Below.refl _ _).alloc (Nat.le_refl _) _).alloc (by simp) _).drew
set_option maxHeartbeats 800000 in
theorem ring_with_six (b off cap B : Nat) (x : Int) (w : World) (hB : B ≤ w.heap.size) (hb : b < B) (h0 : w.cell? ⟨b, off, none⟩ = some (.int .i64 x)) :
    Calls Tryz.prog 21 #[.int .i64 6, .slice (some ⟨b, off, none⟩) 1 cap] w fun e w' => e = .returned (ringV 6 0 x) ∧ Below w.heap.size w w' := by
  have hb' : b < w.heap.size := by omega
  go_enter Tryz.func21, Tryz.ntmps21
  go_wp2
  refine bodyPost_ret (v := ringV 6 0 x) (by simp [results, Tryz.results21, go_sem]) rfl ⟨rfl, ?_⟩
  first | exact ((Below.refl _ _).alloc (Nat.le_refl _) _).alloc (by simp) _ | exact (((Below.refl _ _).alloc (Nat.le_refl _) _).alloc (by simp) _).drew
set_option maxHeartbeats 800000 in
theorem ring_with_one (k : Int) (b off cap B : Nat) (x : Int) (w : World) (hk : k ≠ 6) (hB : B ≤ w.heap.size) (hb : b < B) (h0 : w.cell? ⟨b, off, none⟩ = some (.int .i64 x)) :
    Calls Tryz.prog 21 #[.int .i64 k, .slice (some ⟨b, off, none⟩) 1 cap] w fun e w' => e = .returned (ringV k x 0) ∧ Below w.heap.size w w' := by
  have q1 : (k == 6) = false := by simpa using hk
  have hb' : b < w.heap.size := by omega
  go_enter Tryz.func21, Tryz.ntmps21
  go_wp2
  refine bodyPost_ret (v := ringV k x 0) (by simp [results, Tryz.results21, go_sem]) rfl ⟨rfl, ?_⟩
  first | exact ((Below.refl _ _).alloc (Nat.le_refl _) _).alloc (by simp) _ | exact (((Below.refl _ _).alloc (Nat.le_refl _) _).alloc (by simp) _).drew
set_option maxHeartbeats 800000 in
theorem ring_with_two (k : Int) (b off cap B : Nat) (x y : Int) (w : World) (hB : B ≤ w.heap.size) (hb : b < B) (h0 : w.cell? ⟨b, off, none⟩ = some (.int .i64 x)) (h1 : w.cell? ⟨b, off + 1, none⟩ = some (.int .i64 y)) :
    Calls Tryz.prog 21 #[.int .i64 k, .slice (some ⟨b, off, none⟩) 2 cap] w fun e w' => e = .returned (ringV k x y) ∧ Below w.heap.size w w' := by
  have hb' : b < w.heap.size := by omega
  go_enter Tryz.func21, Tryz.ntmps21
  go_wp2
  go_region
  all_goals
    go_wp2
    refine bodyPost_ret (v := ringV k x y) (by simp [results, Tryz.results21, go_sem]) rfl ⟨rfl, ?_⟩
    first | exact ((Below.refl _ _).alloc (Nat.le_refl _) _).alloc (by simp) _ | exact (((Below.refl _ _).alloc (Nat.le_refl _) _).alloc (by simp) _).drew
/-- impl.ringWith, at every list of numbers. -/
theorem ring_with {B : Nat} {v : Value} {zs : List Int} {w : World} (k : Int) (h : Rd B w v (ints zs)) (hB : B ≤ w.heap.size) :
    Calls Tryz.prog 21 #[.int .i64 k, v] w fun e w' => e = .returned (ringV (ringW k zs).1 (ringW k zs).2.1 (ringW k zs).2.2) ∧ Below w.heap.size w w' := by
  obtain ⟨a, cap, rfl, -⟩ := ints_form h
  by_cases h1 : zs.length = 1
  · obtain ⟨x, rfl⟩ := List.length_eq_one_iff.1 h1
    obtain ⟨b, off, rfl, hb, h0⟩ := h.first
    by_cases hk : k = 6
    · subst hk; exact ring_with_six b off cap B x w hB hb h0
    · have e : ringW k [x] = (k, x, 0) := by show (if k = 6 then (k, 0, x) else (k, x, 0)) = _; rw [if_neg hk]
      rw [e]; exact ring_with_one k b off cap B x w hk hB hb h0
  · by_cases h2 : zs.length = 2
    · obtain ⟨x, y, rfl⟩ : ∃ x y, zs = [x, y] := by
        match zs, h2 with
        | [x, y], _ => exact ⟨x, y, rfl⟩
      obtain ⟨b, off, rfl, hb, h0, h3⟩ := h.second
      exact ring_with_two k b off cap B x y w hB hb h0 h3
    · rw [ringW_else h1 h2]
      exact ring_with_else k a zs.length cap w h1 h2
end Go.Proofs.YtceidekfcnmeaaaGreatDoor
