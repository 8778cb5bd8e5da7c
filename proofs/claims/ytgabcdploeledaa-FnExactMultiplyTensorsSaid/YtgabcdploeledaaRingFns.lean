
/- toRing, width, top, RingWidth. -/
import Derived.Test.YtgabcdploeledaaRingOk
namespace Go.Proofs.Ytgabcdploeledaa
set_option maxRecDepth 20000
open Go.RowKit

/-- The block b holds a ring of these fields. -/
def BoxAt (w : World) (b : Nat) (k p n : Int) : Prop := w.cell? ⟨b, 0, none⟩ = some (.int .i64 k) ∧ w.cell? ⟨b, 1, none⟩ = some (.int .i64 p) ∧ w.cell? ⟨b, 2, none⟩ = some (.int .i64 n)
theorem BoxAt.new (w : World) (k p n : Int) (T : TypeId) : BoxAt (w.alloc (.cells (ringC k p n) T)) w.heap.size k p n :=
  ⟨by rw [World.cell?_alloc_new]; rfl, by rw [World.cell?_alloc_new]; rfl, by rw [World.cell?_alloc_new]; rfl⟩
theorem BoxAt.below {w w' : World} {b B : Nat} {k p n : Int} (h : BoxAt w b k p n) (hb : Below B w w') (hlt : b < B) : BoxAt w' b k p n :=
  ⟨(hb.cell (p := ⟨b, 0, none⟩) hlt).trans h.1, (hb.cell (p := ⟨b, 1, none⟩) hlt).trans h.2.1, (hb.cell (p := ⟨b, 2, none⟩) hlt).trans h.2.2⟩
theorem BoxAt.grown {w w' : World} {b : Nat} {k p n : Int} {row : Option Nat} (h : BoxAt w b k p n) (hg : w.grownBy w' row) (hlt : b < w.heap.size) (hne : ∀ g, row = some g → b < g) : BoxAt w' b k p n := by
  have hb : w'.heap[b]? = w.heap[b]? := hg.block b hlt (fun e => by have := hne b e.symm; omega)
  have hc : ∀ o, w'.cell? ⟨b, o, none⟩ = w.cell? ⟨b, o, none⟩ := fun o => World.cell?_of_block (w := w) hb
  exact ⟨(hc 0).trans h.1, (hc 1).trans h.2.1, (hc 2).trans h.2.2⟩
/-- The same behind a call. -/
theorem BoxAt.kept {W w1 : World} {k p n : Int} {T : TypeId} (hb : Below (W.alloc (.cells (ringC k p n) T)).heap.size (W.alloc (.cells (ringC k p n) T)) w1) : BoxAt w1 W.heap.size k p n ∧ Below W.heap.size W w1 ∧ W.heap.size < w1.heap.size := by
  have hz : W.heap.size < (W.alloc (.cells (ringC k p n) T)).heap.size := by simp
  exact ⟨(BoxAt.new W k p n T).below hb hz, ((Below.refl _ _).alloc (Nat.le_refl _) _).trans (hb.mono (Nat.le_of_lt hz)), Nat.lt_of_lt_of_le hz hb.size⟩

set_option maxHeartbeats 400000 in
theorem to_ring (k p n : Int) (w : World) :
    Calls Try.prog 18 #[ringV k p n] w fun e w' => e = .returned (ringV k p n) ∧ Below w.heap.size w w' := by
  go_enter Try.func18, Try.ntmps18
  go_wp2
  refine bodyPost_ret (v := ringV k p n) (by simp [results, Try.results18, go_sem]) rfl ⟨rfl, ?_⟩
  exact (((Below.refl _ _).alloc (Nat.le_refl _) _).alloc (by simp) _).alloc (by simp; omega) _

set_option maxHeartbeats 400000 in
theorem width_impl (k p n : Int) (w : World) :
    Calls Try.prog 117 #[ringV k p n] w fun e w' => e = .returned (.int .i64 (widthI k n)) ∧ Below w.heap.size w w' := by
  by_cases h7 : k = 7
  · subst h7
    go_enter Try.func117, Try.ntmps117
    go_wp2
    go_ret
    exact ⟨rfl, (Below.refl _ _).alloc (Nat.le_refl _) _⟩
  · by_cases h8 : k = 8
    · subst h8
      go_enter Try.func117, Try.ntmps117
      go_wp2
      go_ret
      exact ⟨rfl, (Below.refl _ _).alloc (Nat.le_refl _) _⟩
    · have e : widthI k n = 1 := by simp [widthI, h7, h8]
      rw [e]
      have e7 : (k == 7) = false := by simpa using h7
      have e8 : (k == 8) = false := by simpa using h8
      go_enter Try.func117, Try.ntmps117
      go_wp2
      go_ret
      exact ⟨rfl, (Below.refl _ _).alloc (Nat.le_refl _) _⟩
set_option maxHeartbeats 400000 in
theorem width_spec (k p n : Int) (w : World) :
    Calls Try.prog 107 #[ringV k p n] w fun e w' => e = .returned (.int .i64 (widthI k n)) ∧ Below w.heap.size w w' := by
  by_cases h7 : k = 7
  · subst h7
    go_enter Try.func107, Try.ntmps107
    go_wp2
    go_ret
    exact ⟨rfl, (Below.refl _ _).alloc (Nat.le_refl _) _⟩
  · by_cases h8 : k = 8
    · subst h8
      go_enter Try.func107, Try.ntmps107
      go_wp2
      go_ret
      exact ⟨rfl, (Below.refl _ _).alloc (Nat.le_refl _) _⟩
    · have e : widthI k n = 1 := by simp [widthI, h7, h8]
      rw [e]
      have e7 : (k == 7) = false := by simpa using h7
      have e8 : (k == 8) = false := by simpa using h8
      go_enter Try.func107, Try.ntmps107
      go_wp2
      go_ret
      exact ⟨rfl, (Below.refl _ _).alloc (Nat.le_refl _) _⟩

theorem wrap_pow {n : Nat} (h1 : 1 ≤ n) (h2 : n ≤ 20) : wrap64 (2 ^ n) = 2 ^ n ∧ wrap64 ((2 : Int) ^ n - 1) = 2 ^ n - 1 := by
  have hp := two_pow (n := (n : Int)) (by omega) (by omega)
  simp only [Int.toNat_natCast] at hp
  unfold wrap64
  omega
theorem top6_impl (n : Nat) (h1 : 1 ≤ n) (h2 : n ≤ 20) (w : World) :
    Calls Try.prog 149 #[ringV 6 0 n] w fun e w' => e = .returned (.int .i64 (2 ^ n - 1)) ∧ Below w.heap.size w w' := by
  have hp := wrap_pow h1 h2
  obtain ⟨e1, e2⟩ := hp
  have E2 := Lib.hid e2
  clear e2
  go_enter Try.func149, Try.ntmps149
  go_wp2
  go_ret
  exact ⟨congrArg (fun x => Ending.returned (.int .i64 x)) E2.out, (Below.refl _ _).alloc (Nat.le_refl _) _⟩
theorem top6_spec (n : Nat) (h1 : 1 ≤ n) (h2 : n ≤ 20) (w : World) :
    Calls Try.prog 109 #[ringV 6 0 n] w fun e w' => e = .returned (.int .i64 (2 ^ n - 1)) ∧ Below w.heap.size w w' := by
  have hp := wrap_pow h1 h2
  obtain ⟨e1, e2⟩ := hp
  have E2 := Lib.hid e2
  clear e2
  go_enter Try.func109, Try.ntmps109
  go_wp2
  go_ret
  exact ⟨congrArg (fun x => Ending.returned (.int .i64 x)) E2.out, (Below.refl _ _).alloc (Nat.le_refl _) _⟩
theorem top_impl (k p n : Int) (w : World) (h : ringB k p n = true) :
    Calls Try.prog 149 #[ringV k p n] w fun e w' => e = .returned (.int .i64 (topI k p n)) ∧ Below w.heap.size w w' := by
  rcases ring_cases h with ⟨rfl, g⟩ | ⟨rfl, g⟩ | ⟨rfl, g⟩ | ⟨rfl, g⟩ | ⟨rfl, g⟩ | ⟨rfl, g, g1, g2⟩ | ⟨rfl, g⟩ | ⟨rfl, g⟩
  case inr.inr.inr.inr.inr.inl =>
    obtain ⟨m, rfl⟩ := Int.eq_ofNat_of_zero_le (show 0 ≤ n by omega)
    subst g
    exact top6_impl m (by omega) (by omega) w
  all_goals
    clear h
    go_enter Try.func149, Try.ntmps149
    go_wp2
    go_ret
    exact ⟨by simp [topI], (Below.refl _ _).alloc (Nat.le_refl _) _⟩
theorem top_spec (k p n : Int) (w : World) (h : ringB k p n = true) :
    Calls Try.prog 109 #[ringV k p n] w fun e w' => e = .returned (.int .i64 (topI k p n)) ∧ Below w.heap.size w w' := by
  rcases ring_cases h with ⟨rfl, g⟩ | ⟨rfl, g⟩ | ⟨rfl, g⟩ | ⟨rfl, g⟩ | ⟨rfl, g⟩ | ⟨rfl, g, g1, g2⟩ | ⟨rfl, g⟩ | ⟨rfl, g⟩
  case inr.inr.inr.inr.inr.inl =>
    obtain ⟨m, rfl⟩ := Int.eq_ofNat_of_zero_le (show 0 ≤ n by omega)
    subst g
    exact top6_spec m (by omega) (by omega) w
  all_goals
    clear h
    go_enter Try.func109, Try.ntmps109
    go_wp2
    go_ret
    exact ⟨by simp [topI], (Below.refl _ _).alloc (Nat.le_refl _) _⟩

/-- What RingWidth answers. -/
noncomputable def ringWidthI (k p n : Int) : Int := if ringB k p n = true then widthI k n else 0
end Go.Proofs.Ytgabcdploeledaa
