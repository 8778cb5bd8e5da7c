
/- impl.StackTensors in all cases. -/
import Derived.Test.YtceidekfcnmeaaaStackImpl
namespace Go.Proofs.Ytceidekfcnmeaaa
set_option maxRecDepth 20000
open Go.RowKit

set_option maxHeartbeats 1600000 in
theorem stack_impl_none {k p q b : Int} {a : Option Addr} {cap : Nat} {w : World} :
    Calls Try.prog 8 #[ringV k p q, .slice a 0 cap, .int .i64 b] w (NewTen2 w [] [] [] false) := by
  obtain ⟨w0, hw0⟩ : ∃ W, W = ((w.alloc (.cells #[.int .i64 k, .int .i64 p, .int .i64 q] 31)).alloc (.cells #[.slice a 0 cap] 33)).alloc (.cells #[nilV, nilV, nilV] 28) := ⟨_, rfl⟩
  have S0 : Hid (Rs w w0 [(w.heap.size + 2, nilV, nilV, nilV), (w.heap.size, .int .i64 k, .int .i64 p, .int .i64 q)] []) := Lib.hid (by
    have h := (((Rs.start w).box (.int .i64 k) (.int .i64 p) (.int .i64 q) 31).alloc (.cells #[.slice a 0 cap] 33)).box nilV nilV nilV 28
    simp only [World.size_alloc] at h
    rw [hw0]
    exact h)
  have HW0 := Lib.hid hw0
  clear hw0
  go_enter Try.func8, Try.ntmps8
  go_upto_region 2 with fail
  rw [← HW0.out]
  clear HW0
  obtain ⟨⟨t0, t1, t2⟩, f0, f1, f2⟩ := S0.out.at (r := w.heap.size + 2) (a := nilV) (b := nilV) (c := nilV) (by simp)
  go_wp2
  refine bodyPost_ret (v := .tuple #[tenV nilV nilV nilV, .bool false]) (by simp [results, Try.results8, go_sem, t0, t1, t2]) rfl ?_
  exact NewTen2.nils (((S0.out.bel.setCell (p := ⟨w.heap.size + 2, 0, none⟩) (by show w.heap.size ≤ w.heap.size + 2; omega) _).setCell (p := ⟨w.heap.size + 2, 1, none⟩) (by show w.heap.size ≤ w.heap.size + 2; omega) _).setCell (p := ⟨w.heap.size + 2, 2, none⟩) (by show w.heap.size ≤ w.heap.size + 2; omega) _)
theorem stack_impl {B : Nat} {lv : Value} {k p q b : Int} {ts : List TenE} {w : World} (ha : RdTs B w lv ts) (hB : B ≤ w.heap.size) (hnn : ts.length ≤ 1048576) (hlen : ∀ t ∈ ts, t.1.length ≤ 1048576 ∧ t.2.1.length ≤ 1048576 ∧ t.2.2.length ≤ 1048576) (hI : ∀ t ∈ ts, allI t.1) (hb : inI b) :
    Calls Try.prog 8 #[ringV k p q, lv, .int .i64 b] w (NewTen2 w (if stackB k p q ts b = true then (headT ts).1 ++ [b] else []) (if stackB k p q ts b = true then (headT ts).2.1 ++ [(ts.length : Int)] else []) (if stackB k p q ts b = true then stackX k q ts (headT ts).1 (headT ts).2.1 else []) (stackB k p q ts b)) := by
  cases ts with
  | nil =>
    obtain ⟨a, cap, rfl⟩ := ha.form
    have h0 : stackB k p q [] b = false := by unfold stackB; simp
    rw [h0]
    exact stack_impl_none
  | cons t r =>
    exact stack_impl_some (L := t.1) (D := t.2.1) (X := t.2.2) ha hB rfl (by simp) hnn rfl hlen hI hb rfl
/-- What is no older is not changed by a call. -/
theorem OwnTs.below {w w' : World} {lo hi : Nat} {v : Value} {ts : List TenE} (h : OwnTs w lo hi v ts) (hb : Below w.heap.size w w') : OwnTs w' lo hi v ts := by
  obtain ⟨zs, cs, h1, h2, h3, h4, h5, h6⟩ := h
  refine ⟨zs, cs, h1, h2.kept (row := none) ⟨hb.os, hb.tape, hb.output, hb.size, fun j hj _ => hb.block j hj⟩ ?_, h3, h4.below hb (Nat.le_refl _), h5, Nat.le_trans h6 hb.size⟩
  cases v.ownBlock with
  | none => exact .inl rfl
  | some g => exact .inr (by simp)
theorem wt_le {ts : List TenE} {t : TenE} (h : t ∈ ts) : wtT t ≤ totT ts := by
  induction ts with
  | nil => cases h
  | cons a r ih =>
    have e : totT (a :: r) = wtT a + totT r := by simp [totT]
    rcases List.mem_cons.1 h with rfl | h
    · omega
    · have := ih h; omega
theorem noRows (w : World) (lo hi : Nat) : OwnG w lo hi [] := ⟨by simp, List.Pairwise.nil⟩
end Go.Proofs.Ytceidekfcnmeaaa
