
/- Boxes of the call's own; spec.ScalarTensor. -/
import Derived.Test.YtlmhnlepdfdceaaIntsNew
import Derived.Test.YtlmhnlepdfdceaaBx
import Derived.Test.YtlmhnlepdfdceaaTensorOk2
import Derived.Test.YtlmhnlepdfdceaaElemOk
namespace Go.Proofs.Ytlmhnlepdfdceaa
set_option maxRecDepth 20000
set_option maxRecDepth 20000
open Go.RowKit

noncomputable def scalarL (k p n : Int) (xs : List Int) : List Int := if okElemB k p n xs = true then xs else []
set_option maxHeartbeats 1600000 in
theorem scalar_spec {B : Nat} {v : Value} {k p n : Int} {xs : List Int} {w : World} (h : Rd B w v (ints xs)) (hB : B ≤ w.heap.size) (hn : xs.length ≤ 1099511627776) :
    Calls Try.prog 35 #[ringV k p n, v] w (NewTen w [] [] (scalarL k p n xs)) := by
  have H0 := Lib.hid h
  have HB := Lib.hid hB
  have T0 := Lib.hid (Bx.two w (.int .i64 k) (.int .i64 p) (.int .i64 n) nilV nilV nilV 34 27)
  have HE := Lib.hid (fun (w1 : World) (hb : Below w.heap.size w w1) => elem_ok_spec (k := k) (p := p) (n := n) (H0.out.below hb HB.out) (Nat.le_trans HB.out hb.size) (show xs.length ≤ 281474976710656 by omega))
  clear h hB
  obtain ⟨-, r0, r1, r2, -⟩ := T0.out.1
  cases hr : okElemB k p n xs with
  | false =>
    have HF : Hid (scalarL k p n xs = []) := by show _ = _; unfold scalarL; rw [hr]; rfl
    rw [hr] at HE
    clear hr
    go_enter Try.func35, Try.ntmps35
    go_wp2_with fail
    refine (HE.out _ T0.out.1.bel).mono ?_
    clear r0 r1 r2
    rintro e w1 ⟨rfl, hb⟩
    have T1 := Lib.hid (And.intro (T0.out.1.step hb) (T0.out.2.step hb))
    clear hb
    obtain ⟨-, s0, s1, s2, fr, -, -⟩ := T1.out.2
    have f0 := fr 0
    have f1 := fr 1
    have f2 := fr 2
    clear fr
    go_wp2
    refine bodyPost_ret (v := tenV nilV nilV nilV) (by simp [results, Try.results35, go_sem, s0, s1, s2]) rfl ?_
    rw [HF.out]
    exact NewTen.nils (((T1.out.2.bel.setCell (by simp) _).setCell (by simp) _).setCell (by simp) _)
  | true =>
    have HF : Hid (scalarL k p n xs = xs) := by show _ = _; unfold scalarL; rw [hr]; rfl
    rw [hr] at HE
    have HI := Lib.hid (fun (w1 : World) (hb : Below w.heap.size w w1) => ints_new (H0.out.below hb HB.out) (Nat.le_trans HB.out hb.size) hn)
    clear hr hn
    go_enter Try.func35, Try.ntmps35
    go_wp2_with fail
    refine (HE.out _ T0.out.1.bel).mono ?_
    clear r0 r1 r2
    rintro e w1 ⟨rfl, hb⟩
    have T1 := Lib.hid (And.intro (T0.out.1.step hb) (T0.out.2.step hb))
    clear hb
    go_wp2_with fail
    refine (HI.out _ T1.out.1.bel).mono ?_
    rintro e w2 ⟨u, rfl, ho, hb⟩
    have T2 := Lib.hid (T1.out.2.step hb)
    have O2 := Lib.hid ho
    obtain ⟨a1, c1, rfl, -⟩ := ints_form ho.rd
    obtain ⟨m, hm⟩ : ∃ m, m = xs.length := ⟨_, rfl⟩
    rw [← hm] at O2 ⊢
    have Z2 := Lib.hid hb.size
    clear hb ho hm
    obtain ⟨-, s0, s1, s2, fr, -, -⟩ := T2.out
    have f0 := fr 0
    have f1 := fr 1
    have f2 := fr 2
    clear fr
    go_wp2
    refine bodyPost_ret (v := tenV nilV nilV (.slice a1 m c1)) (by simp [results, Try.results35, go_sem, s0, s1, s2]) rfl ?_
    rw [HF.out]
    have hz := T1.out.2.lt
    have hz1 := T1.out.1.bel.size
    refine ⟨_, _, _, rfl, ?_, ((T2.out.bel.setCell (by simp) _).setCell (by simp) _).setCell (by simp) _⟩
    exact OwnG.wide (lo := w1.heap.size) (hi := w2.heap.size) (OwnG.three (m1 := w1.heap.size) (m2 := w1.heap.size) (Own.nils (by simpa using Z2.out)) (Own.nils (by simpa using Z2.out)) (Own.set (Own.set (Own.set O2.out (by omega) _) (by omega) _) (by omega) _) (Nat.le_refl _) (Nat.le_refl _) Z2.out) hz1 (by simp) (by simp)
end Go.Proofs.Ytlmhnlepdfdceaa
