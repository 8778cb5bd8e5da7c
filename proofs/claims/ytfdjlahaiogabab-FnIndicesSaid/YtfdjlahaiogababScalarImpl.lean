
/- impl.ScalarTensor. -/
import Derived.Test.YtfdjlahaiogababRs
import Derived.Test.YtfdjlahaiogababZero
import Derived.Test.YtfdjlahaiogababZeroImpl
namespace Go.Proofs.Ytfdjlahaiogabab
set_option maxRecDepth 20000
open Go.RowKit

theorem okElem_holds (k p n : Int) (xs : List Int) : holdsB k p n [xs] = okElemB k p n xs := by simp [okElemB, holdsB]
set_option maxHeartbeats 1600000 in
theorem scalar_impl {B : Nat} {v : Value} {k p n : Int} {xs : List Int} {w : World} (h : Rd B w v (ints xs)) (hB : B ≤ w.heap.size) (hn : xs.length ≤ 281474976710656) :
    Calls Try.prog 53 #[ringV k p n, v] w (NewTen w (noneL 0) (noneL 1) (scalarL k p n xs)) := by
  show Calls _ _ _ _ (NewTen w [] [] (scalarL k p n xs))
  obtain ⟨a, cap, rfl, -⟩ := ints_form h
  have H0 := Lib.hid h
  have HB := Lib.hid hB
  have T0 := Lib.hid (Bx.two w (.int .i64 k) (.int .i64 p) (.int .i64 n) nilV nilV nilV 31 28)
  obtain ⟨len, hlen⟩ : ∃ len, len = xs.length := ⟨_, rfl⟩
  rw [← hlen] at H0 ⊢
  have HA := Lib.hid ((Below.refl ((w.alloc (.cells #[.int .i64 k, .int .i64 p, .int .i64 n] 31)).alloc (.cells #[nilV, nilV, nilV] 28)).heap.size ((w.alloc (.cells #[.int .i64 k, .int .i64 p, .int .i64 n] 31)).alloc (.cells #[nilV, nilV, nilV] 28))).alloc (Nat.le_refl _) (.cells #[.slice a len cap] 24))
  have T1 := Lib.hid (And.intro (T0.out.1.step HA.out) (T0.out.2.step HA.out))
  have HH := Lib.hid (holds_impl (k := k) (p := p) (n := n) (rows := [xs]) (RdRows.one (B := B) (b := w.heap.size + 1 + 1) (H0.out.below T1.out.1.bel HB.out) (by have := HB.out; omega) (by simp [World.cell?_alloc_at])) (by simp) (by simp) (by simpa using hn))
  rw [okElem_holds] at HH
  clear h hB hn hlen HA
  obtain ⟨-, r0, r1, r2, -⟩ := T0.out.1
  cases hr : okElemB k p n xs with
  | false =>
    have HF : Hid (scalarL k p n xs = []) := by show _ = _; unfold scalarL; rw [hr]; rfl
    rw [hr] at HH
    clear hr
    go_enter Try.func53, Try.ntmps53
    go_wp2_with fail
    refine HH.out.mono ?_
    clear r0 r1 r2
    rintro e w1 ⟨rfl, hb⟩
    have T2 := Lib.hid (And.intro (T1.out.1.step hb) (T1.out.2.step hb))
    clear hb
    obtain ⟨-, s0, s1, s2, fr, -, -⟩ := T2.out.2
    have f0 := fr 0
    have f1 := fr 1
    have f2 := fr 2
    clear fr
    go_wp2
    refine bodyPost_ret (v := tenV nilV nilV nilV) (by simp [results, Try.results53, go_sem, s0, s1, s2]) rfl ?_
    rw [HF.out]
    exact NewTen.nils (((T2.out.2.bel.setCell (by simp) _).setCell (by simp) _).setCell (by simp) _)
  | true =>
    have HF : Hid (scalarL k p n xs = xs) := by show _ = _; unfold scalarL; rw [hr]; rfl
    have hxl : xs.length ≤ 6 := by
      unfold okElemB at hr
      simp only [Bool.and_eq_true] at hr
      have h1 := (elemB_true.1 hr.2).1
      have h2 := ring_width hr.1
      omega
    rw [hr] at HH
    have HI := Lib.hid (fun (w1 : World) (hb : Below w.heap.size w w1) => clone_any (H0.out.below hb HB.out) (Nat.le_trans HB.out hb.size) (show xs.length ≤ 1099511627776 by omega))
    clear hr hxl
    go_enter Try.func53, Try.ntmps53
    go_wp2_with fail
    refine HH.out.mono ?_
    clear r0 r1 r2
    rintro e w1 ⟨rfl, hb⟩
    have T2 := Lib.hid (And.intro (T1.out.1.step hb) (T1.out.2.step hb))
    clear hb
    go_wp2_with fail
    refine (HI.out _ T2.out.1.bel).mono ?_
    rintro e w2 ⟨u, rfl, ho, hb⟩
    have T3 := Lib.hid (T2.out.2.step hb)
    have O2 := Lib.hid ho
    obtain ⟨a1, c1, rfl, -⟩ := ints_form ho.rd
    obtain ⟨m, hm⟩ : ∃ m, m = xs.length := ⟨_, rfl⟩
    rw [← hm] at O2 ⊢
    have Z2 := Lib.hid hb.size
    clear hb ho hm
    obtain ⟨-, s0, s1, s2, fr, -, -⟩ := T3.out
    have f0 := fr 0
    have f1 := fr 1
    have f2 := fr 2
    clear fr
    go_wp2
    refine bodyPost_ret (v := tenV nilV nilV (.slice a1 m c1)) (by simp [results, Try.results53, go_sem, s0, s1, s2]) rfl ?_
    rw [HF.out]
    have hz := T2.out.2.lt
    have hz1 := T2.out.1.bel.size
    refine ⟨_, _, _, rfl, ?_, ((T3.out.bel.setCell (by simp) _).setCell (by simp) _).setCell (by simp) _⟩
    exact OwnG.wide (lo := w1.heap.size) (hi := w2.heap.size) (OwnG.three (m1 := w1.heap.size) (m2 := w1.heap.size) (Own.nils (by simpa using Z2.out)) (Own.nils (by simpa using Z2.out)) (Own.set (Own.set (Own.set O2.out (by omega) _) (by omega) _) (by omega) _) (Nat.le_refl _) (Nat.le_refl _) Z2.out) hz1 (by simp) (by simp)
end Go.Proofs.Ytfdjlahaiogabab
