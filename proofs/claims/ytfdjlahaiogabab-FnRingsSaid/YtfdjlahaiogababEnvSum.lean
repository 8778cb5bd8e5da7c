
/- SumElems on three elements of an environment. -/
import Derived.Test.YtfdjlahaiogababEnv
namespace Go.Proofs.Ytfdjlahaiogabab
set_option maxRecDepth 20000
open Go.RowKit

theorem RdRows.three {w1 : World} {B b : Nat} {v u t : Value} {xs ys zs : List Int} (h : Rd B w1 v (ints xs)) (h2 : Rd B w1 u (ints ys)) (h3 : Rd B w1 t (ints zs)) (hB : B ≤ b) (hc : w1.cell? ⟨b, 0, none⟩ = some v) (hd : w1.cell? ⟨b, 1, none⟩ = some u) (he : w1.cell? ⟨b, 2, none⟩ = some t) : RdRows (b + 1) w1 (.slice (some ⟨b, 0, none⟩) 3 3) [xs, ys, zs] :=
  ⟨[v, u, t], .inr ⟨b, 0, 3, rfl, by omega, by simp, fun i z hi => by
    match i, hi with
    | 0, hi => simp at hi; subst hi; exact hc
    | 1, hi => simp at hi; subst hi; exact hd
    | 2, hi => simp at hi; subst hi; exact he⟩, rfl, fun i hi => by
    match i, hi with
    | 0, hi => exact ⟨v, rfl, h.mono (by omega)⟩
    | 1, hi => exact ⟨u, rfl, h2.mono (by omega)⟩
    | 2, hi => exact ⟨t, rfl, h3.mono (by omega)⟩⟩
theorem env_sum {w0 w : World} {rb : Nat} {k p q : Int} {L : List (Value × List Int)} {va vb vc : Value} {xs ys zs : List Int} (h : Hid (Env w0 w rb k p q L)) (h1 : (va, xs) ∈ L) (h2 : (vb, ys) ∈ L) (h3 : (vc, zs) ∈ L) :
    Calls Try.prog 60 #[ringV k p q, .slice (some ⟨w.heap.size, 0, none⟩) 3 3] (w.alloc (.cells #[va, vb, vc] 24)) (EnvPost w0 rb k p q L (plusL k p (plusL k p xs ys) zs)) := by
  have ha := h.out.step ((Below.refl w.heap.size w).alloc (Nat.le_refl _) (.cells #[va, vb, vc] 24))
  have hb := (Below.refl w.heap.size w).alloc (Nat.le_refl _) (.cells #[va, vb, vc] 24)
  obtain ⟨a1, a2⟩ := h.out.2.2.2.2 _ h1
  obtain ⟨b1, b2⟩ := h.out.2.2.2.2 _ h2
  obtain ⟨d1, d2⟩ := h.out.2.2.2.2 _ h3
  have hr := h.out.2.2.2.1
  have e1 := elem_short hr a2
  have e2 := elem_short hr b2
  have e3 := elem_short hr d2
  have hs : sumElemsL k p q [xs, ys, zs] = plusL k p (plusL k p xs ys) zs := by
    unfold sumElemsL
    rw [if_pos]
    · show plusL k p (plusL k p (plusL k p (zeroL k p q) xs) ys) zs = _
      rw [plusL_zero_left hr a2]
    · unfold holdsB
      simp only [hr, List.all_cons, List.all_nil, elemB_true.2 a2, elemB_true.2 b2, elemB_true.2 d2]
      rfl
  refine Env.made (Lib.hid ha) (plusL_elem hr (plusL_elem hr a2 b2) d2) hs (sum_impl (B := w.heap.size + 1) (RdRows.three (B := w.heap.size) (b := w.heap.size) (a1.below hb (Nat.le_refl _)) (b1.below hb (Nat.le_refl _)) (d1.below hb (Nat.le_refl _)) (Nat.le_refl _) (by simp) (by simp) (by simp)) (by simp) (by simp) (fun l hl => ?_))
  simp only [List.mem_cons, List.not_mem_nil, or_false] at hl
  rcases hl with rfl | rfl | rfl
  · exact Nat.le_trans e1 (by omega)
  · exact Nat.le_trans e2 (by omega)
  · exact Nat.le_trans e3 (by omega)
end Go.Proofs.Ytfdjlahaiogabab
