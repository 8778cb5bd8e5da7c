
/- ElemOk, both. -/
import Derived.Test.YtghhlknfeogadaaDoorHolds
namespace Go.Proofs.YtghhlknfeogadaaDoor
set_option maxRecDepth 20000
open Go.RowKit

noncomputable def okElemB (k p n : Int) (xs : List Int) : Bool := ringB k p n && elemB k p n xs
set_option maxHeartbeats 400000 in
theorem elem_ok_spec {B : Nat} {v : Value} {k p n : Int} {xs : List Int} {w : World} (h : Rd B w v (ints xs)) (hB : B ≤ w.heap.size) (hn : xs.length ≤ 281474976710656) :
    Calls Tryd.prog 41 #[ringV k p n, v] w fun e w' => e = .returned (.bool (okElemB k p n xs)) ∧ Below w.heap.size w w' := by
  have HH := Lib.hid h
  clear h
  cases hr : ringB k p n with
  | false =>
    have e : okElemB k p n xs = false := by simp [okElemB, hr]
    rw [e]
    have HR := Lib.hid hr
    clear hr e
    go_enter Tryd.func41, Tryd.ntmps41
    go_wp2_with fail
    refine (Inv.call (Lib.hid (Inv.box w k p n _)) (ring_ok_spec k p n _)).mono ?_
    rw [HR.out]
    rintro e w1 ⟨rfl, HV1, c0, c1, c2⟩
    go_wp2
    go_ret
    exact ⟨rfl, HV1.out.1⟩
  | true =>
    have e : okElemB k p n xs = elemB k p n xs := by simp [okElemB, hr]
    rw [e]
    obtain ⟨r, hres⟩ : ∃ r, r = elemB k p n xs := ⟨_, rfl⟩
    rw [← hres]
    have HE := Lib.hid hres
    have HR := Lib.hid hr
    clear hr e hres
    go_enter Tryd.func41, Tryd.ntmps41
    go_wp2_with fail
    refine (Inv.call (Lib.hid (Inv.box w k p n _)) (ring_ok_spec k p n _)).mono ?_
    rw [HR.out]
    rintro e w1 ⟨rfl, HV1, c0, c1, c2⟩
    go_wp2_with fail
    refine (Inv.call HV1 (elem_spec HR.out (HH.out.below HV1.out.1 hB) (Nat.le_trans hB HV1.out.1.size) hn)).mono ?_
    rw [← HE.out]
    clear c0 c1 c2
    rintro e w2 ⟨rfl, HV2, c0, c1, c2⟩
    go_wp2
    go_ret
    exact ⟨rfl, HV2.out.1⟩

theorem RdRows.one {w1 : World} {B b : Nat} {v : Value} {xs : List Int} (h : Rd B w1 v (ints xs)) (hB : B ≤ b) (hc : w1.cell? ⟨b, 0, none⟩ = some v) : RdRows (b + 1) w1 (.slice (some ⟨b, 0, none⟩) 1 1) [xs] :=
  ⟨[v], .inr ⟨b, 0, 1, rfl, by omega, by simp, fun i u hi => by
    cases i with
    | zero => simp at hi; subst hi; exact hc
    | succ i => simp at hi⟩, rfl, fun i hi => by
    simp at hi; subst hi
    exact ⟨v, rfl, h.mono (by omega)⟩⟩
theorem RdRows.two {w1 : World} {B b : Nat} {v u : Value} {xs ys : List Int} (h : Rd B w1 v (ints xs)) (h2 : Rd B w1 u (ints ys)) (hB : B ≤ b) (hc : w1.cell? ⟨b, 0, none⟩ = some v) (hd : w1.cell? ⟨b, 1, none⟩ = some u) : RdRows (b + 1) w1 (.slice (some ⟨b, 0, none⟩) 2 2) [xs, ys] :=
  ⟨[v, u], .inr ⟨b, 0, 2, rfl, by omega, by simp, fun i z hi => by
    match i, hi with
    | 0, hi => simp at hi; subst hi; exact hc
    | 1, hi => simp at hi; subst hi; exact hd⟩, rfl, fun i hi => by
    match i, hi with
    | 0, hi => exact ⟨v, rfl, h.mono (by omega)⟩
    | 1, hi => exact ⟨u, rfl, h2.mono (by omega)⟩⟩
end Go.Proofs.YtghhlknfeogadaaDoor
