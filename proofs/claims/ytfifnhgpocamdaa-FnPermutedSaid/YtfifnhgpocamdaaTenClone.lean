
/- (Tensor).clone: a copy of a tensor. -/
import Derived.Test.YtfifnhgpocamdaaRs
import Derived.Test.YtfifnhgpocamdaaZero
import Derived.Deep.RegionHeld3
namespace Go.Proofs.Ytfifnhgpocamdaa
set_option maxRecDepth 20000
open Go.RowKit

set_option maxHeartbeats 1600000 in
theorem clone_ten {B : Nat} {lv dv xv : Value} {L D X : List Int} {w : World} (h : RdT B w lv dv xv L D X) (hB : B ≤ w.heap.size) (h1 : L.length ≤ 1099511627776) (h2 : D.length ≤ 1099511627776) (h3 : X.length ≤ 1099511627776) :
    Calls Try.prog 38 #[tenV lv dv xv] w (NewTen w L D X) := by
  have H0 := Lib.hid h
  have HB := Lib.hid hB
  obtain ⟨al, cl, rfl, -⟩ := ints_form h.l
  obtain ⟨ad, cd, rfl, -⟩ := ints_form h.d
  obtain ⟨ax, cx, rfl, -⟩ := ints_form h.x
  have T0 := Lib.hid (Bx.two w (.slice al L.length cl) (.slice ad D.length cd) (.slice ax X.length cx) nilV nilV nilV 28 28)
  have HI1 := Lib.hid (fun (w1 : World) (hb : Below w.heap.size w w1) => clone_any (H0.out.below hb HB.out).l (Nat.le_trans HB.out hb.size) h1)
  have HI2 := Lib.hid (fun (w1 : World) (hb : Below w.heap.size w w1) => clone_any (H0.out.below hb HB.out).d (Nat.le_trans HB.out hb.size) h2)
  have HI3 := Lib.hid (fun (w1 : World) (hb : Below w.heap.size w w1) => clone_any (H0.out.below hb HB.out).x (Nat.le_trans HB.out hb.size) h3)
  obtain ⟨ml, hml⟩ : ∃ m, m = L.length := ⟨_, rfl⟩
  obtain ⟨md, hmd⟩ : ∃ m, m = D.length := ⟨_, rfl⟩
  obtain ⟨mx, hmx⟩ : ∃ m, m = X.length := ⟨_, rfl⟩
  rw [← hml, ← hmd, ← hmx] at T0 ⊢
  rw [← hml] at HI1
  rw [← hmd] at HI2
  rw [← hmx] at HI3
  clear h hB h1 h2 h3 H0 hml hmd hmx
  go_enter Try.func38, Try.ntmps38
  go_wp2
  generalize hW : (w.alloc (.cells #[.slice al ml cl, .slice ad md cd, .slice ax mx cx] 28)).alloc (.cells #[nilV, nilV, nilV] 28) = w1 at T0 ⊢
  clear hW
  have T1 := Lib.hid (And.intro (T0.out.1.step ((Below.refl _ _).drew)) (T0.out.2.step ((Below.refl _ _).drew)))
  clear T0
  obtain ⟨-, s0, s1, s2, -⟩ := T1.out.1
  have AR1 := Lib.hid True.intro
  have AR2 := Lib.hid True.intro
  have AR3 := Lib.hid True.intro
  go_region_held3 (fun w' => w'.cell? ⟨w.heap.size, 0, none⟩ = some (.slice al ml cl) ∧ w'.cell? ⟨w.heap.size, 1, none⟩ = some (.slice ad md cd) ∧ w'.cell? ⟨w.heap.size, 2, none⟩ = some (.slice ax mx cx)) (first | exact ⟨s0, s1, s2⟩ | with_reducible exact set3_keep (Nat.ne_of_lt (Nat.lt_succ_self _)) s0 s1 s2) (first
    | (go_at_call 63; have AR := AR1; clear AR AR1; refine (HI1.out _ T1.out.1.bel).mono ?_; rintro e w2 ⟨u1, rfl, ho, hb⟩; obtain ⟨a1, c1, rfl, -⟩ := ints_form ho.rd; have T2 := Lib.hid (And.intro (T1.out.1.step hb) (T1.out.2.step hb)); have Z2 := Lib.hid hb.size; have O12 := Lib.hid ho; clear ho hb s0 s1 s2; obtain ⟨-, s0, s1, s2, -⟩ := T2.out.1)
    | (go_at_call 63; have AR := AR2; clear AR AR2; refine (HI2.out _ T2.out.1.bel).mono ?_; rintro e w3 ⟨u2, rfl, ho, hb⟩; obtain ⟨a2, c2, rfl, -⟩ := ints_form ho.rd; have T3 := Lib.hid (And.intro (T2.out.1.step hb) (T2.out.2.step hb)); have Z3 := Lib.hid hb.size; have O13 := Lib.hid (O12.out.below hb (Nat.le_refl _)); have O23 := Lib.hid ho; clear ho hb s0 s1 s2; obtain ⟨-, s0, s1, s2, -⟩ := T3.out.1)
    | (go_at_call 63; have AR := AR3; clear AR AR3; refine (HI3.out _ T3.out.1.bel).mono ?_; rintro e w4 ⟨u3, rfl, ho, hb⟩; obtain ⟨a3, c3, rfl, -⟩ := ints_form ho.rd; have T4 := Lib.hid (And.intro (T3.out.1.step hb) (T3.out.2.step hb)); have Z4 := Lib.hid hb.size; have O14 := Lib.hid (O13.out.below hb (Nat.le_refl _)); have O24 := Lib.hid (O23.out.below hb (Nat.le_refl _)); have O34 := Lib.hid ho; clear ho hb s0 s1 s2; obtain ⟨-, s0, s1, s2, -⟩ := T4.out.1; obtain ⟨-, t0, t1, t2, fr, -, -⟩ := T4.out.2; have f0 := fr 0; have f1 := fr 1; have f2 := fr 2; clear fr))
  clear s0 s1 s2
  go_wp2
  refine bodyPost_ret (v := tenV (.slice a1 L.length c1) (.slice a2 D.length c2) (.slice a3 X.length c3)) (by simp [results, Try.results38, go_sem, t0, t1, t2]) rfl ?_
  have z1 := T1.out.2.lt
  have z1' := T1.out.1.bel.size
  have z2 := Z2.out
  have z3 := Z3.out
  have z4 := Z4.out
  refine ⟨_, _, _, rfl, ?_, ((T4.out.2.bel.setCell (by simp) _).setCell (by simp) _).setCell (by simp) _⟩
  exact OwnG.wide (lo := w1.drew.heap.size) (hi := w4.heap.size) (OwnG.three (m1 := w2.heap.size) (m2 := w3.heap.size) (Own.set (Own.set (Own.set O14.out (by omega) _) (by omega) _) (by omega) _) (Own.set (Own.set (Own.set O24.out (by omega) _) (by omega) _) (by omega) _) (Own.set (Own.set (Own.set O34.out (by omega) _) (by omega) _) (by omega) _) z2 z3 z4) z1' (by simp) (by simp)
end Go.Proofs.Ytfifnhgpocamdaa
