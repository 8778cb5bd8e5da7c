
/- impl.ZeroTensor. -/
import Derived.Test.YtlmhnlepdfdceaaRepeat
import Derived.Test.YtlmhnlepdfdceaaTenClone
import Derived.Test.YtlmhnlepdfdceaaSizeImpl
import Derived.Test.YtlmhnlepdfdceaaZeroTensor
namespace Go.Proofs.Ytlmhnlepdfdceaa
set_option maxRecDepth 20000
set_option maxRecDepth 20000
open Go.RowKit

theorem Bx.set3 {w0 w : World} {r : Nat} {a b c : Value} (h : Bx w0 w r a b c) (x y z : Value) : Bx w0 (((w.setCell ⟨r, 0, none⟩ x).setCell ⟨r, 1, none⟩ y).setCell ⟨r, 2, none⟩ z) r x y z := by
  have c := ((h.set x 0).set y 1).set z 2
  simp only [if_true, if_false, Nat.one_ne_zero, Nat.zero_ne_one, Nat.reduceEqDiff] at c
  exact c
theorem Bx.far3 {w0 w : World} {r g : Nat} {a b c : Value} (h : Bx w0 w r a b c) (hg : r ≠ g) (h0 : w0.heap.size ≤ g) (x y z : Value) : Bx w0 (((w.setCell ⟨g, 0, none⟩ x).setCell ⟨g, 1, none⟩ y).setCell ⟨g, 2, none⟩ z) r a b c :=
  ((h.far hg h0 x 0).far hg h0 y 1).far hg h0 z 2
theorem Bx.last {w0 w : World} {r : Nat} {a b c : Value} (h : Bx w0 w r a b c) (z : Value) : Bx w0 (w.setCell ⟨r, 2, none⟩ z) r a b z := by
  have c := h.set z 2
  simp only [if_true, if_false, Nat.reduceEqDiff, Nat.succ_ne_zero] at c
  exact c
/-- The third box is written. -/
theorem Three.put {w0 w : World} {k p q : Int} {lv dv xv a b c : Value} (h : Three w0 w k p q lv dv xv a b c) (x y z : Value) :
    Three w0 (((w.setCell ⟨w0.heap.size + 1 + 1, 0, none⟩ x).setCell ⟨w0.heap.size + 1 + 1, 1, none⟩ y).setCell ⟨w0.heap.size + 1 + 1, 2, none⟩ z) k p q lv dv xv x y z :=
  ⟨h.1.far3 (by omega) (by omega) x y z, h.2.1.far3 (by omega) (by omega) x y z, h.2.2.set3 x y z⟩
theorem Three.putLast {w0 w : World} {k p q : Int} {lv dv xv a b c : Value} (h : Three w0 w k p q lv dv xv a b c) (z : Value) :
    Three w0 (w.setCell ⟨w0.heap.size + 1 + 1, 2, none⟩ z) k p q lv dv xv a b z :=
  ⟨h.1.far (by omega) (by omega) z 2, h.2.1.far (by omega) (by omega) z 2, h.2.2.last z⟩
theorem Three.second {w0 w : World} {k p q : Int} {lv dv xv a b c : Value} (h : Three w0 w k p q lv dv xv a b c) :
    w.cell? ⟨w0.heap.size + 1, 0, none⟩ = some lv ∧ w.cell? ⟨w0.heap.size + 1, 1, none⟩ = some dv ∧ w.cell? ⟨w0.heap.size + 1, 2, none⟩ = some xv ∧ w.frozen? ⟨w0.heap.size + 1, 0, none⟩ = false ∧ w.frozen? ⟨w0.heap.size + 1, 1, none⟩ = false ∧ w.frozen? ⟨w0.heap.size + 1, 2, none⟩ = false :=
  ⟨h.2.1.c0, h.2.1.c1, h.2.1.c2, h.2.1.fr 0, h.2.1.fr 1, h.2.1.fr 2⟩
theorem Three.ring {w0 w : World} {k p q : Int} {lv dv xv a b c : Value} (h : Three w0 w k p q lv dv xv a b c) :
    w.cell? ⟨w0.heap.size, 0, none⟩ = some (.int .i64 k) ∧ w.cell? ⟨w0.heap.size, 1, none⟩ = some (.int .i64 p) ∧ w.cell? ⟨w0.heap.size, 2, none⟩ = some (.int .i64 q) := ⟨h.1.c0, h.1.c1, h.1.c2⟩

set_option maxHeartbeats 3200000 in
theorem zero_tensor_impl {B : Nat} {lv dv : Value} {k p q : Int} {L D : List Int} {w : World} (hl : Rd B w lv (ints L)) (hd : Rd B w dv (ints D)) (hB : B ≤ w.heap.size) (h1 : L.length ≤ 281474976710656) (h2 : D.length ≤ 281474976710656) (hI : allI L) :
    Calls Try.prog 34 #[ringV k p q, lv, dv] w (NewTenB w (if zeroTenB k p q L D = true then L else []) (if zeroTenB k p q L D = true then D else []) (if zeroTenB k p q L D = true then zeroTenL k p q D else []) (zeroTenB k p q L D)) := by
  have HL0 := Lib.hid hl
  have HD0 := Lib.hid hd
  have HB := Lib.hid hB
  have T0 := Lib.hid (Three.start w k p q nilV nilV nilV lv dv nilV 34 27 27)
  have HT := Lib.hid (fun (w1 : World) (hb : Below w.heap.size w w1) => (⟨HL0.out.below hb HB.out, HD0.out.below hb HB.out, .inl ⟨rfl, none, 0, rfl⟩⟩ : RdT B w1 lv dv nilV L D []))
  have HS := Lib.hid (size_impl (HT.out _ T0.out.1.bel) (Nat.le_trans HB.out T0.out.1.bel.size) ⟨h1, h2, by simp⟩ hI)
  have HR := Lib.hid (fun (w1 : World) => ring_ok_impl k p q w1)
  obtain ⟨rb, hrb⟩ : ∃ b, b = ringB k p q := ⟨_, rfl⟩
  obtain ⟨s, hs⟩ : ∃ s, s = sizeI L D := ⟨_, rfl⟩
  obtain ⟨zb, hzb⟩ : ∃ b, b = zeroTenB k p q L D := ⟨_, rfl⟩
  rw [← hrb] at HR
  rw [← hs] at HS
  rw [← hzb]
  have HZB : Hid (zb = (rb && decide (0 ≤ s))) := by show _ = _; rw [hzb, hrb, hs]; rfl
  have HRB := Lib.hid hrb
  have HSI := Lib.hid hs
  obtain ⟨al, cl, rfl, -⟩ := ints_form hl
  obtain ⟨ad, cd, rfl, -⟩ := ints_form hd
  have HML := Lib.hid (And.intro h1 h2)
  obtain ⟨ml, hml⟩ : ∃ m, m = L.length := ⟨_, rfl⟩
  obtain ⟨md, hmd⟩ : ∃ m, m = D.length := ⟨_, rfl⟩
  rw [← hml, ← hmd] at HT HS T0 ⊢
  clear hl hd hB h1 h2 hI hrb hs hzb
  have HLD := Lib.hid (And.intro hml hmd)
  clear hml hmd
  obtain ⟨t0, t1, t2, f0, f1, f2⟩ := T0.out.ans
  by_cases h0 : 0 ≤ s
  · have q1 : decide (s < 0) = false := by simpa using h0
    cases rb with
    | false =>
      obtain rfl : zb = false := by rw [HZB.out]; rfl
      simp only [Bool.false_eq_true, if_false]
      clear h0
      go_enter Try.func34, Try.ntmps34
      go_wp2_with fail
      refine HS.out.mono ?_
      clear t0 t1 t2 f0 f1 f2
      rintro e w1 ⟨rfl, hb⟩
      have T1 := Lib.hid (T0.out.step hb)
      clear hb
      obtain ⟨r0, r1, r2⟩ := T1.out.ring
      go_wp2_with fail
      refine (HR.out _).mono ?_
      clear r0 r1 r2
      rintro e w2 ⟨rfl, hb⟩
      have T2 := Lib.hid (T1.out.step hb)
      clear hb
      obtain ⟨s0, s1, s2, g0, g1, g2⟩ := T2.out.second
      go_wp2
      refine bodyPost_ret (v := .tuple #[tenV nilV nilV nilV, .bool false]) (by simp [results, Try.results34, go_sem, s0, s1, s2]) rfl ?_
      exact NewTenB.nils (((T2.out.1.bel.setCell (by simp) _).setCell (by simp) _).setCell (by simp) _)
    | true =>
      obtain rfl : zb = true := by rw [HZB.out]; simpa using h0
      simp only [if_true]
      have hsz := sizeI_cases L D
      rw [← HSI.out] at hsz
      obtain ⟨hs1, hax, hp1, hp2⟩ : s = prodL D ∧ AxesV L D ∧ 1 ≤ prodL D ∧ prodL D ≤ 4096 := by
        rcases hsz with h | h
        · omega
        · exact h
      obtain ⟨c, rfl⟩ : ∃ c : Nat, s = (c : Int) := ⟨s.toNat, by omega⟩
      have hc1 : 1 ≤ c := by omega
      have hc2 : c ≤ 4096 := by omega
      have HC12 := Lib.hid (And.intro hc1 hc2)
      obtain ⟨wd, hwd, hwd1, hwd2⟩ := width_nat HRB.out.symm
      have HZL : Hid ((zeroL k p q).length = wd) := Lib.hid (by unfold zeroL; simp [hwd])
      have HWD := Lib.hid (And.intro hwd1 hwd2)
      have HZT : Hid (zeroTenL k p q D = repL (zeroL k p q) c) := Lib.hid (by unfold zeroTenL; congr 1; omega)
      have HCP := Lib.hid (fun (w1 : World) (hb : Below w.heap.size w w1) => clone_ten (HT.out w1 hb) (Nat.le_trans HB.out hb.size) (by have := hax.1; omega) (by have := hax.1; have := hax.2.1; omega) (by simp))
      have HZ := Lib.hid (fun (w1 : World) => zero_impl k p q w1 HRB.out.symm)
      clear hsz hs1 hax hp1 hp2 h0 hwd hwd1 hwd2 hc1 hc2
      go_enter Try.func34, Try.ntmps34
      go_wp2_with fail
      refine HS.out.mono ?_
      clear t0 t1 t2 f0 f1 f2
      rintro e w1 ⟨rfl, hb⟩
      have T1 := Lib.hid (T0.out.step hb)
      clear hb
      obtain ⟨r0, r1, r2⟩ := T1.out.ring
      go_wp2_with fail
      refine (HR.out _).mono ?_
      clear r0 r1 r2
      rintro e w2 ⟨rfl, hb⟩
      have T2 := Lib.hid (T1.out.step hb)
      clear hb
      obtain ⟨t0, t1, t2, f0, f1, f2⟩ := T2.out.ans
      go_wp2_with fail
      refine (HCP.out _ T2.out.1.bel).mono ?_
      clear t0 t1 t2 f0 f1 f2
      rintro e w3 ⟨l', d', x', rfl, hO, hb⟩
      have T3 := Lib.hid (T2.out.step hb)
      have Z3 := Lib.hid hb.size
      have AP := Lib.hid hO.2
      obtain ⟨o1, o2, o3⟩ := hO.rows
      obtain ⟨a1, c1, rfl, -⟩ := ints_form o1.rd
      obtain ⟨a2, c2, rfl, -⟩ := ints_form o2.rd
      obtain ⟨a3, c3, rfl, -⟩ := ints_form o3.rd
      have lt2 := T2.out.2.2.lt
      have hz2 := T2.out.1.bel.size
      have P1 := Lib.hid (Own.set (Own.set (Own.set o1 (b := w.heap.size + 1 + 1) (i := 0) lt2 (.slice a1 L.length c1)) (b := w.heap.size + 1 + 1) (i := 1) lt2 (.slice a2 D.length c2)) (b := w.heap.size + 1 + 1) (i := 2) lt2 (.slice a3 0 c3))
      have P2 := Lib.hid (Own.set (Own.set (Own.set o2 (b := w.heap.size + 1 + 1) (i := 0) lt2 (.slice a1 L.length c1)) (b := w.heap.size + 1 + 1) (i := 1) lt2 (.slice a2 D.length c2)) (b := w.heap.size + 1 + 1) (i := 2) lt2 (.slice a3 0 c3))
      have T4 := Lib.hid (T3.out.put (.slice a1 L.length c1) (.slice a2 D.length c2) (.slice a3 0 c3))
      obtain ⟨t0, t1, t2, f0, f1, f2⟩ := T3.out.ans
      obtain ⟨r0, r1, r2⟩ := T4.out.ring
      simp only [List.length_nil]
      clear hO hb o1 o2 o3
      go_wp2_with fail
      generalize hW4 : ((w3.setCell ⟨w.heap.size + 1 + 1, 0, none⟩ (.slice a1 L.length c1)).setCell ⟨w.heap.size + 1 + 1, 1, none⟩ (.slice a2 D.length c2)).setCell ⟨w.heap.size + 1 + 1, 2, none⟩ (.slice a3 0 c3) = w4 at T4 P1 P2 r0 r1 r2 ⊢
      have Z4 : Hid (w4.heap.size = w3.heap.size) := Lib.hid (by rw [← hW4]; simp)
      clear hW4
      refine (HZ.out _).mono ?_
      clear t0 t1 t2 f0 f1 f2 r0 r1 r2
      rintro e w5 ⟨z, rfl, ho, hb⟩
      obtain ⟨gz, cz, rfl, hnews⟩ := own_form ho HZL.out HWD.out.1
      have T5 := Lib.hid (T4.out.step hb)
      have Q1 := Lib.hid (P1.out.below hb (Nat.le_refl _))
      have Q2 := Lib.hid (P2.out.below hb (Nat.le_refl _))
      have Z5 := Lib.hid hb.size
      have HRP := Lib.hid (repeat_full gz 0 cz wd c (c * wd) (zeroL k p q) w5 HZL.out HWD.out.1 HWD.out.2 HC12.out.1 HC12.out.2 rfl (Nat.lt_of_lt_of_le (ho.2.1 gz rfl) ho.2.2) hnews)
      clear hb ho hnews
      go_wp2_with fail
      refine HRP.out.mono ?_
      rintro e w6 ⟨z2, rfl, ho, hb⟩
      obtain ⟨a4, c4, rfl, -⟩ := ints_form ho.rd
      have T6 := Lib.hid (T5.out.step hb)
      have O6 := Lib.hid ho
      have Q1' := Lib.hid (Q1.out.below hb (Nat.le_refl _))
      have Q2' := Lib.hid (Q2.out.below hb (Nat.le_refl _))
      have Z6 := Lib.hid hb.size
      clear ho hb
      obtain ⟨N, hN⟩ : ∃ N, N = (repL (zeroL k p q) c).length := ⟨_, rfl⟩
      rw [← hN] at O6 ⊢
      have HN := Lib.hid hN
      clear hN
      obtain ⟨t0, t1, t2, f0, f1, f2⟩ := T6.out.ans
      have T7 := Lib.hid (T6.out.putLast (.slice a4 N c4))
      obtain ⟨u0, u1, u2, -, -, -⟩ := T7.out.ans
      obtain ⟨s0, s1, s2, g0, g1, g2⟩ := T7.out.second
      go_wp2
      refine bodyPost_ret (v := .tuple #[tenV (.slice a1 L.length c1) (.slice a2 D.length c2) (.slice a4 N c4), .bool true]) (by simp [results, Try.results34, go_sem, s0, s1, s2]) rfl ?_
      rw [HZT.out]
      have z3 := Z3.out
      have z4 := Z4.out
      have z5 := Z5.out
      have z6 := Z6.out
      have R1 := Own.set (Own.set (Own.set (Own.set Q1'.out (b := w.heap.size + 1 + 1) (i := 2) lt2 (.slice a4 N c4)) (b := w.heap.size + 1) (i := 0) (by omega) (.slice a1 L.length c1)) (b := w.heap.size + 1) (i := 1) (by omega) (.slice a2 D.length c2)) (b := w.heap.size + 1) (i := 2) (by omega) (.slice a4 N c4)
      have R2 := Own.set (Own.set (Own.set (Own.set Q2'.out (b := w.heap.size + 1 + 1) (i := 2) lt2 (.slice a4 N c4)) (b := w.heap.size + 1) (i := 0) (by omega) (.slice a1 L.length c1)) (b := w.heap.size + 1) (i := 1) (by omega) (.slice a2 D.length c2)) (b := w.heap.size + 1) (i := 2) (by omega) (.slice a4 N c4)
      have R3 := Own.set (Own.set (Own.set (Own.set O6.out (b := w.heap.size + 1 + 1) (i := 2) (by omega) (.slice a4 N c4)) (b := w.heap.size + 1) (i := 0) (by omega) (.slice a1 L.length c1)) (b := w.heap.size + 1) (i := 1) (by omega) (.slice a2 D.length c2)) (b := w.heap.size + 1) (i := 2) (by omega) (.slice a4 N c4)
      refine ⟨_, _, _, rfl, ?_, ((T7.out.1.bel.setCell (by simp) _).setCell (by simp) _).setCell (by simp) _⟩
      refine OwnG.wide (lo := w2.heap.size) (hi := w6.heap.size) (OwnG.of3 (ApartG.three (x := L) (y := D) (z := L) AP.out.out.1 (fun g hg hg' => ?_) (fun g hg hg' => ?_)) (R1.wide (Nat.le_refl _) (by omega) (by simp)) (R2.wide (Nat.le_refl _) (by omega) (by simp)) (R3.wide (by omega) (Nat.le_refl _) (by simp))) hz2 (by simp) (by simp)
      · have h1 := R1.2.1 g hg; have h2 := R3.lo g hg'; omega
      · have h1 := R2.2.1 g hg; have h2 := R3.lo g hg'; omega
  · obtain rfl : zb = false := by rw [HZB.out]; simp; omega
    simp only [Bool.false_eq_true, if_false]
    have q1 : decide (s < 0) = true := by simpa using h0
    clear h0
    go_enter Try.func34, Try.ntmps34
    go_wp2_with fail
    refine HS.out.mono ?_
    clear t0 t1 t2 f0 f1 f2
    rintro e w1 ⟨rfl, hb⟩
    have T1 := Lib.hid (T0.out.step hb)
    clear hb
    obtain ⟨s0, s1, s2, g0, g1, g2⟩ := T1.out.second
    go_wp2
    refine bodyPost_ret (v := .tuple #[tenV nilV nilV nilV, .bool false]) (by simp [results, Try.results34, go_sem, s0, s1, s2]) rfl ?_
    exact NewTenB.nils (((T1.out.1.bel.setCell (by simp) _).setCell (by simp) _).setCell (by simp) _)
end Go.Proofs.Ytlmhnlepdfdceaa
