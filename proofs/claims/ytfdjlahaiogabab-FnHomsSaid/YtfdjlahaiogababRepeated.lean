
/- impl.repeated: so many times by doubling. -/
import Derived.Test.YtfdjlahaiogababTimesOne
import Derived.Test.YtfdjlahaiogababPow2
import Derived.FnLit
namespace Go.Proofs.Ytfdjlahaiogabab
set_option maxRecDepth 20000
open Go.RowKit

/-- What combine does with elements. -/
def Combines (f : Nat) (rv : Value) (E : List Int → Prop) (op : List Int → List Int → List Int) : Prop :=
  ∀ (w : World) (vx vy : Value) (xs ys : List Int), Rd w.heap.size w vx (ints xs) → Rd w.heap.size w vy (ints ys) → E xs → E ys → Calls Try.prog f #[rv, vx, vy] w (NewRow w (op xs ys))

set_option maxHeartbeats 800000 in
theorem repeated_plus {rv : Value} {E : List Int → Prop} {op : List Int → List Int → List Int} {pw : Nat → List Int} {B : Nat} {vx vn : Value} {lo hi N : Nat} {w : World}
    (hC : Combines 124 rv E op) (hE : ∀ c, E (pw c)) (hP : ∀ a b, op (pw a) (pw b) = pw (a + b)) (hN : N ≤ 9223372036854775807)
    (hx : Rd B w vx (ints (pw 1))) (hB : B ≤ w.heap.size) (ho : Own w lo hi vn (pw 0)) (hlo : lo ≤ w.heap.size) :
    Calls Try.prog 129 #[.int .i64 N, vx, vn, .func (.func 124) #[rv] #[]] w fun e w' => ∃ r, e = .returned r ∧ Own w' lo w'.heap.size r (pw N) ∧ Below w.heap.size w w' := by
  have HC := Lib.hid hC
  have HE := Lib.hid hE
  have HP := Lib.hid hP
  have HX := Lib.hid (hx.mono hB)
  have HO := Lib.hid (ho.wide (Nat.le_refl _) ho.2.2 (Nat.le_refl _))
  have HL := Lib.hid hlo
  clear hC hE hP hx hB ho hlo
  go_enter Try.func129, Try.ntmps129
  go_wp2
  go_loopw [0, 1, 9] (fun u vx vr wr => ∃ q a b : Nat, u = .int .i64 q ∧ q ≤ N ∧ Hid (a + q * b = N) ∧ Hid (Rd wr.heap.size wr vx (ints (pw b))) ∧ Hid (Own wr lo wr.heap.size vr (pw a)) ∧ Hid (Below w.heap.size w wr)) (fun u _ _ _ => (intOf u).toNat)
  case atStart => exact ⟨N, 0, 1, rfl, Nat.le_refl _, by show 0 + N * 1 = N; omega, HX, HO, Below.refl _ _⟩
  case round =>
    obtain ⟨q, a, b, rfl, hq, HS, HXr, HOr, HB⟩ := hrel
    by_cases h0 : 0 < q
    · have hh : q / 2 < q := by omega
      by_cases h1 : q % 2 = 1
      · have hm : ((q : Int) % 2 == 1) = true := by simp; omega
        go_wp2_with fail
        refine (HC.out wr u9 u1 _ _ HOr.out.rd HXr.out (HE.out a) (HE.out b)).mono ?_
        rw [HP.out]
        rintro e w1 ⟨v1, rfl, ho1, hb1⟩
        have O1 : Hid (Own w1 lo w1.heap.size v1 (pw (a + b))) := Lib.hid (ho1.wide (Nat.le_trans HL.out HB.out.size) (Nat.le_refl _) (Nat.le_refl _))
        have X1 : Hid (Rd w1.heap.size w1 u1 (ints (pw b))) := Lib.hid ((HXr.out.below hb1 (Nat.le_refl _)).mono hb1.size)
        have B1 := Lib.hid (HB.out.trans (hb1.mono HB.out.size))
        clear ho1 hb1
        go_wp2_with fail
        refine (HC.out w1 u1 u1 _ _ X1.out X1.out (HE.out b) (HE.out b)).mono ?_
        rw [HP.out]
        rintro e w2 ⟨v2, rfl, ho2, hb2⟩
        have X2 : Hid (Rd w2.heap.size w2 v2 (ints (pw (b + b)))) := Lib.hid (ho2.rd.mono ho2.2.2)
        have O2 : Hid (Own w2 lo w2.heap.size v1 (pw (a + b))) := Lib.hid ((O1.out.below hb2 (Nat.le_refl _)).wide (Nat.le_refl _) hb2.size (Nat.le_refl _))
        have B2 := Lib.hid (B1.out.trans (hb2.mono B1.out.size))
        clear ho2 hb2
        go_wp2
        go_roundw
        case rel => exact ⟨q / 2, a + b, b + b, by go_num, by omega, by
          show a + b + q / 2 * (b + b) = N
          rw [← HS.out]
          have e2 : q = 2 * (q / 2) + 1 := by omega
          generalize q / 2 = z at e2
          rw [e2]
          grind, X2, O2, B2⟩
        case measure => simp [intOf]; omega
      · have hm : ((q : Int) % 2 == 1) = false := by simp; omega
        go_wp2_with fail
        refine (HC.out wr u1 u1 _ _ HXr.out HXr.out (HE.out b) (HE.out b)).mono ?_
        rw [HP.out]
        rintro e w2 ⟨v2, rfl, ho2, hb2⟩
        have X2 : Hid (Rd w2.heap.size w2 v2 (ints (pw (b + b)))) := Lib.hid (ho2.rd.mono ho2.2.2)
        have O2 : Hid (Own w2 lo w2.heap.size u9 (pw a)) := Lib.hid ((HOr.out.below hb2 (Nat.le_refl _)).wide (Nat.le_refl _) hb2.size (Nat.le_refl _))
        have B2 := Lib.hid (HB.out.trans (hb2.mono HB.out.size))
        clear ho2 hb2
        go_wp2
        go_roundw
        case rel => exact ⟨q / 2, a, b + b, by go_num, by omega, by
          show a + q / 2 * (b + b) = N
          rw [← HS.out]
          have e2 : q = 2 * (q / 2) := by omega
          generalize q / 2 = z at e2
          rw [e2]
          grind, X2, O2, B2⟩
        case measure => simp [intOf]; omega
    · obtain rfl : q = 0 := by omega
      have HZ : Hid (a = N) := Lib.hid (by have := HS.out; omega)
      go_wp2
      go_ret
      exact ⟨_, rfl, HZ.out ▸ HOr.out, HB.out⟩

set_option maxHeartbeats 800000 in
theorem repeated_times {rv : Value} {E : List Int → Prop} {op : List Int → List Int → List Int} {pw : Nat → List Int} {B : Nat} {vx vn : Value} {lo hi N : Nat} {w : World}
    (hC : Combines 77 rv E op) (hE : ∀ c, E (pw c)) (hP : ∀ a b, op (pw a) (pw b) = pw (a + b)) (hN : N ≤ 9223372036854775807)
    (hx : Rd B w vx (ints (pw 1))) (hB : B ≤ w.heap.size) (ho : Own w lo hi vn (pw 0)) (hlo : lo ≤ w.heap.size) :
    Calls Try.prog 129 #[.int .i64 N, vx, vn, .func (.func 77) #[rv] #[]] w fun e w' => ∃ r, e = .returned r ∧ Own w' lo w'.heap.size r (pw N) ∧ Below w.heap.size w w' := by
  have HC := Lib.hid hC
  have HE := Lib.hid hE
  have HP := Lib.hid hP
  have HX := Lib.hid (hx.mono hB)
  have HO := Lib.hid (ho.wide (Nat.le_refl _) ho.2.2 (Nat.le_refl _))
  have HL := Lib.hid hlo
  clear hC hE hP hx hB ho hlo
  go_enter Try.func129, Try.ntmps129
  go_wp2
  go_loopw [0, 1, 9] (fun u vx vr wr => ∃ q a b : Nat, u = .int .i64 q ∧ q ≤ N ∧ Hid (a + q * b = N) ∧ Hid (Rd wr.heap.size wr vx (ints (pw b))) ∧ Hid (Own wr lo wr.heap.size vr (pw a)) ∧ Hid (Below w.heap.size w wr)) (fun u _ _ _ => (intOf u).toNat)
  case atStart => exact ⟨N, 0, 1, rfl, Nat.le_refl _, by show 0 + N * 1 = N; omega, HX, HO, Below.refl _ _⟩
  case round =>
    obtain ⟨q, a, b, rfl, hq, HS, HXr, HOr, HB⟩ := hrel
    by_cases h0 : 0 < q
    · have hh : q / 2 < q := by omega
      by_cases h1 : q % 2 = 1
      · have hm : ((q : Int) % 2 == 1) = true := by simp; omega
        go_wp2_with fail
        refine (HC.out wr u9 u1 _ _ HOr.out.rd HXr.out (HE.out a) (HE.out b)).mono ?_
        rw [HP.out]
        rintro e w1 ⟨v1, rfl, ho1, hb1⟩
        have O1 : Hid (Own w1 lo w1.heap.size v1 (pw (a + b))) := Lib.hid (ho1.wide (Nat.le_trans HL.out HB.out.size) (Nat.le_refl _) (Nat.le_refl _))
        have X1 : Hid (Rd w1.heap.size w1 u1 (ints (pw b))) := Lib.hid ((HXr.out.below hb1 (Nat.le_refl _)).mono hb1.size)
        have B1 := Lib.hid (HB.out.trans (hb1.mono HB.out.size))
        clear ho1 hb1
        go_wp2_with fail
        refine (HC.out w1 u1 u1 _ _ X1.out X1.out (HE.out b) (HE.out b)).mono ?_
        rw [HP.out]
        rintro e w2 ⟨v2, rfl, ho2, hb2⟩
        have X2 : Hid (Rd w2.heap.size w2 v2 (ints (pw (b + b)))) := Lib.hid (ho2.rd.mono ho2.2.2)
        have O2 : Hid (Own w2 lo w2.heap.size v1 (pw (a + b))) := Lib.hid ((O1.out.below hb2 (Nat.le_refl _)).wide (Nat.le_refl _) hb2.size (Nat.le_refl _))
        have B2 := Lib.hid (B1.out.trans (hb2.mono B1.out.size))
        clear ho2 hb2
        go_wp2
        go_roundw
        case rel => exact ⟨q / 2, a + b, b + b, by go_num, by omega, by
          show a + b + q / 2 * (b + b) = N
          rw [← HS.out]
          have e2 : q = 2 * (q / 2) + 1 := by omega
          generalize q / 2 = z at e2
          rw [e2]
          grind, X2, O2, B2⟩
        case measure => simp [intOf]; omega
      · have hm : ((q : Int) % 2 == 1) = false := by simp; omega
        go_wp2_with fail
        refine (HC.out wr u1 u1 _ _ HXr.out HXr.out (HE.out b) (HE.out b)).mono ?_
        rw [HP.out]
        rintro e w2 ⟨v2, rfl, ho2, hb2⟩
        have X2 : Hid (Rd w2.heap.size w2 v2 (ints (pw (b + b)))) := Lib.hid (ho2.rd.mono ho2.2.2)
        have O2 : Hid (Own w2 lo w2.heap.size u9 (pw a)) := Lib.hid ((HOr.out.below hb2 (Nat.le_refl _)).wide (Nat.le_refl _) hb2.size (Nat.le_refl _))
        have B2 := Lib.hid (HB.out.trans (hb2.mono HB.out.size))
        clear ho2 hb2
        go_wp2
        go_roundw
        case rel => exact ⟨q / 2, a, b + b, by go_num, by omega, by
          show a + q / 2 * (b + b) = N
          rw [← HS.out]
          have e2 : q = 2 * (q / 2) := by omega
          generalize q / 2 = z at e2
          rw [e2]
          grind, X2, O2, B2⟩
        case measure => simp [intOf]; omega
    · obtain rfl : q = 0 := by omega
      have HZ : Hid (a = N) := Lib.hid (by have := HS.out; omega)
      go_wp2
      go_ret
      exact ⟨_, rfl, HZ.out ▸ HOr.out, HB.out⟩

end Go.Proofs.Ytfdjlahaiogabab
