
/- spec.TensorSize, spec.TensorOk. -/
import Derived.Test.YtlmhnlepdfdceaaTensorSize
import Derived.Test.YtlmhnlepdfdceaaElem
import Derived.IntWalk
import Derived.Deep.RegionWith
import Derived.Deep.RegionHeld3
namespace Go.Proofs.Ytlmhnlepdfdceaa
set_option maxRecDepth 20000
set_option maxRecDepth 20000
open Go.RowKit

theorem mul_in {c d : Int} (h1 : 0 ≤ c) (h2 : c ≤ 1000000) (h3 : 0 ≤ d) (h4 : d ≤ 1000000) : 0 ≤ c * d ∧ c * d ≤ 1000000000000 := by
  refine ⟨Int.mul_nonneg h1 h3, ?_⟩
  have := Int.mul_le_mul h2 h4 h3 (by omega)
  omega
set_option maxHeartbeats 800000 in
theorem product_spec_full (a : Option Addr) (cap m B : Nat) (D : List Int) (w : World) (hx : D.length = m) (hn : m ≤ 281474976710656) (hD : ∀ d ∈ D, 1 ≤ d ∧ d ≤ 8) (hr : Rd B w (.slice a m cap) (ints D)) :
    Calls Try.prog 39 #[.slice a m cap, .int .i64 4096] w fun e w' => e = .returned (.int .i64 (capI D)) ∧ w = w' := by
  have L1 := Lib.hid hx
  have HR := Lib.hid hr
  have HD := Lib.hid hD
  clear hx hr hD
  go_enter Try.func39, Try.ntmps39
  go_wp2
  go_loop [5, 10] (fun p i => ∃ (j : Nat) (c : Int), j ≤ m ∧ i = .int .i64 j ∧ p = .int .i64 c ∧ 1 ≤ c ∧ c ≤ 4097 ∧ Hid (capI (D.take j) = c)) (fun _ i => m - (intOf i).toNat)
  case atStart => exact ⟨0, 1, by omega, rfl, rfl, by omega, by omega, rfl⟩
  case round =>
    obtain ⟨j, c, hj, rfl, rfl, hc1, hc2, HC⟩ := hrel
    by_cases hlt : j < m
    · obtain ⟨d, D1⟩ : ∃ d, Hid (D[j]? = some d) := ⟨_, List.getElem?_eq_getElem (by rw [L1.out]; exact hlt)⟩
      obtain ⟨b, off, rfl, e1⟩ : ∃ b off, a = some ⟨b, off, none⟩ ∧ w.cell? ⟨b, off + j, none⟩ = some (.int .i64 d) := by
        rcases HR.out.ints_cases with ⟨h, -⟩ | ⟨b, off, ca, e, hb, -, hc⟩
        · have := L1.out; rw [h] at this; simp at this; omega
        · cases e
          refine ⟨b, off, rfl, ?_⟩
          rw [hc j (by rw [L1.out]; exact hlt)]
          rw [(List.getElem?_eq_some_iff.1 D1.out).2]
      have hd := HD.out d (List.mem_of_getElem? D1.out)
      have hd1 := hd.1
      have hd2 := hd.2
      have hm := mul_in (c := c) (d := d) (by omega) (by omega) (by omega) (by omega)
      have hlow : 1 ≤ c * d := by
        have := Int.mul_le_mul hc1 hd1 (by omega) (by omega)
        omega
      have hw : IntKind.i64.wrap (c * d) = c * d := IntWalk.i64_in _ (by omega)
      have hstep : capI (D.take (j + 1)) = min (c * d) 4097 := by rw [List.take_add_one, D1.out, Option.toList_some, capI_snoc, HC.out]
      by_cases hgt : 4097 < c * d
      · have HS : Hid (capI (D.take (j + 1)) = 4097) := by show _ = _; rw [hstep]; omega
        have q1 : decide ((4097 : Int) < c * d) = true := by simpa using hgt
        clear hstep hd
        go_wp2
        go_round
        case rel => exact ⟨j + 1, 4097, by omega, by go_num, rfl, by omega, by omega, HS⟩
        case measure => simp [intOf]; omega
      · have HS : Hid (capI (D.take (j + 1)) = c * d) := by show _ = _; rw [hstep]; omega
        have q1 : decide ((4097 : Int) < c * d) = false := by simpa using hgt
        clear hstep hd
        go_wp2
        go_round
        case rel => exact ⟨j + 1, c * d, by omega, by go_num, rfl, by omega, by omega, HS⟩
        case measure => simp [intOf]; omega
    · obtain rfl : j = m := by omega
      have HF : Hid (capI D = c) := by
        have h := HC.out
        rw [List.take_of_length_le (by rw [L1.out]; omega)] at h
        exact h
      go_wp2
      go_ret
      exact ⟨by rw [HF.out]; rfl, rfl⟩
theorem product_spec {B : Nat} {v : Value} {D : List Int} {w : World} (h : Rd B w v (ints D)) (hn : D.length ≤ 281474976710656) (hD : ∀ d ∈ D, 1 ≤ d ∧ d ≤ 8) :
    Calls Try.prog 39 #[v, .int .i64 4096] w fun e w' => e = .returned (.int .i64 (capI D)) ∧ w = w' := by
  obtain ⟨a, cap, rfl, -⟩ := ints_form h
  exact product_spec_full a cap _ B D w rfl hn hD h

/-- The three lists of a tensor that is only read. -/
structure RdT (B : Nat) (w : World) (lv dv xv : Value) (L D X : List Int) : Prop where
  l : Rd B w lv (ints L)
  d : Rd B w dv (ints D)
  x : Rd B w xv (ints X)
theorem RdT.below {B B' : Nat} {w w' : World} {lv dv xv : Value} {L D X : List Int} (h : RdT B w lv dv xv L D X) (hb : Below B' w w') (hB : B ≤ B') : RdT B w' lv dv xv L D X := ⟨h.l.below hb hB, h.d.below hb hB, h.x.below hb hB⟩
/-- So long lists are no matter of concern. -/
structure LenT (L D X : List Int) : Prop where
  l : L.length ≤ 281474976710656
  d : D.length ≤ 281474976710656
  x : X.length ≤ 281474976710656

set_option maxHeartbeats 800000 in
theorem size_spec {B : Nat} {lv dv xv : Value} {L D X : List Int} {w : World} (h : RdT B w lv dv xv L D X) (hB : B ≤ w.heap.size) (hn : LenT L D X) :
    Calls Try.prog 12 #[tenV lv dv xv] w fun e w' => e = .returned (.int .i64 (sizeI L D)) ∧ Below w.heap.size w w' := by
  have H0 := Lib.hid ((Held.refl w).box3 lv dv xv 27)
  have HT := Lib.hid (h.below H0.out.1 hB)
  have HN := Lib.hid hn
  obtain ⟨al, cl, rfl, -⟩ := ints_form h.l
  obtain ⟨ad, cd, rfl, -⟩ := ints_form h.d
  obtain ⟨ax, cx, rfl, -⟩ := ints_form h.x
  obtain ⟨ml, hml⟩ : ∃ m, m = L.length := ⟨_, rfl⟩
  obtain ⟨md, hmd⟩ : ∃ m, m = D.length := ⟨_, rfl⟩
  obtain ⟨mx, hmx⟩ : ∃ m, m = X.length := ⟨_, rfl⟩
  rw [← hml, ← hmd, ← hmx] at H0 HT ⊢
  have HAX := Lib.hid (axes_spec HT.out.l HT.out.d HN.out.l HN.out.d)
  clear h hB hn hml hmd hmx
  cases hax : axesB L D with
  | false =>
    have HF : Hid (sizeI L D = -1) := by show _ = _; unfold sizeI; rw [if_neg (by simp [hax])]
    rw [hax] at HAX
    clear hax
    go_enter Try.func12, Try.ntmps12
    go_wp2_with fail
    refine HAX.out.mono ?_
    rintro e w1 ⟨rfl, rfl⟩
    go_wp2
    go_ret
    exact ⟨by rw [HF.out]; rfl, H0.out.1⟩
  | true =>
    have hv := axesB_true.1 hax
    have HV := Lib.hid hv.2.2.2.1
    have hcap := capI_is (fun d hd => (hv.2.2.2.1 d hd).1)
    obtain ⟨c, hc⟩ : ∃ c, c = capI D := ⟨_, rfl⟩
    have hpr := product_spec HT.out.d HN.out.d HV.out
    rw [← hc] at hcap hpr
    have HP := Lib.hid hpr
    rw [hax] at HAX
    clear hpr hc
    by_cases hgt : 4096 < c
    · have HF : Hid (sizeI L D = -1) := by show _ = _; unfold sizeI; rw [if_neg (by omega)]
      have q1 : decide ((4096 : Int) < c) = true := by simpa using hgt
      clear hax hv hcap hgt
      go_enter Try.func12, Try.ntmps12
      go_wp2_with fail
      refine HAX.out.mono ?_
      rintro e w1 ⟨rfl, rfl⟩
      go_wp2_with fail
      refine HP.out.mono ?_
      rintro e w1 ⟨rfl, rfl⟩
      go_wp2
      go_ret
      exact ⟨by rw [HF.out]; rfl, H0.out.1⟩
    · have HF : Hid (sizeI L D = c) := by show _ = _; unfold sizeI; rw [if_pos ⟨hax, by omega⟩]; omega
      have q1 : decide ((4096 : Int) < c) = false := by simpa using hgt
      clear hax hv hcap hgt
      go_enter Try.func12, Try.ntmps12
      go_wp2_with fail
      refine HAX.out.mono ?_
      rintro e w1 ⟨rfl, rfl⟩
      go_wp2_with fail
      refine HP.out.mono ?_
      rintro e w1 ⟨rfl, rfl⟩
      go_wp2
      go_ret
      exact ⟨by rw [HF.out]; rfl, H0.out.1⟩
end Go.Proofs.Ytlmhnlepdfdceaa
