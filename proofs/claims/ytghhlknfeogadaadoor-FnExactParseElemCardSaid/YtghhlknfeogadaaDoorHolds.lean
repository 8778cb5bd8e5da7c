
/- (Ring).holds, ElemOk of both. -/
import Derived.Test.YtghhlknfeogadaaDoorHoldsInts
import Derived.Deep.DeepCutAuto
import Derived.Deep.CutRange
namespace Go.Proofs.YtghhlknfeogadaaDoor
set_option maxRecDepth 20000
open Go.RowKit

set_option maxHeartbeats 400000 in
theorem holds_not (k p n : Int) (v : Value) (w : World) (hr : ringB k p n = false) :
    Calls Tryd.prog 42 #[ringV k p n, v] w fun e w' => e = .returned (.bool false) ∧ Below w.heap.size w w' := by
  have HR := Lib.hid hr
  clear hr
  go_enter Tryd.func42, Tryd.ntmps42
  go_wp2_with fail
  refine (ring_ok_impl k p n _).mono ?_
  rw [HR.out]
  rintro e w1 ⟨rfl, hb1⟩
  go_wp2
  go_ret
  exact ⟨rfl, ((Below.refl _ _).alloc (Nat.le_refl _) _).trans (hb1.mono (by simp))⟩

theorem all_step {α : Type} {f : α → Bool} {xs : List α} {i : Nat} {x : α} (hx : xs[i]? = some x) (h : (xs.take i).all f = true) (h1 : f x = true) : (xs.take (i + 1)).all f = true := by
  rw [List.take_add_one, hx, List.all_append, h]
  simp [h1]
theorem all_fails {α : Type} {f : α → Bool} {xs : List α} {i : Nat} {x : α} (hx : xs[i]? = some x) (h1 : f x = false) : xs.all f = false := by
  cases h : xs.all f with
  | false => rfl
  | true => rw [List.all_eq_true.1 h x (List.mem_of_getElem? hx)] at h1; cases h1

set_option maxHeartbeats 1600000 in
theorem holds_yes (a : Option Addr) (cap m B : Nat) (k p n : Int) (rows : List (List Int)) (w : World) (hr : ringB k p n = true) (hn : m ≤ 281474976710656) (hx : rows.length = m) (hB : B ≤ w.heap.size) (hlen : ∀ xs ∈ rows, xs.length ≤ 281474976710656)
    (ha : ∀ i (h : i < rows.length), ∃ b off u, a = some ⟨b, off, none⟩ ∧ b < B ∧ w.cell? ⟨b, off + i, none⟩ = some u ∧ Rd B w u (ints rows[i])) :
    Calls Tryd.prog 42 #[ringV k p n, .slice a m cap] w fun e w' => e = .returned (.bool (rows.all fun xs => elemB k p n xs)) ∧ Below w.heap.size w w' := by
  have HA := Lib.hid ha
  have L1 := Lib.hid hx
  have HR := Lib.hid hr
  have HLN := Lib.hid hlen
  have HBB := Lib.hid hB
  obtain ⟨wd, hwd⟩ : ∃ t, t = widthI k n := ⟨_, rfl⟩
  obtain ⟨r, hres⟩ : ∃ r, r = rows.all fun xs => elemB k p n xs := ⟨_, rfl⟩
  rw [← hres]
  have HW := Lib.hid hwd
  have HE := Lib.hid hres
  clear ha hx hr hwd hres hlen hB
  go_enter Tryd.func42, Tryd.ntmps42
  go_wp2_with fail
  refine (Inv.call (Lib.hid (Inv.box w k p n _)) (ring_ok_impl k p n _)).mono ?_
  rw [HR.out]
  rintro e w1 ⟨rfl, HV1, c0, c1, c2⟩
  clear c0 c1 c2
  go_wp2
  go_loopw [12] (fun i wr => ∃ j : Nat, j ≤ m ∧ i = .int .i64 j ∧ Hid ((rows.take j).all (fun xs => elemB k p n xs) = true) ∧ Hid (Inv w wr w.heap.size k p n)) (fun i _ => m - (intOf i).toNat)
  case atStart => exact ⟨0, by omega, rfl, (by simp : (rows.take 0).all (fun xs => elemB k p n xs) = true), HV1⟩
  case round =>
    obtain ⟨j, hj, rfl, HG, HV⟩ := hrel
    by_cases hlt : j < m
    · obtain ⟨b, off, u, rfl, hbw, d0, hrd⟩ := HA.out j (by rw [L1.out]; exact hlt)
      obtain ⟨xs, hxs⟩ : ∃ xs, xs = rows[j]'(by rw [L1.out]; exact hlt) := ⟨_, rfl⟩
      rw [← hxs] at hrd
      have hget : rows[j]? = some xs := by rw [hxs]; exact List.getElem?_eq_getElem _
      have hl1 := HLN.out xs (List.mem_of_getElem? hget)
      obtain ⟨au, cu, rfl, -⟩ := ints_form hrd
      have d1 := (HV.out.1.cell (p := ⟨b, off + j, none⟩) (by simpa using Nat.lt_of_lt_of_le hbw HBB.out)).trans d0
      have HGET := Lib.hid hget
      obtain ⟨len, hlen⟩ : ∃ len, len = xs.length := ⟨_, rfl⟩
      rw [← hlen] at hl1 d1 hrd
      have HRD := Lib.hid hrd
      have HLE := Lib.hid hlen
      obtain ⟨c0, c1, c2⟩ := HV.out.cells
      clear hxs hrd hget d0 hlen
      by_cases hw : (len : Int) = wd
      · have hq : ((len : Int) != wd) = false := by simp [hw]
        have HQ := Lib.hid hw
        clear hw
        go_wp2_with fail
        refine (Inv.call HV (width_impl k p n _)).mono ?_
        rw [← HW.out]
        clear c0 c1 c2
        rintro e w2 ⟨rfl, HV2, c0, c1, c2⟩
        cases hin : withinB (topI k p n) xs with
        | true =>
          have HIN := Lib.hid hin
          clear hin
          go_wp2_with fail
          refine (Inv.call HV2 (holds_ints (B := B) HR.out (HRD.out.below HV2.out.1 HBB.out) (Nat.le_trans HBB.out HV2.out.1.size) (by rw [← HLE.out]; exact hl1))).mono ?_
          rw [HIN.out]
          clear c0 c1 c2
          rintro e w3 ⟨rfl, HV3, c0, c1, c2⟩
          go_wp2
          go_roundw
          case rel => exact ⟨j + 1, by omega, by go_num, all_step HGET.out HG.out (by rw [elemB_within, HIN.out, ← HLE.out, ← HW.out, HQ.out]; simp), HV3⟩
          case measure => simp [intOf]; omega
        | false =>
          have HIN := Lib.hid hin
          have HF := Lib.hid (all_fails (f := fun xs => elemB k p n xs) HGET.out (by rw [elemB_within, hin]; simp))
          clear hin
          go_wp2_with fail
          refine (Inv.call HV2 (holds_ints (B := B) HR.out (HRD.out.below HV2.out.1 HBB.out) (Nat.le_trans HBB.out HV2.out.1.size) (by rw [← HLE.out]; exact hl1))).mono ?_
          rw [HIN.out]
          clear c0 c1 c2
          rintro e w3 ⟨rfl, HV3, c0, c1, c2⟩
          go_wp2
          go_ret
          exact ⟨by rw [HE.out, HF.out]; rfl, HV3.out.1⟩
      · have hq : ((len : Int) != wd) = true := by simp [hw]
        have HF := Lib.hid (all_fails (f := fun xs => elemB k p n xs) HGET.out (elemB_of_len (by rw [← HLE.out, ← HW.out]; exact hw)))
        clear hw
        go_wp2_with fail
        refine (Inv.call HV (width_impl k p n _)).mono ?_
        rw [← HW.out]
        clear c0 c1 c2
        rintro e w2 ⟨rfl, HV2, c0, c1, c2⟩
        go_wp2
        go_ret
        exact ⟨by rw [HE.out, HF.out]; rfl, HV2.out.1⟩
    · obtain rfl : j = m := by omega
      have HF : Hid (r = true) := by
        show r = true
        rw [HE.out]
        have := HG.out
        rw [List.take_of_length_le (by rw [L1.out]; omega)] at this
        exact this
      go_wp2
      go_ret
      exact ⟨by rw [HF.out]; rfl, HV.out.1⟩

/-- (Ring).holds. -/
theorem holds_impl {B : Nat} {v : Value} {k p n : Int} {rows : List (List Int)} {w : World} (h : RdRows B w v rows) (hB : B ≤ w.heap.size) (hn : rows.length ≤ 281474976710656) (hlen : ∀ xs ∈ rows, xs.length ≤ 281474976710656) :
    Calls Tryd.prog 42 #[ringV k p n, v] w fun e w' => e = .returned (.bool (holdsB k p n rows)) ∧ Below w.heap.size w w' := by
  cases hr : ringB k p n with
  | false =>
    have e : holdsB k p n rows = false := by simp [holdsB, hr]
    rw [e]
    exact holds_not k p n v w hr
  | true =>
    have e : holdsB k p n rows = rows.all fun xs => elemB k p n xs := by simp [holdsB, hr]
    rw [e]
    obtain ⟨vs, h1, h2, h3⟩ := h
    rcases h1 with ⟨rfl, a, cap, rfl⟩ | ⟨b, off, cap, rfl, hb, hc, hcell⟩
    · have h0 : rows = [] := List.eq_nil_of_length_eq_zero (by simpa using h2.symm)
      subst h0
      exact holds_yes a cap 0 B k p n [] w hr (by omega) rfl hB hlen (fun i h => by simp at h)
    · rw [h2]
      refine holds_yes _ cap rows.length B k p n rows w hr hn rfl hB hlen (fun i h => ?_)
      obtain ⟨u, hu, hrd⟩ := h3 i h
      exact ⟨b, off, u, rfl, hb, hcell i u hu, hrd⟩
end Go.Proofs.YtghhlknfeogadaaDoor
