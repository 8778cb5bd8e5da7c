
/- AddElem, both. -/
import Derived.Test.YtfcobkkpkppodaaPlusSpec
import Derived.Test.YtfcobkkpkppodaaZero
namespace Go.Proofs.Ytfcobkkpkppodaa
set_option maxRecDepth 20000
open Go.RowKit

noncomputable def twoOk (k p n : Int) (xs ys : List Int) : Bool := ringB k p n && (elemB k p n xs && elemB k p n ys)
noncomputable def addElemL (k p n : Int) (xs ys : List Int) : List Int := if twoOk k p n xs ys = true then plusL k p xs ys else []
theorem twoOk_parts {k p n : Int} {xs ys : List Int} (h : twoOk k p n xs ys = true) : ringB k p n = true ∧ ElemV k p n xs ∧ ElemV k p n ys := by
  unfold twoOk at h
  rw [Bool.and_eq_true, Bool.and_eq_true] at h
  exact ⟨h.1, elemB_true.1 h.2.1, elemB_true.1 h.2.2⟩
theorem addElem_len (k p n : Int) (xs ys : List Int) : (addElemL k p n xs ys).length ≤ 6 := by
  unfold addElemL
  by_cases h : twoOk k p n xs ys = true
  · rw [if_pos h]
    have h1 := twoOk_parts h
    have h2 := ring_width h1.1
    have h3 := h1.2.1.1
    simp [plusL]; omega
  · rw [if_neg h]; simp

set_option maxHeartbeats 400000 in
theorem add_elem_impl {B : Nat} {vx vy : Value} {k p n : Int} {xs ys : List Int} {w : World} (hx : Rd B w vx (ints xs)) (hy : Rd B w vy (ints ys)) (hB : B ≤ w.heap.size) (hn : xs.length ≤ 281474976710656) (hn2 : ys.length ≤ 281474976710656) :
    Calls Try.prog 28 #[ringV k p n, vx, vy] w (NewRow w (addElemL k p n xs ys)) := by
  obtain ⟨ax, cx, rfl, -⟩ := ints_form hx
  obtain ⟨ay, cy, rfl, -⟩ := ints_form hy
  obtain ⟨lx, hlx⟩ : ∃ l, l = xs.length := ⟨_, rfl⟩
  obtain ⟨ly, hly⟩ : ∃ l, l = ys.length := ⟨_, rfl⟩
  rw [← hlx] at hx hn ⊢
  rw [← hly] at hy hn2 ⊢
  have HX := Lib.hid hx
  have HY := Lib.hid hy
  have LX := Lib.hid hlx
  have LY := Lib.hid hly
  clear hx hy hlx hly
  have RR := Lib.hid (RdRows.two (B := B) (b := w.heap.size + 1) (w1 := (w.alloc (.cells (ringC k p n) 26)).alloc (.cells #[.slice ax lx cx, .slice ay ly cy] 24)) (HX.out.below (((Below.refl w.heap.size w).alloc (Nat.le_refl _) (.cells (ringC k p n) 26)).alloc (by simp) (.cells #[.slice ax lx cx, .slice ay ly cy] 24)) hB) (HY.out.below (((Below.refl w.heap.size w).alloc (Nat.le_refl _) (.cells (ringC k p n) 26)).alloc (by simp) (.cells #[.slice ax lx cx, .slice ay ly cy] 24)) hB) (by omega) (by simp [World.cell?_alloc_at]) (by simp [World.cell?_alloc_at]))
  have IV := Lib.hid ((Inv.box w k p n 26).step ((Below.refl _ _).alloc (Nat.le_refl _) (.cells #[.slice ax lx cx, .slice ay ly cy] 24)))
  have hlen : ∀ zs ∈ [xs, ys], zs.length ≤ 281474976710656 := by
    intro zs hz
    simp at hz
    rcases hz with rfl | rfl
    · rw [← LX.out]; exact hn
    · rw [← LY.out]; exact hn2
  have HLN := Lib.hid hlen
  clear hlen
  have hh : holdsB k p n [xs, ys] = twoOk k p n xs ys := by simp [holdsB, twoOk]
  have HH := Lib.hid hh
  clear hh
  cases hr : twoOk k p n xs ys with
  | false =>
    have e : addElemL k p n xs ys = [] := by simp [addElemL, hr]
    rw [e]
    have HF := Lib.hid hr
    clear hr e
    go_enter Try.func28, Try.ntmps28
    go_wp2_with fail
    refine (Inv.call IV (holds_impl RR.out (by simp) (by simp) HLN.out)).mono ?_
    rw [HH.out, HF.out]
    rintro e w1 ⟨rfl, HV1, c0, c1, c2⟩
    go_wp2
    go_ret
    exact ⟨_, rfl, ⟨World.ownsRow_nil _ _ _ _, (fun g hg => by cases hg), Nat.le_refl _⟩, HV1.out.1⟩
  | true =>
    have e : addElemL k p n xs ys = plusL k p xs ys := by simp [addElemL, hr]
    obtain ⟨r, hres⟩ : ∃ r, r = plusL k p xs ys := ⟨_, rfl⟩
    rw [e, ← hres]
    have HE := Lib.hid hres
    have HF := Lib.hid hr
    clear hr e hres
    go_enter Try.func28, Try.ntmps28
    go_wp2_with fail
    refine (Inv.call IV (holds_impl RR.out (by simp) (by simp) HLN.out)).mono ?_
    rw [HH.out, HF.out]
    rintro e w1 ⟨rfl, HV1, c0, c1, c2⟩
    go_wp2_with fail
    refine (plus_impl (twoOk_parts HF.out).1 (HX.out.below HV1.out.1 hB) (HY.out.below HV1.out.1 hB) (Nat.le_trans hB HV1.out.1.size) (twoOk_parts HF.out).2.1 (twoOk_parts HF.out).2.2).mono ?_
    rw [← HE.out]
    intro e w2 h2
    obtain ⟨v, rfl, ho, hb⟩ := NewRow.after HV1.out.1 h2
    clear h2
    have HO := Lib.hid ho
    have HB := Lib.hid hb
    clear ho hb
    go_wp2
    go_ret
    exact ⟨v, rfl, HO.out, HB.out⟩
set_option maxHeartbeats 800000 in
theorem add_elem_spec {B : Nat} {vx vy : Value} {k p n : Int} {xs ys : List Int} {w : World} (hx : Rd B w vx (ints xs)) (hy : Rd B w vy (ints ys)) (hB : B ≤ w.heap.size) (hn : xs.length ≤ 281474976710656) (hn2 : ys.length ≤ 281474976710656) :
    Calls Try.prog 27 #[ringV k p n, vx, vy] w (NewRow w (addElemL k p n xs ys)) := by
  have HX := Lib.hid hx
  have HY := Lib.hid hy
  clear hx hy
  have h2 : twoOk k p n xs ys = (okElemB k p n xs && okElemB k p n ys) := by unfold twoOk okElemB; cases ringB k p n <;> simp
  cases h3 : okElemB k p n xs with
  | false =>
    have e : addElemL k p n xs ys = [] := by simp [addElemL, h2, h3]
    rw [e]
    have OX := Lib.hid h3
    clear h3 h2 e
    go_enter Try.func27, Try.ntmps27
    go_wp2_with fail
    refine (Inv.call (Lib.hid (Inv.box w k p n _)) (elem_ok_spec (HX.out.below ((Below.refl _ _).alloc (Nat.le_refl _) _) hB) (by simp; omega) hn)).mono ?_
    rw [OX.out]
    rintro e w1 ⟨rfl, HV1, c0, c1, c2⟩
    go_wp2
    go_ret
    exact ⟨_, rfl, ⟨World.ownsRow_nil _ _ _ _, (fun g hg => by cases hg), Nat.le_refl _⟩, HV1.out.1⟩
  | true =>
   cases h4 : okElemB k p n ys with
   | false =>
    have e : addElemL k p n xs ys = [] := by simp [addElemL, h2, h4]
    rw [e]
    have OX := Lib.hid h3
    have OY := Lib.hid h4
    clear h3 h4 h2 e
    go_enter Try.func27, Try.ntmps27
    go_wp2_with fail
    refine (Inv.call (Lib.hid (Inv.box w k p n _)) (elem_ok_spec (HX.out.below ((Below.refl _ _).alloc (Nat.le_refl _) _) hB) (by simp; omega) hn)).mono ?_
    rw [OX.out]
    rintro e w1 ⟨rfl, HV1, c0, c1, c2⟩
    go_wp2_with fail
    refine (Inv.call HV1 (elem_ok_spec (HY.out.below HV1.out.1 hB) (Nat.le_trans hB HV1.out.1.size) hn2)).mono ?_
    rw [OY.out]
    clear c0 c1 c2
    rintro e w2 ⟨rfl, HV2, c0, c1, c2⟩
    go_wp2
    go_ret
    exact ⟨_, rfl, ⟨World.ownsRow_nil _ _ _ _, (fun g hg => by cases hg), Nat.le_refl _⟩, HV2.out.1⟩
   | true =>
    have hr : twoOk k p n xs ys = true := by rw [h2, h3, h4]; rfl
    have e : addElemL k p n xs ys = plusL k p xs ys := by simp [addElemL, hr]
    obtain ⟨r, hres⟩ : ∃ r, r = plusL k p xs ys := ⟨_, rfl⟩
    rw [e, ← hres]
    have HE := Lib.hid hres
    have HF := Lib.hid hr
    have OX := Lib.hid h3
    have OY := Lib.hid h4
    clear h3 h4 h2 e hr hres
    go_enter Try.func27, Try.ntmps27
    go_wp2_with fail
    refine (Inv.call (Lib.hid (Inv.box w k p n _)) (elem_ok_spec (HX.out.below ((Below.refl _ _).alloc (Nat.le_refl _) _) hB) (by simp; omega) hn)).mono ?_
    rw [OX.out]
    rintro e w1 ⟨rfl, HV1, c0, c1, c2⟩
    go_wp2_with fail
    refine (Inv.call HV1 (elem_ok_spec (HY.out.below HV1.out.1 hB) (Nat.le_trans hB HV1.out.1.size) hn2)).mono ?_
    rw [OY.out]
    clear c0 c1 c2
    rintro e w2 ⟨rfl, HV2, c0, c1, c2⟩
    go_wp2_with fail
    refine (plus_spec (twoOk_parts HF.out).1 (HX.out.below HV2.out.1 hB) (HY.out.below HV2.out.1 hB) (Nat.le_trans hB HV2.out.1.size) (twoOk_parts HF.out).2.1 (twoOk_parts HF.out).2.2).mono ?_
    rw [← HE.out]
    intro e w3 h2
    obtain ⟨v, rfl, ho, hb⟩ := NewRow.after HV2.out.1 h2
    clear h2
    have HO := Lib.hid ho
    have HB := Lib.hid hb
    clear ho hb
    go_wp2
    go_ret
    exact ⟨v, rfl, HO.out, HB.out⟩
end Go.Proofs.Ytfcobkkpkppodaa
