
/- PowElem, both. -/
import Derived.Test.YtfcobkkpkppodaaCount2
import Derived.Test.YtfcobkkpkppodaaMulElem
namespace Go.Proofs.Ytfcobkkpkppodaa
set_option maxRecDepth 20000
open Go.RowKit

noncomputable def powElemL (k p n : Int) (xs : List Int) (c : Int) : List Int := if (okElemB k p n xs && inB c 0 1000) = true then powL k p n xs c.toNat else []
theorem okElem_parts {k p n : Int} {xs : List Int} (h : okElemB k p n xs = true) : ringB k p n = true ∧ ElemV k p n xs := by
  unfold okElemB at h
  rw [Bool.and_eq_true] at h
  exact ⟨h.1, elemB_true.1 h.2⟩
theorem powElem_len (k p n : Int) (xs : List Int) (c : Int) : (powElemL k p n xs c).length ≤ 6 := by
  unfold powElemL
  by_cases h : (okElemB k p n xs && inB c 0 1000) = true
  · rw [if_pos h]
    rw [Bool.and_eq_true] at h
    have h1 := okElem_parts h.1
    have h2 := ring_width h1.1
    have h3 := (pow_elem h1.1 h1.2 c.toNat).1
    omega
  · rw [if_neg h]; simp
/-- What the walks of impl.PowElem begin with. -/
theorem pow_rows {B lx cx : Nat} {ax : Option Addr} {k p n : Int} {xs : List Int} {w : World} (hx : Rd B w (.slice ax lx cx) (ints xs)) (hB : B ≤ w.heap.size) :
    Hid (RdRows (w.heap.size + 1 + 1) ((w.alloc (.cells (ringC k p n) 26)).alloc (.cells #[.slice ax lx cx] 24)) (.slice (some ⟨w.heap.size + 1, 0, none⟩) 1 1) [xs]) ∧
    Hid (Inv w ((w.alloc (.cells (ringC k p n) 26)).alloc (.cells #[.slice ax lx cx] 24)) w.heap.size k p n) :=
  ⟨RdRows.one (B := B) (b := w.heap.size + 1) (hx.below (((Below.refl w.heap.size w).alloc (Nat.le_refl _) (.cells (ringC k p n) 26)).alloc (by simp) (.cells #[.slice ax lx cx] 24)) hB) (by omega) (by simp [World.cell?_alloc_at]),
    (Inv.box w k p n 26).step ((Below.refl _ _).alloc (Nat.le_refl _) (.cells #[.slice ax lx cx] 24))⟩
theorem holds_one (k p n : Int) (xs : List Int) : holdsB k p n [xs] = okElemB k p n xs := by simp [okElemB, holdsB]

set_option maxHeartbeats 800000 in
theorem pow_impl_not {B lx cx : Nat} {ax : Option Addr} {k p n c : Int} {xs : List Int} {w : World} (hx : Rd B w (.slice ax lx cx) (ints xs)) (hB : B ≤ w.heap.size) (hn : xs.length ≤ 281474976710656) (hf : okElemB k p n xs = false) :
    Calls Try.prog 40 #[ringV k p n, .slice ax lx cx, .int .i64 c] w (NewRow w []) := by
  obtain ⟨RR, IV⟩ := pow_rows (k := k) (p := p) (n := n) hx hB
  have HF := Lib.hid hf
  clear hf hx
  go_enter Try.func40, Try.ntmps40
  go_wp2_with fail
  refine (Inv.call IV (holds_impl RR.out (by simp) (by simp) (by simpa using hn))).mono ?_
  rw [holds_one, HF.out]
  rintro e w1 ⟨rfl, HV1, c0, c1, c2⟩
  go_wp2
  go_ret
  exact nil_row HV1.out.1
set_option maxHeartbeats 800000 in
theorem pow_impl_out {B lx cx : Nat} {ax : Option Addr} {k p n c : Int} {xs : List Int} {w : World} (hx : Rd B w (.slice ax lx cx) (ints xs)) (hB : B ≤ w.heap.size) (hn : xs.length ≤ 281474976710656) (hf : okElemB k p n xs = true) (hc : c < 0 ∨ 1000 < c) :
    Calls Try.prog 40 #[ringV k p n, .slice ax lx cx, .int .i64 c] w (NewRow w []) := by
  obtain ⟨RR, IV⟩ := pow_rows (k := k) (p := p) (n := n) hx hB
  have HF := Lib.hid hf
  clear hf hx
  rcases hc with hc | hc <;>
  · go_enter Try.func40, Try.ntmps40
    go_wp2_with fail
    refine (Inv.call IV (holds_impl RR.out (by simp) (by simp) (by simpa using hn))).mono ?_
    rw [holds_one, HF.out]
    rintro e w1 ⟨rfl, HV1, c0, c1, c2⟩
    go_wp2
    go_ret
    exact nil_row HV1.out.1
set_option maxHeartbeats 1600000 in
theorem pow_impl_in {B lx cx c : Nat} {ax : Option Addr} {k p n : Int} {xs : List Int} {w : World} (hx : Rd B w (.slice ax lx cx) (ints xs)) (hB : B ≤ w.heap.size) (hn : xs.length ≤ 281474976710656) (hf : okElemB k p n xs = true) (hc : c ≤ 1000) :
    Calls Try.prog 40 #[ringV k p n, .slice ax lx cx, .int .i64 c] w (NewRow w (powL k p n xs c)) := by
  obtain ⟨RR, IV⟩ := pow_rows (k := k) (p := p) (n := n) hx hB
  have HF := Lib.hid hf
  have HP := Lib.hid (okElem_parts hf)
  have HX := Lib.hid hx
  clear hf hx
  go_enter Try.func40, Try.ntmps40
  go_wp2_with fail
  refine (Inv.call IV (holds_impl RR.out (by simp) (by simp) (by simpa using hn))).mono ?_
  rw [holds_one, HF.out]
  rintro e w1 ⟨rfl, HV1, c0, c1, c2⟩
  have HV1' := Lib.hid HV1.out.drew
  clear HV1
  go_wp2
  go_region_held3 (fun w' => w'.cell? ⟨w.heap.size, 0, none⟩ = some (.int .i64 k) ∧ w'.cell? ⟨w.heap.size, 1, none⟩ = some (.int .i64 p) ∧ w'.cell? ⟨w.heap.size, 2, none⟩ = some (.int .i64 n)) (first | exact ⟨c0, c1, c2⟩ | exact HV2.out.cells | exact HV1'.out.cells) (first
    | (go_at_call 59; refine (Inv.make (by assumption) (one_impl k p n _ HP.out.1)).mono ?_; rintro e w2 ⟨vo, rfl, HO, HV2, ⟨c0, c1, c2⟩, T⟩)
    | (go_at_call 65; refine (repeated_times (pw := powL k p n xs) (N := c) (B := B) (combines_times HP.out.1) (pow_elem HP.out.1 HP.out.2) (pow_times HP.out.1 HP.out.2) (by omega) ((pow_one HP.out.1 HP.out.2).symm ▸ HX.out.below HV2.out.1 hB) (Nat.le_trans hB HV2.out.1.size) HO.out HV2.out.1.size).mono ?_; rintro e w3 ⟨r, rfl, ho3, hb3⟩; obtain ⟨c0, c1, c2⟩ := (HV2.out.step hb3).cells; have RES := Lib.hid (⟨ho3, HV2.out.1.trans (hb3.mono HV2.out.1.size)⟩ : _ ∧ Below w.heap.size w w3)))
  all_goals
    go_wp2
    go_ret
    exact ⟨_, rfl, RES.out.1, RES.out.2⟩
/-- impl.PowElem. -/
theorem pow_impl {B : Nat} {v : Value} {k p n c : Int} {xs : List Int} {w : World} (hx : Rd B w v (ints xs)) (hB : B ≤ w.heap.size) (hn : xs.length ≤ 281474976710656) :
    Calls Try.prog 40 #[ringV k p n, v, .int .i64 c] w (NewRow w (powElemL k p n xs c)) := by
  obtain ⟨ax, cx, rfl, -⟩ := ints_form hx
  cases hf : okElemB k p n xs with
  | false => rw [show powElemL k p n xs c = [] from by simp [powElemL, hf]]; exact pow_impl_not hx hB hn hf
  | true =>
    by_cases hc : c < 0 ∨ 1000 < c
    · rw [show powElemL k p n xs c = [] from by unfold powElemL inB; rw [if_neg]; simp; omega]; exact pow_impl_out hx hB hn hf hc
    · obtain ⟨m, rfl⟩ := Int.eq_ofNat_of_zero_le (show 0 ≤ c by omega)
      rw [show powElemL k p n xs (m : Int) = powL k p n xs m from by unfold powElemL inB; rw [if_pos (by simp [hf]; omega)]; rfl]
      exact pow_impl_in hx hB hn hf (by omega)

set_option maxHeartbeats 800000 in
theorem pow_spec_not {B : Nat} {v : Value} {k p n c : Int} {xs : List Int} {w : World} (hx : Rd B w v (ints xs)) (hB : B ≤ w.heap.size) (hn : xs.length ≤ 281474976710656) (hf : okElemB k p n xs = false) :
    Calls Try.prog 39 #[ringV k p n, v, .int .i64 c] w (NewRow w []) := by
  have HX := Lib.hid hx
  have HF := Lib.hid hf
  clear hx hf
  go_enter Try.func39, Try.ntmps39
  go_wp2_with fail
  refine (Inv.call (Lib.hid (Inv.box w k p n _)) (elem_ok_spec (HX.out.below ((Below.refl _ _).alloc (Nat.le_refl _) _) hB) (by simp; omega) hn)).mono ?_
  rw [HF.out]
  rintro e w1 ⟨rfl, HV1, c0, c1, c2⟩
  go_wp2
  go_ret
  exact nil_row HV1.out.1
set_option maxHeartbeats 800000 in
theorem pow_spec_out {B : Nat} {v : Value} {k p n c : Int} {xs : List Int} {w : World} (hx : Rd B w v (ints xs)) (hB : B ≤ w.heap.size) (hn : xs.length ≤ 281474976710656) (hf : okElemB k p n xs = true) (hc : inB c 0 1000 = false) :
    Calls Try.prog 39 #[ringV k p n, v, .int .i64 c] w (NewRow w []) := by
  have HX := Lib.hid hx
  have HF := Lib.hid hf
  have HC := Lib.hid hc
  clear hx hf hc
  go_enter Try.func39, Try.ntmps39
  go_wp2_with fail
  refine (Inv.call (Lib.hid (Inv.box w k p n _)) (elem_ok_spec (HX.out.below ((Below.refl _ _).alloc (Nat.le_refl _) _) hB) (by simp; omega) hn)).mono ?_
  rw [HF.out]
  rintro e w1 ⟨rfl, HV1, c0, c1, c2⟩
  go_wp2_with fail
  refine (l01_in c 0 1000 _).mono ?_
  rw [HC.out]
  rintro e w2 ⟨rfl, rfl⟩
  go_wp2
  go_ret
  exact nil_row HV1.out.1
set_option maxHeartbeats 1600000 in
theorem pow_spec_in {B c : Nat} {v : Value} {k p n : Int} {xs : List Int} {w : World} (hx : Rd B w v (ints xs)) (hB : B ≤ w.heap.size) (hn : xs.length ≤ 281474976710656) (hf : okElemB k p n xs = true) (hc : c ≤ 1000) :
    Calls Try.prog 39 #[ringV k p n, v, .int .i64 c] w (NewRow w (powL k p n xs c)) := by
  have HX := Lib.hid hx
  have HF := Lib.hid hf
  have HP := Lib.hid (okElem_parts hf)
  have HC := Lib.hid (show inB (c : Int) 0 1000 = true by simp [inB]; omega)
  clear hx hf
  go_enter Try.func39, Try.ntmps39
  go_wp2_with fail
  refine (Inv.call (Lib.hid (Inv.box w k p n _)) (elem_ok_spec (HX.out.below ((Below.refl _ _).alloc (Nat.le_refl _) _) hB) (by simp; omega) hn)).mono ?_
  rw [HF.out]
  rintro e w1 ⟨rfl, HV1, c0, c1, c2⟩
  go_wp2_with fail
  refine (l01_in (c : Int) 0 1000 _).mono ?_
  rw [HC.out]
  rintro e w2 ⟨rfl, rfl⟩
  go_wp2_with fail
  refine (Inv.make HV1 (one_spec k p n _ HP.out.1)).mono ?_
  clear c0 c1 c2
  rintro e w2 ⟨vo, rfl, HO, HV2, ⟨c0, c1, c2⟩, -⟩
  clear c0 c1 c2 HV1
  go_wp2
  go_loopw [2, 7] (fun u vr wr => ∃ q d : Nat, u = .int .i64 q ∧ q ≤ c ∧ Hid (d + q = c) ∧ Hid (Own wr w.heap.size wr.heap.size vr (powL k p n xs d)) ∧ Hid (Inv w wr w.heap.size k p n)) (fun u _ _ => (intOf u).toNat)
  case atStart => exact ⟨c, 0, rfl, Nat.le_refl _, by show 0 + c = c; omega, HO, HV2⟩
  case round =>
    clear HO HV2
    obtain ⟨q, d, rfl, hq, HS, HOr, HV⟩ := hrel
    obtain ⟨c0, c1, c2⟩ := HV.out.cells
    by_cases h0 : 0 < q
    · go_wp2_with fail
      refine (Inv.make HV (mul_spec HP.out.1 (HOr.out.rd.mono (Nat.le_refl _)) ((HX.out.below HV.out.1 hB).mono (Nat.le_trans hB HV.out.1.size)) (Nat.le_refl _) (pow_elem HP.out.1 HP.out.2 d) HP.out.2)).mono ?_
      clear c0 c1 c2
      rintro e w3 ⟨v3, rfl, HO3, HV3, ⟨c0, c1, c2⟩, -⟩
      go_wp2
      go_roundw
      case rel => exact ⟨q - 1, d + 1, by go_num, by omega, by show d + 1 + (q - 1) = c; have := HS.out; omega, HO3, HV3⟩
      case measure => simp [intOf]; omega
    · obtain rfl : q = 0 := by omega
      have HZ : Hid (d = c) := Lib.hid (by have := HS.out; omega)
      go_wp2
      go_ret
      exact ⟨_, rfl, HZ.out ▸ HOr.out, HV.out.1⟩
/-- spec.PowElem. -/
theorem pow_spec {B : Nat} {v : Value} {k p n c : Int} {xs : List Int} {w : World} (hx : Rd B w v (ints xs)) (hB : B ≤ w.heap.size) (hn : xs.length ≤ 281474976710656) :
    Calls Try.prog 39 #[ringV k p n, v, .int .i64 c] w (NewRow w (powElemL k p n xs c)) := by
  cases hf : okElemB k p n xs with
  | false => rw [show powElemL k p n xs c = [] from by simp [powElemL, hf]]; exact pow_spec_not hx hB hn hf
  | true =>
    cases hc : inB c 0 1000 with
    | false => rw [show powElemL k p n xs c = [] from by simp [powElemL, hc]]; exact pow_spec_out hx hB hn hf hc
    | true =>
      have hc2 := inB_true.1 hc
      obtain ⟨m, rfl⟩ := Int.eq_ofNat_of_zero_le (show 0 ≤ c by omega)
      rw [show powElemL k p n xs (m : Int) = powL k p n xs m from by unfold powElemL; rw [if_pos (by simp [hf, hc])]; rfl]
      exact pow_spec_in hx hB hn hf (by omega)
end Go.Proofs.Ytfcobkkpkppodaa
