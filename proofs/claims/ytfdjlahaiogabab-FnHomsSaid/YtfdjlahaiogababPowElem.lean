
/- PowElem, both. -/
import Derived.Test.YtfdjlahaiogababCount2
import Derived.Test.YtfdjlahaiogababTimesOne
namespace Go.Proofs.Ytfdjlahaiogabab
set_option maxRecDepth 20000
open Go.RowKit

noncomputable def powElemL (k p n : Int) (xs : List Int) (c : Int) : List Int := if (okElemB k p n xs && inB c 0 1000) = true then powL k p n xs c.toNat else []
theorem okElem_parts {k p n : Int} {xs : List Int} (h : okElemB k p n xs = true) : ringB k p n = true ∧ ElemV k p n xs := by
  unfold okElemB at h
  rw [Bool.and_eq_true] at h
  exact ⟨h.1, elemB_true.1 h.2⟩
theorem powElem_len (k p n : Int) (xs : List Int) (c : Int) : (powElemL k p n xs c).length ≤ 6 := by
  unfold powElemL
  by_cases h : (okElemB k p n xs && inB c 0 1000) = true
  · rw [if_pos h]
    rw [Bool.and_eq_true] at h
    have h1 := okElem_parts h.1
    have h2 := ring_width h1.1
    have h3 := (pow_elem h1.1 h1.2 c.toNat).1
    omega
  · rw [if_neg h]; simp
/-- What the walks of impl.PowElem begin with. -/
theorem pow_rows {B lx cx : Nat} {ax : Option Addr} {k p n : Int} {xs : List Int} {w : World} (hx : Rd B w (.slice ax lx cx) (ints xs)) (hB : B ≤ w.heap.size) :
    Hid (RdRows (w.heap.size + 1 + 1) ((w.alloc (.cells (ringC k p n) 31)).alloc (.cells #[.slice ax lx cx] 24)) (.slice (some ⟨w.heap.size + 1, 0, none⟩) 1 1) [xs]) ∧
    Hid (Inv w ((w.alloc (.cells (ringC k p n) 31)).alloc (.cells #[.slice ax lx cx] 24)) w.heap.size k p n) :=
  ⟨RdRows.one (B := B) (b := w.heap.size + 1) (hx.below (((Below.refl w.heap.size w).alloc (Nat.le_refl _) (.cells (ringC k p n) 31)).alloc (by simp) (.cells #[.slice ax lx cx] 24)) hB) (by omega) (by simp [World.cell?_alloc_at]),
    (Inv.box w k p n 31).step ((Below.refl _ _).alloc (Nat.le_refl _) (.cells #[.slice ax lx cx] 24))⟩
theorem holds_one (k p n : Int) (xs : List Int) : holdsB k p n [xs] = okElemB k p n xs := by simp [okElemB, holdsB]

set_option maxHeartbeats 800000 in
theorem pow_impl_not {B lx cx : Nat} {ax : Option Addr} {k p n c : Int} {xs : List Int} {w : World} (hx : Rd B w (.slice ax lx cx) (ints xs)) (hB : B ≤ w.heap.size) (hn : xs.length ≤ 281474976710656) (hf : okElemB k p n xs = false) :
    Calls Try.prog 70 #[ringV k p n, .slice ax lx cx, .int .i64 c] w (NewRow w []) := by
  obtain ⟨RR, IV⟩ := pow_rows (k := k) (p := p) (n := n) hx hB
  have HF := Lib.hid hf
  clear hf hx
  go_enter Try.func70, Try.ntmps70
  go_wp2_with fail
  refine (Inv.call IV (holds_impl RR.out (by simp) (by simp) (by simpa using hn))).mono ?_
  rw [holds_one, HF.out]
  rintro e w1 ⟨rfl, HV1, c0, c1, c2⟩
  go_wp2
  go_ret
  exact nil_row HV1.out.1
set_option maxHeartbeats 800000 in
theorem pow_impl_out {B lx cx : Nat} {ax : Option Addr} {k p n c : Int} {xs : List Int} {w : World} (hx : Rd B w (.slice ax lx cx) (ints xs)) (hB : B ≤ w.heap.size) (hn : xs.length ≤ 281474976710656) (hf : okElemB k p n xs = true) (hc : c < 0 ∨ 1000 < c) :
    Calls Try.prog 70 #[ringV k p n, .slice ax lx cx, .int .i64 c] w (NewRow w []) := by
  obtain ⟨RR, IV⟩ := pow_rows (k := k) (p := p) (n := n) hx hB
  have HF := Lib.hid hf
  clear hf hx
  rcases hc with hc | hc <;>
  · go_enter Try.func70, Try.ntmps70
    go_wp2_with fail
    refine (Inv.call IV (holds_impl RR.out (by simp) (by simp) (by simpa using hn))).mono ?_
    rw [holds_one, HF.out]
    rintro e w1 ⟨rfl, HV1, c0, c1, c2⟩
    go_wp2
    go_ret
    exact nil_row HV1.out.1
set_option maxHeartbeats 1600000 in
theorem pow_impl_in {B lx cx c : Nat} {ax : Option Addr} {k p n : Int} {xs : List Int} {w : World} (hx : Rd B w (.slice ax lx cx) (ints xs)) (hB : B ≤ w.heap.size) (hn : xs.length ≤ 281474976710656) (hf : okElemB k p n xs = true) (hc : c ≤ 1000) :
    Calls Try.prog 70 #[ringV k p n, .slice ax lx cx, .int .i64 c] w (NewRow w (powL k p n xs c)) := by
  obtain ⟨RR, IV⟩ := pow_rows (k := k) (p := p) (n := n) hx hB
  have HF := Lib.hid hf
  have HP := Lib.hid (okElem_parts hf)
  have HX := Lib.hid hx
  clear hf hx
  go_enter Try.func70, Try.ntmps70
  go_wp2_with fail
  refine (Inv.call IV (holds_impl RR.out (by simp) (by simp) (by simpa using hn))).mono ?_
  rw [holds_one, HF.out]
  rintro e w1 ⟨rfl, HV1, c0, c1, c2⟩
  have HV1' := Lib.hid HV1.out.drew
  clear HV1
  go_wp2
  go_region_held3 (fun w' => w'.cell? ⟨w.heap.size, 0, none⟩ = some (.int .i64 k) ∧ w'.cell? ⟨w.heap.size, 1, none⟩ = some (.int .i64 p) ∧ w'.cell? ⟨w.heap.size, 2, none⟩ = some (.int .i64 n)) (first | exact ⟨c0, c1, c2⟩ | exact HV2.out.cells | exact HV1'.out.cells) (first
    | (go_at_call 130; refine (Inv.make (by assumption) (one_impl k p n _ HP.out.1)).mono ?_; rintro e w2 ⟨vo, rfl, HO, HV2, ⟨c0, c1, c2⟩, T⟩)
    | (go_at_call 129; refine (repeated_times (pw := powL k p n xs) (N := c) (B := B) (combines_times HP.out.1) (pow_elem HP.out.1 HP.out.2) (pow_times HP.out.1 HP.out.2) (by omega) ((pow_one HP.out.1 HP.out.2).symm ▸ HX.out.below HV2.out.1 hB) (Nat.le_trans hB HV2.out.1.size) HO.out HV2.out.1.size).mono ?_; rintro e w3 ⟨r, rfl, ho3, hb3⟩; obtain ⟨c0, c1, c2⟩ := (HV2.out.step hb3).cells; have RES := Lib.hid (⟨ho3, HV2.out.1.trans (hb3.mono HV2.out.1.size)⟩ : _ ∧ Below w.heap.size w w3)))
  all_goals
    go_wp2
    go_ret
    exact ⟨_, rfl, RES.out.1, RES.out.2⟩
/-- impl.PowElem. -/
theorem pow_impl {B : Nat} {v : Value} {k p n c : Int} {xs : List Int} {w : World} (hx : Rd B w v (ints xs)) (hB : B ≤ w.heap.size) (hn : xs.length ≤ 281474976710656) :
    Calls Try.prog 70 #[ringV k p n, v, .int .i64 c] w (NewRow w (powElemL k p n xs c)) := by
  obtain ⟨ax, cx, rfl, -⟩ := ints_form hx
  cases hf : okElemB k p n xs with
  | false => rw [show powElemL k p n xs c = [] from by simp [powElemL, hf]]; exact pow_impl_not hx hB hn hf
  | true =>
    by_cases hc : c < 0 ∨ 1000 < c
    · rw [show powElemL k p n xs c = [] from by unfold powElemL inB; rw [if_neg]; simp; omega]; exact pow_impl_out hx hB hn hf hc
    · obtain ⟨m, rfl⟩ := Int.eq_ofNat_of_zero_le (show 0 ≤ c by omega)
      rw [show powElemL k p n xs (m : Int) = powL k p n xs m from by unfold powElemL inB; rw [if_pos (by simp [hf]; omega)]; rfl]
      exact pow_impl_in hx hB hn hf (by omega)

end Go.Proofs.Ytfdjlahaiogabab
