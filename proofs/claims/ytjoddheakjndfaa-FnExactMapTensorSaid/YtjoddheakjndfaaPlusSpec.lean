
/- Sums of elements, both. -/
import Derived.Test.YtjoddheakjndfaaZero
import Derived.Test.YtjoddheakjndfaaElemOk
import Derived.StillTailTactics
namespace Go.Proofs.Ytjoddheakjndfaa
set_option maxRecDepth 20000
open Go.RowKit

set_option maxHeartbeats 800000 in
theorem plus_int (k p n a b : Int) (w : World) (hr : ringB k p n = true) (ha : 0 ≤ a) (ha2 : a ≤ 1048576) (hb : 0 ≤ b) (hb2 : b ≤ 1048576) :
    Calls Try.prog 56 #[ringV k p n, .int .i64 a, .int .i64 b] w fun e w' => e = .returned (.int .i64 (plusI k p a b)) ∧ Below w.heap.size w w' := by
  rcases ring_cases hr with ⟨rfl, g⟩ | ⟨rfl, g⟩ | ⟨rfl, g⟩ | ⟨rfl, g⟩ | ⟨rfl, g⟩ | ⟨rfl, g⟩ | ⟨rfl, g⟩ | ⟨rfl, g⟩
  all_goals
    clear hr
    go_enter Try.func56, Try.ntmps56
    go_wp2
    all_goals
      go_ret
      exact ⟨by first | (simp [plusI]; done) | (simp [plusI]; omega), (Below.refl _ _).alloc (Nat.le_refl _) _⟩

def fillL (m : Nat) (f : Nat → Int) (j : Nat) : List Int := (List.range m).map fun i => if i < j then f i else 0
theorem fillL_len (m : Nat) (f : Nat → Int) (j : Nat) : (fillL m f j).length = m := by simp [fillL]
theorem fillL_zero (m : Nat) (f : Nat → Int) : fillL m f 0 = zerosL m := by
  apply List.ext_getElem (by simp [fillL, zerosL])
  intro i h1 h2
  simp [fillL, zerosL]
theorem fillL_set (m : Nat) (f : Nat → Int) (j : Nat) : (fillL m f j).set j (f j) = fillL m f (j + 1) := by
  apply List.ext_getElem (by simp [fillL])
  intro i h1 h2
  simp only [fillL, List.getElem_set, List.getElem_map, List.getElem_range]
  by_cases h : j = i
  · subst h; simp
  · rw [if_neg h]
    by_cases h3 : i < j
    · rw [if_pos h3, if_pos (by omega)]
    · rw [if_neg h3, if_neg (by omega)]
theorem fillL_full (m : Nat) (f : Nat → Int) : fillL m f m = (List.range m).map f := by
  apply List.ext_getElem (by simp [fillL])
  intro i h1 h2
  have : i < m := by simpa [fillL] using h1
  simp [fillL, this]
theorem getD_of {xs : List Int} {i : Nat} {x : Int} (h : xs[i]? = some x) : xs.getD i 0 = x := by rw [List.getD_eq_getElem?_getD, h]; rfl

theorem Inv.set {w0 w : World} {b : Nat} {k p n : Int} {q : Addr} (h : Inv w0 w b k p n) (h1 : b < q.block) (h2 : w0.heap.size ≤ q.block) (u : Value) : Inv w0 (w.setCell q u) b k p n :=
  ⟨h.1.setCell h2 u, h.2.1.below ((Below.refl _ _).setCell (Nat.le_refl _) u) h1, by simpa using h.2.2⟩
/-- A slot of a row of the call's own is there. -/
theorem row_slot {w : World} {B g m j : Nat} {zs : List Int} (h : Hid (w.ownsRow B 3 1 (.slice (some ⟨g, 0, none⟩) m m) m (ints zs))) (hj : j < zs.length) : ∃ x, zs[j]? = some x ∧ w.cell? ⟨g, j, none⟩ = some (.int .i64 x) := by
  have hl : (ints zs).length = m * 1 := h.out.1
  rw [ints_len] at hl
  exact ⟨zs[j], List.getElem?_eq_getElem hj, by rw [h.out.cellAt j (by omega), ints_at _ _ hj]⟩
theorem own_row_by {w w' : World} {B n : Nat} {E : TypeId} {v : Value} {xs : List Value} (h : w.ownsRow B E 1 v n xs) (hb : Below w.heap.size w w') : w'.ownsRow B E 1 v n xs :=
  h.kept (row := none) ⟨hb.os, hb.tape, hb.output, hb.size, fun k hk _ => hb.block k hk⟩ (by
    cases hv : v.ownBlock with
    | none => exact .inl rfl
    | some g => exact .inr (by simp))
theorem row_after {w w1 w' : World} {B g m j : Nat} {zs : List Int} (h : Hid (w.ownsRow B 3 1 (.slice (some ⟨g, 0, none⟩) m m) m (ints zs))) (hb : Below w1.heap.size w1 w') (hh : w1.heap = w.heap) (hs : Hid (∃ x, zs[j]? = some x ∧ w.cell? ⟨g, j, none⟩ = some (.int .i64 x))) :
    Hid (w'.ownsRow B 3 1 (.slice (some ⟨g, 0, none⟩) m m) m (ints zs)) ∧ w'.cell? ⟨g, j, none⟩ = some (.int .i64 (zs.getD j 0)) ∧ w'.frozen? ⟨g, j, none⟩ = false := by
  have h1 : w1.ownsRow B 3 1 (.slice (some ⟨g, 0, none⟩) m m) m (ints zs) := by
    have := h.out
    unfold World.ownsRow at this ⊢
    rw [hh]; exact this
  have h2 := own_row_by h1 hb
  obtain ⟨x, hx, hc⟩ := hs.out
  have hl : (ints zs).length = m * 1 := h1.1
  rw [ints_len] at hl
  have hj := (List.getElem?_eq_some_iff.1 hx).1
  exact ⟨h2, by rw [getD_of hx, h2.cellAt j (by omega)]; simp [ints, hx], h2.frozenAt j⟩

set_option maxHeartbeats 1600000 in
theorem plus_impl_full (ax ay : Option Addr) (cx cy m B0 : Nat) (k p n : Int) (xs ys : List Int) (w : World) (hr : ringB k p n = true) (hx : xs.length = m) (hy : ys.length = m) (hm0 : 1 ≤ m) (hm : m ≤ 6) (hB0 : B0 ≤ w.heap.size)
    (hex : Within 1048576 xs) (hey : Within 1048576 ys)
    (hax : 0 < m → ∃ b off, ax = some ⟨b, off, none⟩ ∧ b < B0 ∧ ∀ i (h : i < xs.length), w.cell? ⟨b, off + i, none⟩ = some (.int .i64 xs[i]))
    (hay : 0 < m → ∃ b off, ay = some ⟨b, off, none⟩ ∧ b < B0 ∧ ∀ i (h : i < ys.length), w.cell? ⟨b, off + i, none⟩ = some (.int .i64 ys[i])) :
    Calls Try.prog 29 #[ringV k p n, .slice ax m cx, .slice ay m cy] w (NewRow w (plusL k p xs ys)) := by
  obtain ⟨bx, ox, rfl, hbx, hcx⟩ := hax (by omega)
  obtain ⟨by', oy, rfl, hby, hcy⟩ := hay (by omega)
  have HX := Lib.hid hcx
  have HY := Lib.hid hcy
  have L1 := Lib.hid hx
  have L2 := Lib.hid hy
  have HR := Lib.hid hr
  have E1 := Lib.hid hex
  have E2 := Lib.hid hey
  have hbx2 : bx < w.heap.size := Nat.lt_of_lt_of_le hbx hB0
  have hby2 : by' < w.heap.size := Nat.lt_of_lt_of_le hby hB0
  obtain ⟨B, hB⟩ : ∃ B, B = w.heap.size := ⟨_, rfl⟩
  have HB := Lib.hid hB
  obtain ⟨i0, hi, hz0, hz1, hz2⟩ := info_parts infoInt
  have HV1 := Lib.hid (Inv.box w k p n 31)
  clear hax hay hcx hcy hx hy hr hex hey hbx hby hB0 hB
  go_enter Try.func29, Try.ntmps29
  go_wp2_with (at_make; refine wpList_make_full _ rfl _ _ 24 rfl B 3 i0 (.int .i64 0) 1 Try.underlying24 hi hz0 hz1 .i64 .i64 _ _ m rfl rfl rfl rfl (by rw [hz2]; omega) (by unfold maxLen; omega) (by rw [HB.out]; simp) ?_; intro w2 hown hgrow; obtain ⟨HV2, OW, hsz, f0, g1, d0, d1, d2⟩ := made_facts HV1 hown hgrow hm0; clear hown hgrow f0 g1 d0 d1 d2 hi hz0 hz1 hz2)
  have OW2 : Hid (w2.ownsRow B 3 1 (.slice (some ⟨w.heap.size + 1, 0, none⟩) m m) m (ints (zerosL m))) := by
    have h := OW.out
    rw [show (w.alloc (.cells (ringC k p n) 31)).heap.size = w.heap.size + 1 from by simp] at h
    exact h
  clear OW HV1
  go_loopw [15] (fun i wr => ∃ j : Nat, j ≤ m ∧ i = .int .i64 j ∧ Hid (Inv w wr w.heap.size k p n) ∧ Hid (wr.ownsRow B 3 1 (.slice (some ⟨w.heap.size + 1, 0, none⟩) m m) m (ints (fillL m (fun i => plusI k p (xs.getD i 0) (ys.getD i 0)) j)))) (fun i _ => m - (intOf i).toNat)
  case atStart => exact ⟨0, by omega, rfl, HV2, by rw [fillL_zero]; exact OW2⟩
  case round =>
    clear HV2 OW2 hsz
    obtain ⟨j, hj, rfl, HV, HO⟩ := hrel
    by_cases hlt : j < m
    · obtain ⟨a, e1, X1⟩ := ints_cell L1.out HX.out hlt
      obtain ⟨b, e2, Y1⟩ := ints_cell L2.out HY.out hlt
      have wa := E1.out a (List.mem_of_getElem? X1.out)
      have wb := E2.out b (List.mem_of_getElem? Y1.out)
      obtain ⟨c0, c1, c2⟩ := HV.out.cells
      have d1 : wr.cell? ⟨bx, ox + j, none⟩ = some (.int .i64 a) := (HV.out.1.cell (p := ⟨bx, ox + j, none⟩) hbx2).trans e1
      have d2 : wr.cell? ⟨by', oy + j, none⟩ = some (.int .i64 b) := (HV.out.1.cell (p := ⟨by', oy + j, none⟩) hby2).trans e2
      obtain ⟨v, hv⟩ : ∃ v, v = plusI k p a b := ⟨_, rfl⟩
      have HVV := Lib.hid hv
      have HS := Lib.hid (row_slot HO (by rw [fillL_len]; exact hlt))
      clear e1 e2 hv
      go_wp2
      go_region_with (go_at_call 56; refine (plus_int k p n a b _ HR.out (by omega) (by omega) (by omega) (by omega)).mono ?_; rw [← HVV.out]; rintro e w3 ⟨rfl, hb3⟩; obtain ⟨HO3, c3, f3⟩ := row_after HO hb3 rfl HS)
      all_goals
        have HV3 := Lib.hid ((HV.out.drew.step hb3).set (q := ⟨w.heap.size + 1, j, none⟩) (by simp) (by simp) (.int .i64 v))
        have ST : Hid ((w3.setCell ⟨w.heap.size + 1, j, none⟩ (.int .i64 v)).ownsRow B 3 1 (.slice (some ⟨w.heap.size + 1, 0, none⟩) m m) m (ints (fillL m (fun i => plusI k p (xs.getD i 0) (ys.getD i 0)) (j + 1)))) := by
          have h := (HO3.out.stored j (.int .i64 v)).1
          rw [← ints_set, HVV.out, ← getD_of X1.out, ← getD_of Y1.out, fillL_set m (fun i => plusI k p (xs.getD i 0) (ys.getD i 0)) j, getD_of X1.out, getD_of Y1.out, ← HVV.out] at h
          exact h
        clear hb3 c3 f3 c0 c1 c2 d1 d2
        go_wp2
        go_roundw
        case rel => exact ⟨j + 1, by omega, by go_num, HV3, ST⟩
        case measure => simp [intOf]; omega
    · obtain rfl : j = m := by omega
      go_wp2
      go_ret
      refine ⟨_, rfl, Own.of (n := j) ?_ (by simp [plusL, L1.out]), HV.out.1⟩
      have h := HO.out
      rw [fillL_full, HB.out] at h
      rw [show plusL k p xs ys = (List.range j).map fun i => plusI k p (xs.getD i 0) (ys.getD i 0) from by rw [plusL, L1.out]]
      exact h

/-- (Ring).plus on elements. -/
theorem plus_impl {B : Nat} {vx vy : Value} {k p n : Int} {xs ys : List Int} {w : World} (hr : ringB k p n = true) (hx : Rd B w vx (ints xs)) (hy : Rd B w vy (ints ys)) (hB : B ≤ w.heap.size) (ex : ElemV k p n xs) (ey : ElemV k p n ys) :
    Calls Try.prog 29 #[ringV k p n, vx, vy] w (NewRow w (plusL k p xs ys)) := by
  obtain ⟨ax, cx, rfl, hax⟩ := ints_form hx
  obtain ⟨ay, cy, rfl, hay⟩ := ints_form hy
  have h1 := ring_width hr
  have h2 := ring_top hr
  have l1 := ex.1
  have l2 := ey.1
  have hl : ys.length = xs.length := by omega
  rw [hl]
  exact plus_impl_full ax ay cx cy xs.length B k p n xs ys w hr rfl hl (by omega) (by omega) hB (fun x hx => by have := ex.2 x hx; omega) (fun x hx => by have := ey.2 x hx; omega) hax (fun _ => hay (by omega))
end Go.Proofs.Ytjoddheakjndfaa
namespace Go.Proofs.Ytjoddheakjndfaa
set_option maxRecDepth 20000
open Go.RowKit

theorem plus_step {w w1 : World} {B g m j : Nat} {k p a b v : Int} {xs ys : List Int} (h : Hid (w.ownsRow B 3 1 (.slice (some ⟨g, 0, none⟩) m m) m (ints (fillL m (fun i => plusI k p (xs.getD i 0) (ys.getD i 0)) j)))) (hh : w1.heap = w.heap) (hx : Hid (xs[j]? = some a)) (hy : Hid (ys[j]? = some b)) (hv : v = plusI k p a b) :
    Hid ((w1.setCell ⟨g, j, none⟩ (.int .i64 v)).ownsRow B 3 1 (.slice (some ⟨g, 0, none⟩) m m) m (ints (fillL m (fun i => plusI k p (xs.getD i 0) (ys.getD i 0)) (j + 1)))) := by
  have h1 : w1.ownsRow B 3 1 (.slice (some ⟨g, 0, none⟩) m m) m (ints (fillL m (fun i => plusI k p (xs.getD i 0) (ys.getD i 0)) j)) := by
    have := h.out
    unfold World.ownsRow at this ⊢
    rw [hh]; exact this
  have h2 := (h1.stored j (.int .i64 v)).1
  rw [← ints_set, hv, ← getD_of hx.out, ← getD_of hy.out, fillL_set m (fun i => plusI k p (xs.getD i 0) (ys.getD i 0)) j, getD_of hx.out, getD_of hy.out, ← hv] at h2
  exact h2

set_option maxHeartbeats 1600000 in
set_option maxRecDepth 100000 in
theorem plus_spec_k1 (ax ay : Option Addr) (cx cy m B0 : Nat) (p n : Int) (xs ys : List Int) (w : World) (hr : ringB 1 p n = true) (hx : xs.length = m) (hy : ys.length = m) (hm0 : 1 ≤ m) (hm : m ≤ 6) (hB0 : B0 ≤ w.heap.size)
    (hex : Within 1048576 xs) (hey : Within 1048576 ys)
    (hax : 0 < m → ∃ b off, ax = some ⟨b, off, none⟩ ∧ b < B0 ∧ ∀ i (h : i < xs.length), w.cell? ⟨b, off + i, none⟩ = some (.int .i64 xs[i]))
    (hay : 0 < m → ∃ b off, ay = some ⟨b, off, none⟩ ∧ b < B0 ∧ ∀ i (h : i < ys.length), w.cell? ⟨b, off + i, none⟩ = some (.int .i64 ys[i])) :
    Calls Try.prog 52 #[ringV 1 p n, .slice ax m cx, .slice ay m cy] w (NewRow w (plusL 1 p xs ys)) := by
  obtain ⟨bx, ox, rfl, hbx, hcx⟩ := hax (by omega)
  obtain ⟨by', oy, rfl, hby, hcy⟩ := hay (by omega)
  have HX := Lib.hid hcx
  have HY := Lib.hid hcy
  have L1 := Lib.hid hx
  have L2 := Lib.hid hy
  have HR := Lib.hid hr
  have E1 := Lib.hid hex
  have E2 := Lib.hid hey
  have hbx2 : bx < w.heap.size := Nat.lt_of_lt_of_le hbx hB0
  have hby2 : by' < w.heap.size := Nat.lt_of_lt_of_le hby hB0
  obtain ⟨B, hB⟩ : ∃ B, B = w.heap.size := ⟨_, rfl⟩
  have HB := Lib.hid hB
  obtain ⟨i0, hi, hz0, hz1, hz2⟩ := info_parts infoInt
  have HV1 := Lib.hid (Inv.box w 1 p n 31)
  clear hax hay hcx hcy hx hy hr hex hey hbx hby hB0 hB
  go_enter Try.func52, Try.ntmps52
  go_wp2_with (at_make; refine wpList_make_full _ rfl _ _ 24 rfl B 3 i0 (.int .i64 0) 1 Try.underlying24 hi hz0 hz1 .i64 .i64 _ _ m rfl rfl rfl rfl (by rw [hz2]; omega) (by unfold maxLen; omega) (by rw [HB.out]; simp) ?_; intro w2 hown hgrow; obtain ⟨HV2, OW, hsz, f0, g1, d0, d1, d2⟩ := made_facts HV1 hown hgrow hm0; clear hown hgrow f0 g1 d0 d1 d2 hi hz0 hz1 hz2)
  have OW2 : Hid (w2.ownsRow B 3 1 (.slice (some ⟨w.heap.size + 1, 0, none⟩) m m) m (ints (zerosL m))) := by
    have h := OW.out
    rw [show (w.alloc (.cells (ringC 1 p n) 31)).heap.size = w.heap.size + 1 from by simp] at h
    exact h
  clear OW HV1
  go_loopw [14] (fun i wr => ∃ j : Nat, j ≤ m ∧ i = .int .i64 j ∧ Hid (Inv w wr w.heap.size 1 p n) ∧ Hid (wr.ownsRow B 3 1 (.slice (some ⟨w.heap.size + 1, 0, none⟩) m m) m (ints (fillL m (fun i => plusI 1 p (xs.getD i 0) (ys.getD i 0)) j)))) (fun i _ => m - (intOf i).toNat)
  case atStart => exact ⟨0, by omega, rfl, HV2, by rw [fillL_zero]; exact OW2⟩
  case round =>
    clear HV2 OW2 hsz
    obtain ⟨j, hj, rfl, HV, HO⟩ := hrel
    by_cases hlt : j < m
    · obtain ⟨a, e1, X1⟩ := ints_cell L1.out HX.out hlt
      obtain ⟨b, e2, Y1⟩ := ints_cell L2.out HY.out hlt
      have wa := E1.out a (List.mem_of_getElem? X1.out)
      have wb := E2.out b (List.mem_of_getElem? Y1.out)
      obtain ⟨c0, c1, c2⟩ := HV.out.cells
      have d1 : wr.cell? ⟨bx, ox + j, none⟩ = some (.int .i64 a) := (HV.out.1.cell (p := ⟨bx, ox + j, none⟩) hbx2).trans e1
      have d2 : wr.cell? ⟨by', oy + j, none⟩ = some (.int .i64 b) := (HV.out.1.cell (p := ⟨by', oy + j, none⟩) hby2).trans e2
      obtain ⟨x0, hx0, c3⟩ := row_slot HO (by rw [fillL_len]; exact hlt)
      have f3 := HO.out.frozenAt j
      clear e1 e2 hx0
      go_wp2
      go_still_tail 12, (by kernel_rfl)
      change wpList _ _ _ _ _ wr.drew
      go_wp2
      go_roundw
      case rel => exact ⟨j + 1, by omega, by go_num, Lib.hid (HV.out.drew.set (q := ⟨w.heap.size + 1, j, none⟩) (by simp) (by simp) _), plus_step (w1 := wr.drew) HO rfl X1 Y1 (by simp [plusI])⟩
      case measure => simp [intOf]; omega
    · obtain rfl : j = m := by omega
      go_wp2
      go_ret
      refine ⟨_, rfl, Own.of (n := j) ?_ (by simp [plusL, L1.out]), HV.out.1⟩
      have h := HO.out
      rw [fillL_full, HB.out] at h
      rw [show plusL 1 p xs ys = (List.range j).map fun i => plusI 1 p (xs.getD i 0) (ys.getD i 0) from by rw [plusL, L1.out]]
      exact h

set_option maxHeartbeats 1600000 in
set_option maxRecDepth 100000 in
theorem plus_spec_k2 (ax ay : Option Addr) (cx cy m B0 : Nat) (p n : Int) (xs ys : List Int) (w : World) (hr : ringB 2 p n = true) (hx : xs.length = m) (hy : ys.length = m) (hm0 : 1 ≤ m) (hm : m ≤ 6) (hB0 : B0 ≤ w.heap.size)
    (hex : Within 1048576 xs) (hey : Within 1048576 ys)
    (hax : 0 < m → ∃ b off, ax = some ⟨b, off, none⟩ ∧ b < B0 ∧ ∀ i (h : i < xs.length), w.cell? ⟨b, off + i, none⟩ = some (.int .i64 xs[i]))
    (hay : 0 < m → ∃ b off, ay = some ⟨b, off, none⟩ ∧ b < B0 ∧ ∀ i (h : i < ys.length), w.cell? ⟨b, off + i, none⟩ = some (.int .i64 ys[i])) :
    Calls Try.prog 52 #[ringV 2 p n, .slice ax m cx, .slice ay m cy] w (NewRow w (plusL 2 p xs ys)) := by
  obtain ⟨bx, ox, rfl, hbx, hcx⟩ := hax (by omega)
  obtain ⟨by', oy, rfl, hby, hcy⟩ := hay (by omega)
  have HX := Lib.hid hcx
  have HY := Lib.hid hcy
  have L1 := Lib.hid hx
  have L2 := Lib.hid hy
  have HR := Lib.hid hr
  have E1 := Lib.hid hex
  have E2 := Lib.hid hey
  have hbx2 : bx < w.heap.size := Nat.lt_of_lt_of_le hbx hB0
  have hby2 : by' < w.heap.size := Nat.lt_of_lt_of_le hby hB0
  obtain ⟨B, hB⟩ : ∃ B, B = w.heap.size := ⟨_, rfl⟩
  have HB := Lib.hid hB
  obtain ⟨i0, hi, hz0, hz1, hz2⟩ := info_parts infoInt
  have HV1 := Lib.hid (Inv.box w 2 p n 31)
  clear hax hay hcx hcy hx hy hr hex hey hbx hby hB0 hB
  go_enter Try.func52, Try.ntmps52
  go_wp2_with (at_make; refine wpList_make_full _ rfl _ _ 24 rfl B 3 i0 (.int .i64 0) 1 Try.underlying24 hi hz0 hz1 .i64 .i64 _ _ m rfl rfl rfl rfl (by rw [hz2]; omega) (by unfold maxLen; omega) (by rw [HB.out]; simp) ?_; intro w2 hown hgrow; obtain ⟨HV2, OW, hsz, f0, g1, d0, d1, d2⟩ := made_facts HV1 hown hgrow hm0; clear hown hgrow f0 g1 d0 d1 d2 hi hz0 hz1 hz2)
  have OW2 : Hid (w2.ownsRow B 3 1 (.slice (some ⟨w.heap.size + 1, 0, none⟩) m m) m (ints (zerosL m))) := by
    have h := OW.out
    rw [show (w.alloc (.cells (ringC 2 p n) 31)).heap.size = w.heap.size + 1 from by simp] at h
    exact h
  clear OW HV1
  go_loopw [14] (fun i wr => ∃ j : Nat, j ≤ m ∧ i = .int .i64 j ∧ Hid (Inv w wr w.heap.size 2 p n) ∧ Hid (wr.ownsRow B 3 1 (.slice (some ⟨w.heap.size + 1, 0, none⟩) m m) m (ints (fillL m (fun i => plusI 2 p (xs.getD i 0) (ys.getD i 0)) j)))) (fun i _ => m - (intOf i).toNat)
  case atStart => exact ⟨0, by omega, rfl, HV2, by rw [fillL_zero]; exact OW2⟩
  case round =>
    clear HV2 OW2 hsz
    obtain ⟨j, hj, rfl, HV, HO⟩ := hrel
    by_cases hlt : j < m
    · obtain ⟨a, e1, X1⟩ := ints_cell L1.out HX.out hlt
      obtain ⟨b, e2, Y1⟩ := ints_cell L2.out HY.out hlt
      have wa := E1.out a (List.mem_of_getElem? X1.out)
      have wb := E2.out b (List.mem_of_getElem? Y1.out)
      obtain ⟨c0, c1, c2⟩ := HV.out.cells
      have d1 : wr.cell? ⟨bx, ox + j, none⟩ = some (.int .i64 a) := (HV.out.1.cell (p := ⟨bx, ox + j, none⟩) hbx2).trans e1
      have d2 : wr.cell? ⟨by', oy + j, none⟩ = some (.int .i64 b) := (HV.out.1.cell (p := ⟨by', oy + j, none⟩) hby2).trans e2
      obtain ⟨x0, hx0, c3⟩ := row_slot HO (by rw [fillL_len]; exact hlt)
      have f3 := HO.out.frozenAt j
      clear e1 e2 hx0
      have hp1 : 2 ≤ p := by have := ring_cases HR.out; omega
      have hp2 : p ≤ 1000003 := by have := ring_cases HR.out; omega
      have hw : IntKind.i64.wrap (a + b) = a + b := IntWalk.i64_in _ (by omega)
      have hw2 : IntKind.i64.wrap ((a + b) % p) = (a + b) % p := IntWalk.i64_in _ (by have := Int.emod_nonneg (a + b) (show p ≠ 0 by omega); have := Int.emod_lt_of_pos (a + b) (show 0 < p by omega); omega)
      have hp0 : (p == 0) = false := by simp; omega
      have hpz : ¬ p = 0 := by omega
      have ht : (a + b).tmod p = (a + b) % p := Int.tmod_eq_emod_of_nonneg (by omega)
      go_wp2
      go_still_tail 15, (by kernel_rfl)
      change wpList _ _ _ _ _ wr.drew
      go_wp2
      go_roundw
      case rel => exact ⟨j + 1, by omega, by go_num, Lib.hid (HV.out.drew.set (q := ⟨w.heap.size + 1, j, none⟩) (by simp) (by simp) _), plus_step (w1 := wr.drew) HO rfl X1 Y1 (by simp [plusI])⟩
      case measure => simp [intOf]; omega
    · obtain rfl : j = m := by omega
      go_wp2
      go_ret
      refine ⟨_, rfl, Own.of (n := j) ?_ (by simp [plusL, L1.out]), HV.out.1⟩
      have h := HO.out
      rw [fillL_full, HB.out] at h
      rw [show plusL 2 p xs ys = (List.range j).map fun i => plusI 2 p (xs.getD i 0) (ys.getD i 0) from by rw [plusL, L1.out]]
      exact h

set_option maxHeartbeats 1600000 in
set_option maxRecDepth 100000 in
theorem plus_spec_k3 (ax ay : Option Addr) (cx cy m B0 : Nat) (p n : Int) (xs ys : List Int) (w : World) (hr : ringB 3 p n = true) (hx : xs.length = m) (hy : ys.length = m) (hm0 : 1 ≤ m) (hm : m ≤ 6) (hB0 : B0 ≤ w.heap.size)
    (hex : Within 1048576 xs) (hey : Within 1048576 ys)
    (hax : 0 < m → ∃ b off, ax = some ⟨b, off, none⟩ ∧ b < B0 ∧ ∀ i (h : i < xs.length), w.cell? ⟨b, off + i, none⟩ = some (.int .i64 xs[i]))
    (hay : 0 < m → ∃ b off, ay = some ⟨b, off, none⟩ ∧ b < B0 ∧ ∀ i (h : i < ys.length), w.cell? ⟨b, off + i, none⟩ = some (.int .i64 ys[i])) :
    Calls Try.prog 52 #[ringV 3 p n, .slice ax m cx, .slice ay m cy] w (NewRow w (plusL 3 p xs ys)) := by
  obtain ⟨bx, ox, rfl, hbx, hcx⟩ := hax (by omega)
  obtain ⟨by', oy, rfl, hby, hcy⟩ := hay (by omega)
  have HX := Lib.hid hcx
  have HY := Lib.hid hcy
  have L1 := Lib.hid hx
  have L2 := Lib.hid hy
  have HR := Lib.hid hr
  have E1 := Lib.hid hex
  have E2 := Lib.hid hey
  have hbx2 : bx < w.heap.size := Nat.lt_of_lt_of_le hbx hB0
  have hby2 : by' < w.heap.size := Nat.lt_of_lt_of_le hby hB0
  obtain ⟨B, hB⟩ : ∃ B, B = w.heap.size := ⟨_, rfl⟩
  have HB := Lib.hid hB
  obtain ⟨i0, hi, hz0, hz1, hz2⟩ := info_parts infoInt
  have HV1 := Lib.hid (Inv.box w 3 p n 31)
  clear hax hay hcx hcy hx hy hr hex hey hbx hby hB0 hB
  go_enter Try.func52, Try.ntmps52
  go_wp2_with (at_make; refine wpList_make_full _ rfl _ _ 24 rfl B 3 i0 (.int .i64 0) 1 Try.underlying24 hi hz0 hz1 .i64 .i64 _ _ m rfl rfl rfl rfl (by rw [hz2]; omega) (by unfold maxLen; omega) (by rw [HB.out]; simp) ?_; intro w2 hown hgrow; obtain ⟨HV2, OW, hsz, f0, g1, d0, d1, d2⟩ := made_facts HV1 hown hgrow hm0; clear hown hgrow f0 g1 d0 d1 d2 hi hz0 hz1 hz2)
  have OW2 : Hid (w2.ownsRow B 3 1 (.slice (some ⟨w.heap.size + 1, 0, none⟩) m m) m (ints (zerosL m))) := by
    have h := OW.out
    rw [show (w.alloc (.cells (ringC 3 p n) 31)).heap.size = w.heap.size + 1 from by simp] at h
    exact h
  clear OW HV1
  go_loopw [14] (fun i wr => ∃ j : Nat, j ≤ m ∧ i = .int .i64 j ∧ Hid (Inv w wr w.heap.size 3 p n) ∧ Hid (wr.ownsRow B 3 1 (.slice (some ⟨w.heap.size + 1, 0, none⟩) m m) m (ints (fillL m (fun i => plusI 3 p (xs.getD i 0) (ys.getD i 0)) j)))) (fun i _ => m - (intOf i).toNat)
  case atStart => exact ⟨0, by omega, rfl, HV2, by rw [fillL_zero]; exact OW2⟩
  case round =>
    clear HV2 OW2 hsz
    obtain ⟨j, hj, rfl, HV, HO⟩ := hrel
    by_cases hlt : j < m
    · obtain ⟨a, e1, X1⟩ := ints_cell L1.out HX.out hlt
      obtain ⟨b, e2, Y1⟩ := ints_cell L2.out HY.out hlt
      have wa := E1.out a (List.mem_of_getElem? X1.out)
      have wb := E2.out b (List.mem_of_getElem? Y1.out)
      obtain ⟨c0, c1, c2⟩ := HV.out.cells
      have d1 : wr.cell? ⟨bx, ox + j, none⟩ = some (.int .i64 a) := (HV.out.1.cell (p := ⟨bx, ox + j, none⟩) hbx2).trans e1
      have d2 : wr.cell? ⟨by', oy + j, none⟩ = some (.int .i64 b) := (HV.out.1.cell (p := ⟨by', oy + j, none⟩) hby2).trans e2
      obtain ⟨x0, hx0, c3⟩ := row_slot HO (by rw [fillL_len]; exact hlt)
      have f3 := HO.out.frozenAt j
      clear e1 e2 hx0
      by_cases hc : p < a + b
      · have hc2 : decide (p < a + b) = true := by simpa using hc
        go_wp2
        go_still_tail 15, (by kernel_rfl)
        change wpList _ _ _ _ _ wr.drew
        go_wp2
        go_roundw
        case rel => exact ⟨j + 1, by omega, by go_num, Lib.hid (HV.out.drew.set (q := ⟨w.heap.size + 1, j, none⟩) (by simp) (by simp) _), plus_step (w1 := wr.drew) HO rfl X1 Y1 (by simp [plusI]; omega)⟩
        case measure => simp [intOf]; omega
      · have hc2 : decide (p < a + b) = false := by simpa using hc
        go_wp2
        go_still_tail 15, (by kernel_rfl)
        change wpList _ _ _ _ _ wr.drew
        go_wp2
        go_roundw
        case rel => exact ⟨j + 1, by omega, by go_num, Lib.hid (HV.out.drew.set (q := ⟨w.heap.size + 1, j, none⟩) (by simp) (by simp) _), plus_step (w1 := wr.drew) HO rfl X1 Y1 (by simp [plusI]; omega)⟩
        case measure => simp [intOf]; omega
    · obtain rfl : j = m := by omega
      go_wp2
      go_ret
      refine ⟨_, rfl, Own.of (n := j) ?_ (by simp [plusL, L1.out]), HV.out.1⟩
      have h := HO.out
      rw [fillL_full, HB.out] at h
      rw [show plusL 3 p xs ys = (List.range j).map fun i => plusI 3 p (xs.getD i 0) (ys.getD i 0) from by rw [plusL, L1.out]]
      exact h

set_option maxHeartbeats 1600000 in
set_option maxRecDepth 100000 in
theorem plus_spec_k4 (ax ay : Option Addr) (cx cy m B0 : Nat) (p n : Int) (xs ys : List Int) (w : World) (hr : ringB 4 p n = true) (hx : xs.length = m) (hy : ys.length = m) (hm0 : 1 ≤ m) (hm : m ≤ 6) (hB0 : B0 ≤ w.heap.size)
    (hex : Within 1048576 xs) (hey : Within 1048576 ys)
    (hax : 0 < m → ∃ b off, ax = some ⟨b, off, none⟩ ∧ b < B0 ∧ ∀ i (h : i < xs.length), w.cell? ⟨b, off + i, none⟩ = some (.int .i64 xs[i]))
    (hay : 0 < m → ∃ b off, ay = some ⟨b, off, none⟩ ∧ b < B0 ∧ ∀ i (h : i < ys.length), w.cell? ⟨b, off + i, none⟩ = some (.int .i64 ys[i])) :
    Calls Try.prog 52 #[ringV 4 p n, .slice ax m cx, .slice ay m cy] w (NewRow w (plusL 4 p xs ys)) := by
  obtain ⟨bx, ox, rfl, hbx, hcx⟩ := hax (by omega)
  obtain ⟨by', oy, rfl, hby, hcy⟩ := hay (by omega)
  have HX := Lib.hid hcx
  have HY := Lib.hid hcy
  have L1 := Lib.hid hx
  have L2 := Lib.hid hy
  have HR := Lib.hid hr
  have E1 := Lib.hid hex
  have E2 := Lib.hid hey
  have hbx2 : bx < w.heap.size := Nat.lt_of_lt_of_le hbx hB0
  have hby2 : by' < w.heap.size := Nat.lt_of_lt_of_le hby hB0
  obtain ⟨B, hB⟩ : ∃ B, B = w.heap.size := ⟨_, rfl⟩
  have HB := Lib.hid hB
  obtain ⟨i0, hi, hz0, hz1, hz2⟩ := info_parts infoInt
  have HV1 := Lib.hid (Inv.box w 4 p n 31)
  clear hax hay hcx hcy hx hy hr hex hey hbx hby hB0 hB
  go_enter Try.func52, Try.ntmps52
  go_wp2_with (at_make; refine wpList_make_full _ rfl _ _ 24 rfl B 3 i0 (.int .i64 0) 1 Try.underlying24 hi hz0 hz1 .i64 .i64 _ _ m rfl rfl rfl rfl (by rw [hz2]; omega) (by unfold maxLen; omega) (by rw [HB.out]; simp) ?_; intro w2 hown hgrow; obtain ⟨HV2, OW, hsz, f0, g1, d0, d1, d2⟩ := made_facts HV1 hown hgrow hm0; clear hown hgrow f0 g1 d0 d1 d2 hi hz0 hz1 hz2)
  have OW2 : Hid (w2.ownsRow B 3 1 (.slice (some ⟨w.heap.size + 1, 0, none⟩) m m) m (ints (zerosL m))) := by
    have h := OW.out
    rw [show (w.alloc (.cells (ringC 4 p n) 31)).heap.size = w.heap.size + 1 from by simp] at h
    exact h
  clear OW HV1
  go_loopw [14] (fun i wr => ∃ j : Nat, j ≤ m ∧ i = .int .i64 j ∧ Hid (Inv w wr w.heap.size 4 p n) ∧ Hid (wr.ownsRow B 3 1 (.slice (some ⟨w.heap.size + 1, 0, none⟩) m m) m (ints (fillL m (fun i => plusI 4 p (xs.getD i 0) (ys.getD i 0)) j)))) (fun i _ => m - (intOf i).toNat)
  case atStart => exact ⟨0, by omega, rfl, HV2, by rw [fillL_zero]; exact OW2⟩
  case round =>
    clear HV2 OW2 hsz
    obtain ⟨j, hj, rfl, HV, HO⟩ := hrel
    by_cases hlt : j < m
    · obtain ⟨a, e1, X1⟩ := ints_cell L1.out HX.out hlt
      obtain ⟨b, e2, Y1⟩ := ints_cell L2.out HY.out hlt
      have wa := E1.out a (List.mem_of_getElem? X1.out)
      have wb := E2.out b (List.mem_of_getElem? Y1.out)
      obtain ⟨c0, c1, c2⟩ := HV.out.cells
      have d1 : wr.cell? ⟨bx, ox + j, none⟩ = some (.int .i64 a) := (HV.out.1.cell (p := ⟨bx, ox + j, none⟩) hbx2).trans e1
      have d2 : wr.cell? ⟨by', oy + j, none⟩ = some (.int .i64 b) := (HV.out.1.cell (p := ⟨by', oy + j, none⟩) hby2).trans e2
      obtain ⟨x0, hx0, c3⟩ := row_slot HO (by rw [fillL_len]; exact hlt)
      have f3 := HO.out.frozenAt j
      clear e1 e2 hx0
      by_cases hc : b < a
      · have hc2 : decide (b < a) = true := by simpa using hc
        go_wp2
        go_still_tail 12, (by kernel_rfl)
        change wpList _ _ _ _ _ wr.drew
        go_wp2
        go_roundw
        case rel => exact ⟨j + 1, by omega, by go_num, Lib.hid (HV.out.drew.set (q := ⟨w.heap.size + 1, j, none⟩) (by simp) (by simp) _), plus_step (w1 := wr.drew) HO rfl X1 Y1 (by simp [plusI]; omega)⟩
        case measure => simp [intOf]; omega
      · have hc2 : decide (b < a) = false := by simpa using hc
        go_wp2
        go_still_tail 12, (by kernel_rfl)
        change wpList _ _ _ _ _ wr.drew
        go_wp2
        go_roundw
        case rel => exact ⟨j + 1, by omega, by go_num, Lib.hid (HV.out.drew.set (q := ⟨w.heap.size + 1, j, none⟩) (by simp) (by simp) _), plus_step (w1 := wr.drew) HO rfl X1 Y1 (by simp [plusI]; omega)⟩
        case measure => simp [intOf]; omega
    · obtain rfl : j = m := by omega
      go_wp2
      go_ret
      refine ⟨_, rfl, Own.of (n := j) ?_ (by simp [plusL, L1.out]), HV.out.1⟩
      have h := HO.out
      rw [fillL_full, HB.out] at h
      rw [show plusL 4 p xs ys = (List.range j).map fun i => plusI 4 p (xs.getD i 0) (ys.getD i 0) from by rw [plusL, L1.out]]
      exact h

set_option maxHeartbeats 1600000 in
set_option maxRecDepth 100000 in
theorem plus_spec_k5 (ax ay : Option Addr) (cx cy m B0 : Nat) (p n : Int) (xs ys : List Int) (w : World) (hr : ringB 5 p n = true) (hx : xs.length = m) (hy : ys.length = m) (hm0 : 1 ≤ m) (hm : m ≤ 6) (hB0 : B0 ≤ w.heap.size)
    (hex : Within 1048576 xs) (hey : Within 1048576 ys)
    (hax : 0 < m → ∃ b off, ax = some ⟨b, off, none⟩ ∧ b < B0 ∧ ∀ i (h : i < xs.length), w.cell? ⟨b, off + i, none⟩ = some (.int .i64 xs[i]))
    (hay : 0 < m → ∃ b off, ay = some ⟨b, off, none⟩ ∧ b < B0 ∧ ∀ i (h : i < ys.length), w.cell? ⟨b, off + i, none⟩ = some (.int .i64 ys[i])) :
    Calls Try.prog 52 #[ringV 5 p n, .slice ax m cx, .slice ay m cy] w (NewRow w (plusL 5 p xs ys)) := by
  obtain ⟨bx, ox, rfl, hbx, hcx⟩ := hax (by omega)
  obtain ⟨by', oy, rfl, hby, hcy⟩ := hay (by omega)
  have HX := Lib.hid hcx
  have HY := Lib.hid hcy
  have L1 := Lib.hid hx
  have L2 := Lib.hid hy
  have HR := Lib.hid hr
  have E1 := Lib.hid hex
  have E2 := Lib.hid hey
  have hbx2 : bx < w.heap.size := Nat.lt_of_lt_of_le hbx hB0
  have hby2 : by' < w.heap.size := Nat.lt_of_lt_of_le hby hB0
  obtain ⟨B, hB⟩ : ∃ B, B = w.heap.size := ⟨_, rfl⟩
  have HB := Lib.hid hB
  obtain ⟨i0, hi, hz0, hz1, hz2⟩ := info_parts infoInt
  have HV1 := Lib.hid (Inv.box w 5 p n 31)
  clear hax hay hcx hcy hx hy hr hex hey hbx hby hB0 hB
  go_enter Try.func52, Try.ntmps52
  go_wp2_with (at_make; refine wpList_make_full _ rfl _ _ 24 rfl B 3 i0 (.int .i64 0) 1 Try.underlying24 hi hz0 hz1 .i64 .i64 _ _ m rfl rfl rfl rfl (by rw [hz2]; omega) (by unfold maxLen; omega) (by rw [HB.out]; simp) ?_; intro w2 hown hgrow; obtain ⟨HV2, OW, hsz, f0, g1, d0, d1, d2⟩ := made_facts HV1 hown hgrow hm0; clear hown hgrow f0 g1 d0 d1 d2 hi hz0 hz1 hz2)
  have OW2 : Hid (w2.ownsRow B 3 1 (.slice (some ⟨w.heap.size + 1, 0, none⟩) m m) m (ints (zerosL m))) := by
    have h := OW.out
    rw [show (w.alloc (.cells (ringC 5 p n) 31)).heap.size = w.heap.size + 1 from by simp] at h
    exact h
  clear OW HV1
  go_loopw [14] (fun i wr => ∃ j : Nat, j ≤ m ∧ i = .int .i64 j ∧ Hid (Inv w wr w.heap.size 5 p n) ∧ Hid (wr.ownsRow B 3 1 (.slice (some ⟨w.heap.size + 1, 0, none⟩) m m) m (ints (fillL m (fun i => plusI 5 p (xs.getD i 0) (ys.getD i 0)) j)))) (fun i _ => m - (intOf i).toNat)
  case atStart => exact ⟨0, by omega, rfl, HV2, by rw [fillL_zero]; exact OW2⟩
  case round =>
    clear HV2 OW2 hsz
    obtain ⟨j, hj, rfl, HV, HO⟩ := hrel
    by_cases hlt : j < m
    · obtain ⟨a, e1, X1⟩ := ints_cell L1.out HX.out hlt
      obtain ⟨b, e2, Y1⟩ := ints_cell L2.out HY.out hlt
      have wa := E1.out a (List.mem_of_getElem? X1.out)
      have wb := E2.out b (List.mem_of_getElem? Y1.out)
      obtain ⟨c0, c1, c2⟩ := HV.out.cells
      have d1 : wr.cell? ⟨bx, ox + j, none⟩ = some (.int .i64 a) := (HV.out.1.cell (p := ⟨bx, ox + j, none⟩) hbx2).trans e1
      have d2 : wr.cell? ⟨by', oy + j, none⟩ = some (.int .i64 b) := (HV.out.1.cell (p := ⟨by', oy + j, none⟩) hby2).trans e2
      obtain ⟨x0, hx0, c3⟩ := row_slot HO (by rw [fillL_len]; exact hlt)
      have f3 := HO.out.frozenAt j
      clear e1 e2 hx0
      by_cases hc : a < b
      · have hc2 : decide (a < b) = true := by simpa using hc
        go_wp2
        go_still_tail 12, (by kernel_rfl)
        change wpList _ _ _ _ _ wr.drew
        go_wp2
        go_roundw
        case rel => exact ⟨j + 1, by omega, by go_num, Lib.hid (HV.out.drew.set (q := ⟨w.heap.size + 1, j, none⟩) (by simp) (by simp) _), plus_step (w1 := wr.drew) HO rfl X1 Y1 (by simp [plusI]; omega)⟩
        case measure => simp [intOf]; omega
      · have hc2 : decide (a < b) = false := by simpa using hc
        go_wp2
        go_still_tail 12, (by kernel_rfl)
        change wpList _ _ _ _ _ wr.drew
        go_wp2
        go_roundw
        case rel => exact ⟨j + 1, by omega, by go_num, Lib.hid (HV.out.drew.set (q := ⟨w.heap.size + 1, j, none⟩) (by simp) (by simp) _), plus_step (w1 := wr.drew) HO rfl X1 Y1 (by simp [plusI]; omega)⟩
        case measure => simp [intOf]; omega
    · obtain rfl : j = m := by omega
      go_wp2
      go_ret
      refine ⟨_, rfl, Own.of (n := j) ?_ (by simp [plusL, L1.out]), HV.out.1⟩
      have h := HO.out
      rw [fillL_full, HB.out] at h
      rw [show plusL 5 p xs ys = (List.range j).map fun i => plusI 5 p (xs.getD i 0) (ys.getD i 0) from by rw [plusL, L1.out]]
      exact h

set_option maxHeartbeats 1600000 in
set_option maxRecDepth 100000 in
theorem plus_spec_k6 (ax ay : Option Addr) (cx cy m B0 : Nat) (p n : Int) (xs ys : List Int) (w : World) (hr : ringB 6 p n = true) (hx : xs.length = m) (hy : ys.length = m) (hm0 : 1 ≤ m) (hm : m ≤ 6) (hB0 : B0 ≤ w.heap.size)
    (hex : Within 1048576 xs) (hey : Within 1048576 ys)
    (hax : 0 < m → ∃ b off, ax = some ⟨b, off, none⟩ ∧ b < B0 ∧ ∀ i (h : i < xs.length), w.cell? ⟨b, off + i, none⟩ = some (.int .i64 xs[i]))
    (hay : 0 < m → ∃ b off, ay = some ⟨b, off, none⟩ ∧ b < B0 ∧ ∀ i (h : i < ys.length), w.cell? ⟨b, off + i, none⟩ = some (.int .i64 ys[i])) :
    Calls Try.prog 52 #[ringV 6 p n, .slice ax m cx, .slice ay m cy] w (NewRow w (plusL 6 p xs ys)) := by
  obtain ⟨bx, ox, rfl, hbx, hcx⟩ := hax (by omega)
  obtain ⟨by', oy, rfl, hby, hcy⟩ := hay (by omega)
  have HX := Lib.hid hcx
  have HY := Lib.hid hcy
  have L1 := Lib.hid hx
  have L2 := Lib.hid hy
  have HR := Lib.hid hr
  have E1 := Lib.hid hex
  have E2 := Lib.hid hey
  have hbx2 : bx < w.heap.size := Nat.lt_of_lt_of_le hbx hB0
  have hby2 : by' < w.heap.size := Nat.lt_of_lt_of_le hby hB0
  obtain ⟨B, hB⟩ : ∃ B, B = w.heap.size := ⟨_, rfl⟩
  have HB := Lib.hid hB
  obtain ⟨i0, hi, hz0, hz1, hz2⟩ := info_parts infoInt
  have HV1 := Lib.hid (Inv.box w 6 p n 31)
  clear hax hay hcx hcy hx hy hr hex hey hbx hby hB0 hB
  go_enter Try.func52, Try.ntmps52
  go_wp2_with (at_make; refine wpList_make_full _ rfl _ _ 24 rfl B 3 i0 (.int .i64 0) 1 Try.underlying24 hi hz0 hz1 .i64 .i64 _ _ m rfl rfl rfl rfl (by rw [hz2]; omega) (by unfold maxLen; omega) (by rw [HB.out]; simp) ?_; intro w2 hown hgrow; obtain ⟨HV2, OW, hsz, f0, g1, d0, d1, d2⟩ := made_facts HV1 hown hgrow hm0; clear hown hgrow f0 g1 d0 d1 d2 hi hz0 hz1 hz2)
  have OW2 : Hid (w2.ownsRow B 3 1 (.slice (some ⟨w.heap.size + 1, 0, none⟩) m m) m (ints (zerosL m))) := by
    have h := OW.out
    rw [show (w.alloc (.cells (ringC 6 p n) 31)).heap.size = w.heap.size + 1 from by simp] at h
    exact h
  clear OW HV1
  go_loopw [14] (fun i wr => ∃ j : Nat, j ≤ m ∧ i = .int .i64 j ∧ Hid (Inv w wr w.heap.size 6 p n) ∧ Hid (wr.ownsRow B 3 1 (.slice (some ⟨w.heap.size + 1, 0, none⟩) m m) m (ints (fillL m (fun i => plusI 6 p (xs.getD i 0) (ys.getD i 0)) j)))) (fun i _ => m - (intOf i).toNat)
  case atStart => exact ⟨0, by omega, rfl, HV2, by rw [fillL_zero]; exact OW2⟩
  case round =>
    clear HV2 OW2 hsz
    obtain ⟨j, hj, rfl, HV, HO⟩ := hrel
    by_cases hlt : j < m
    · obtain ⟨a, e1, X1⟩ := ints_cell L1.out HX.out hlt
      obtain ⟨b, e2, Y1⟩ := ints_cell L2.out HY.out hlt
      have wa := E1.out a (List.mem_of_getElem? X1.out)
      have wb := E2.out b (List.mem_of_getElem? Y1.out)
      obtain ⟨c0, c1, c2⟩ := HV.out.cells
      have d1 : wr.cell? ⟨bx, ox + j, none⟩ = some (.int .i64 a) := (HV.out.1.cell (p := ⟨bx, ox + j, none⟩) hbx2).trans e1
      have d2 : wr.cell? ⟨by', oy + j, none⟩ = some (.int .i64 b) := (HV.out.1.cell (p := ⟨by', oy + j, none⟩) hby2).trans e2
      obtain ⟨x0, hx0, c3⟩ := row_slot HO (by rw [fillL_len]; exact hlt)
      have f3 := HO.out.frozenAt j
      clear e1 e2 hx0
      go_wp2
      go_still_tail 12, (by kernel_rfl)
      change wpList _ _ _ _ _ wr.drew
      go_wp2
      go_roundw
      case rel => exact ⟨j + 1, by omega, by go_num, Lib.hid (HV.out.drew.set (q := ⟨w.heap.size + 1, j, none⟩) (by simp) (by simp) _), plus_step (w1 := wr.drew) HO rfl X1 Y1 (by simp [plusI])⟩
      case measure => simp [intOf]; omega
    · obtain rfl : j = m := by omega
      go_wp2
      go_ret
      refine ⟨_, rfl, Own.of (n := j) ?_ (by simp [plusL, L1.out]), HV.out.1⟩
      have h := HO.out
      rw [fillL_full, HB.out] at h
      rw [show plusL 6 p xs ys = (List.range j).map fun i => plusI 6 p (xs.getD i 0) (ys.getD i 0) from by rw [plusL, L1.out]]
      exact h

set_option maxHeartbeats 1600000 in
set_option maxRecDepth 100000 in
theorem plus_spec_k7 (ax ay : Option Addr) (cx cy m B0 : Nat) (p n : Int) (xs ys : List Int) (w : World) (hr : ringB 7 p n = true) (hx : xs.length = m) (hy : ys.length = m) (hm0 : 1 ≤ m) (hm : m ≤ 6) (hB0 : B0 ≤ w.heap.size)
    (hex : Within 1048576 xs) (hey : Within 1048576 ys)
    (hax : 0 < m → ∃ b off, ax = some ⟨b, off, none⟩ ∧ b < B0 ∧ ∀ i (h : i < xs.length), w.cell? ⟨b, off + i, none⟩ = some (.int .i64 xs[i]))
    (hay : 0 < m → ∃ b off, ay = some ⟨b, off, none⟩ ∧ b < B0 ∧ ∀ i (h : i < ys.length), w.cell? ⟨b, off + i, none⟩ = some (.int .i64 ys[i])) :
    Calls Try.prog 52 #[ringV 7 p n, .slice ax m cx, .slice ay m cy] w (NewRow w (plusL 7 p xs ys)) := by
  obtain ⟨bx, ox, rfl, hbx, hcx⟩ := hax (by omega)
  obtain ⟨by', oy, rfl, hby, hcy⟩ := hay (by omega)
  have HX := Lib.hid hcx
  have HY := Lib.hid hcy
  have L1 := Lib.hid hx
  have L2 := Lib.hid hy
  have HR := Lib.hid hr
  have E1 := Lib.hid hex
  have E2 := Lib.hid hey
  have hbx2 : bx < w.heap.size := Nat.lt_of_lt_of_le hbx hB0
  have hby2 : by' < w.heap.size := Nat.lt_of_lt_of_le hby hB0
  obtain ⟨B, hB⟩ : ∃ B, B = w.heap.size := ⟨_, rfl⟩
  have HB := Lib.hid hB
  obtain ⟨i0, hi, hz0, hz1, hz2⟩ := info_parts infoInt
  have HV1 := Lib.hid (Inv.box w 7 p n 31)
  clear hax hay hcx hcy hx hy hr hex hey hbx hby hB0 hB
  go_enter Try.func52, Try.ntmps52
  go_wp2_with (at_make; refine wpList_make_full _ rfl _ _ 24 rfl B 3 i0 (.int .i64 0) 1 Try.underlying24 hi hz0 hz1 .i64 .i64 _ _ m rfl rfl rfl rfl (by rw [hz2]; omega) (by unfold maxLen; omega) (by rw [HB.out]; simp) ?_; intro w2 hown hgrow; obtain ⟨HV2, OW, hsz, f0, g1, d0, d1, d2⟩ := made_facts HV1 hown hgrow hm0; clear hown hgrow f0 g1 d0 d1 d2 hi hz0 hz1 hz2)
  have OW2 : Hid (w2.ownsRow B 3 1 (.slice (some ⟨w.heap.size + 1, 0, none⟩) m m) m (ints (zerosL m))) := by
    have h := OW.out
    rw [show (w.alloc (.cells (ringC 7 p n) 31)).heap.size = w.heap.size + 1 from by simp] at h
    exact h
  clear OW HV1
  go_loopw [14] (fun i wr => ∃ j : Nat, j ≤ m ∧ i = .int .i64 j ∧ Hid (Inv w wr w.heap.size 7 p n) ∧ Hid (wr.ownsRow B 3 1 (.slice (some ⟨w.heap.size + 1, 0, none⟩) m m) m (ints (fillL m (fun i => plusI 7 p (xs.getD i 0) (ys.getD i 0)) j)))) (fun i _ => m - (intOf i).toNat)
  case atStart => exact ⟨0, by omega, rfl, HV2, by rw [fillL_zero]; exact OW2⟩
  case round =>
    clear HV2 OW2 hsz
    obtain ⟨j, hj, rfl, HV, HO⟩ := hrel
    by_cases hlt : j < m
    · obtain ⟨a, e1, X1⟩ := ints_cell L1.out HX.out hlt
      obtain ⟨b, e2, Y1⟩ := ints_cell L2.out HY.out hlt
      have wa := E1.out a (List.mem_of_getElem? X1.out)
      have wb := E2.out b (List.mem_of_getElem? Y1.out)
      obtain ⟨c0, c1, c2⟩ := HV.out.cells
      have d1 : wr.cell? ⟨bx, ox + j, none⟩ = some (.int .i64 a) := (HV.out.1.cell (p := ⟨bx, ox + j, none⟩) hbx2).trans e1
      have d2 : wr.cell? ⟨by', oy + j, none⟩ = some (.int .i64 b) := (HV.out.1.cell (p := ⟨by', oy + j, none⟩) hby2).trans e2
      obtain ⟨x0, hx0, c3⟩ := row_slot HO (by rw [fillL_len]; exact hlt)
      have f3 := HO.out.frozenAt j
      clear e1 e2 hx0
      have hp1 : 2 ≤ p := by have := ring_cases HR.out; omega
      have hp2 : p ≤ 1000003 := by have := ring_cases HR.out; omega
      have hw : IntKind.i64.wrap (a + b) = a + b := IntWalk.i64_in _ (by omega)
      have hw2 : IntKind.i64.wrap ((a + b) % p) = (a + b) % p := IntWalk.i64_in _ (by have := Int.emod_nonneg (a + b) (show p ≠ 0 by omega); have := Int.emod_lt_of_pos (a + b) (show 0 < p by omega); omega)
      have hp0 : (p == 0) = false := by simp; omega
      have hpz : ¬ p = 0 := by omega
      have ht : (a + b).tmod p = (a + b) % p := Int.tmod_eq_emod_of_nonneg (by omega)
      go_wp2
      go_still_tail 15, (by kernel_rfl)
      change wpList _ _ _ _ _ wr.drew
      go_wp2
      go_roundw
      case rel => exact ⟨j + 1, by omega, by go_num, Lib.hid (HV.out.drew.set (q := ⟨w.heap.size + 1, j, none⟩) (by simp) (by simp) _), plus_step (w1 := wr.drew) HO rfl X1 Y1 (by simp [plusI])⟩
      case measure => simp [intOf]; omega
    · obtain rfl : j = m := by omega
      go_wp2
      go_ret
      refine ⟨_, rfl, Own.of (n := j) ?_ (by simp [plusL, L1.out]), HV.out.1⟩
      have h := HO.out
      rw [fillL_full, HB.out] at h
      rw [show plusL 7 p xs ys = (List.range j).map fun i => plusI 7 p (xs.getD i 0) (ys.getD i 0) from by rw [plusL, L1.out]]
      exact h

set_option maxHeartbeats 1600000 in
set_option maxRecDepth 100000 in
theorem plus_spec_k8 (ax ay : Option Addr) (cx cy m B0 : Nat) (p n : Int) (xs ys : List Int) (w : World) (hr : ringB 8 p n = true) (hx : xs.length = m) (hy : ys.length = m) (hm0 : 1 ≤ m) (hm : m ≤ 6) (hB0 : B0 ≤ w.heap.size)
    (hex : Within 1048576 xs) (hey : Within 1048576 ys)
    (hax : 0 < m → ∃ b off, ax = some ⟨b, off, none⟩ ∧ b < B0 ∧ ∀ i (h : i < xs.length), w.cell? ⟨b, off + i, none⟩ = some (.int .i64 xs[i]))
    (hay : 0 < m → ∃ b off, ay = some ⟨b, off, none⟩ ∧ b < B0 ∧ ∀ i (h : i < ys.length), w.cell? ⟨b, off + i, none⟩ = some (.int .i64 ys[i])) :
    Calls Try.prog 52 #[ringV 8 p n, .slice ax m cx, .slice ay m cy] w (NewRow w (plusL 8 p xs ys)) := by
  obtain ⟨bx, ox, rfl, hbx, hcx⟩ := hax (by omega)
  obtain ⟨by', oy, rfl, hby, hcy⟩ := hay (by omega)
  have HX := Lib.hid hcx
  have HY := Lib.hid hcy
  have L1 := Lib.hid hx
  have L2 := Lib.hid hy
  have HR := Lib.hid hr
  have E1 := Lib.hid hex
  have E2 := Lib.hid hey
  have hbx2 : bx < w.heap.size := Nat.lt_of_lt_of_le hbx hB0
  have hby2 : by' < w.heap.size := Nat.lt_of_lt_of_le hby hB0
  obtain ⟨B, hB⟩ : ∃ B, B = w.heap.size := ⟨_, rfl⟩
  have HB := Lib.hid hB
  obtain ⟨i0, hi, hz0, hz1, hz2⟩ := info_parts infoInt
  have HV1 := Lib.hid (Inv.box w 8 p n 31)
  clear hax hay hcx hcy hx hy hr hex hey hbx hby hB0 hB
  go_enter Try.func52, Try.ntmps52
  go_wp2_with (at_make; refine wpList_make_full _ rfl _ _ 24 rfl B 3 i0 (.int .i64 0) 1 Try.underlying24 hi hz0 hz1 .i64 .i64 _ _ m rfl rfl rfl rfl (by rw [hz2]; omega) (by unfold maxLen; omega) (by rw [HB.out]; simp) ?_; intro w2 hown hgrow; obtain ⟨HV2, OW, hsz, f0, g1, d0, d1, d2⟩ := made_facts HV1 hown hgrow hm0; clear hown hgrow f0 g1 d0 d1 d2 hi hz0 hz1 hz2)
  have OW2 : Hid (w2.ownsRow B 3 1 (.slice (some ⟨w.heap.size + 1, 0, none⟩) m m) m (ints (zerosL m))) := by
    have h := OW.out
    rw [show (w.alloc (.cells (ringC 8 p n) 31)).heap.size = w.heap.size + 1 from by simp] at h
    exact h
  clear OW HV1
  go_loopw [14] (fun i wr => ∃ j : Nat, j ≤ m ∧ i = .int .i64 j ∧ Hid (Inv w wr w.heap.size 8 p n) ∧ Hid (wr.ownsRow B 3 1 (.slice (some ⟨w.heap.size + 1, 0, none⟩) m m) m (ints (fillL m (fun i => plusI 8 p (xs.getD i 0) (ys.getD i 0)) j)))) (fun i _ => m - (intOf i).toNat)
  case atStart => exact ⟨0, by omega, rfl, HV2, by rw [fillL_zero]; exact OW2⟩
  case round =>
    clear HV2 OW2 hsz
    obtain ⟨j, hj, rfl, HV, HO⟩ := hrel
    by_cases hlt : j < m
    · obtain ⟨a, e1, X1⟩ := ints_cell L1.out HX.out hlt
      obtain ⟨b, e2, Y1⟩ := ints_cell L2.out HY.out hlt
      have wa := E1.out a (List.mem_of_getElem? X1.out)
      have wb := E2.out b (List.mem_of_getElem? Y1.out)
      obtain ⟨c0, c1, c2⟩ := HV.out.cells
      have d1 : wr.cell? ⟨bx, ox + j, none⟩ = some (.int .i64 a) := (HV.out.1.cell (p := ⟨bx, ox + j, none⟩) hbx2).trans e1
      have d2 : wr.cell? ⟨by', oy + j, none⟩ = some (.int .i64 b) := (HV.out.1.cell (p := ⟨by', oy + j, none⟩) hby2).trans e2
      obtain ⟨x0, hx0, c3⟩ := row_slot HO (by rw [fillL_len]; exact hlt)
      have f3 := HO.out.frozenAt j
      clear e1 e2 hx0
      have hp1 : 2 ≤ p := by have := ring_cases HR.out; omega
      have hp2 : p ≤ 1000003 := by have := ring_cases HR.out; omega
      have hw : IntKind.i64.wrap (a + b) = a + b := IntWalk.i64_in _ (by omega)
      have hw2 : IntKind.i64.wrap ((a + b) % p) = (a + b) % p := IntWalk.i64_in _ (by have := Int.emod_nonneg (a + b) (show p ≠ 0 by omega); have := Int.emod_lt_of_pos (a + b) (show 0 < p by omega); omega)
      have hp0 : (p == 0) = false := by simp; omega
      have hpz : ¬ p = 0 := by omega
      have ht : (a + b).tmod p = (a + b) % p := Int.tmod_eq_emod_of_nonneg (by omega)
      go_wp2
      go_still_tail 15, (by kernel_rfl)
      change wpList _ _ _ _ _ wr.drew
      go_wp2
      go_roundw
      case rel => exact ⟨j + 1, by omega, by go_num, Lib.hid (HV.out.drew.set (q := ⟨w.heap.size + 1, j, none⟩) (by simp) (by simp) _), plus_step (w1 := wr.drew) HO rfl X1 Y1 (by simp [plusI])⟩
      case measure => simp [intOf]; omega
    · obtain rfl : j = m := by omega
      go_wp2
      go_ret
      refine ⟨_, rfl, Own.of (n := j) ?_ (by simp [plusL, L1.out]), HV.out.1⟩
      have h := HO.out
      rw [fillL_full, HB.out] at h
      rw [show plusL 8 p xs ys = (List.range j).map fun i => plusI 8 p (xs.getD i 0) (ys.getD i 0) from by rw [plusL, L1.out]]
      exact h

theorem plus_spec_full (ax ay : Option Addr) (cx cy m B0 : Nat) (k p n : Int) (xs ys : List Int) (w : World) (hr : ringB k p n = true) (hx : xs.length = m) (hy : ys.length = m) (hm0 : 1 ≤ m) (hm : m ≤ 6) (hB0 : B0 ≤ w.heap.size)
    (hex : Within 1048576 xs) (hey : Within 1048576 ys)
    (hax : 0 < m → ∃ b off, ax = some ⟨b, off, none⟩ ∧ b < B0 ∧ ∀ i (h : i < xs.length), w.cell? ⟨b, off + i, none⟩ = some (.int .i64 xs[i]))
    (hay : 0 < m → ∃ b off, ay = some ⟨b, off, none⟩ ∧ b < B0 ∧ ∀ i (h : i < ys.length), w.cell? ⟨b, off + i, none⟩ = some (.int .i64 ys[i])) :
    Calls Try.prog 52 #[ringV k p n, .slice ax m cx, .slice ay m cy] w (NewRow w (plusL k p xs ys)) := by
  rcases ring_cases hr with ⟨rfl, g⟩ | ⟨rfl, g⟩ | ⟨rfl, g⟩ | ⟨rfl, g⟩ | ⟨rfl, g⟩ | ⟨rfl, g⟩ | ⟨rfl, g⟩ | ⟨rfl, g⟩
  · exact plus_spec_k1 ax ay cx cy m B0 p n xs ys w hr hx hy hm0 hm hB0 hex hey hax hay
  · exact plus_spec_k2 ax ay cx cy m B0 p n xs ys w hr hx hy hm0 hm hB0 hex hey hax hay
  · exact plus_spec_k3 ax ay cx cy m B0 p n xs ys w hr hx hy hm0 hm hB0 hex hey hax hay
  · exact plus_spec_k4 ax ay cx cy m B0 p n xs ys w hr hx hy hm0 hm hB0 hex hey hax hay
  · exact plus_spec_k5 ax ay cx cy m B0 p n xs ys w hr hx hy hm0 hm hB0 hex hey hax hay
  · exact plus_spec_k6 ax ay cx cy m B0 p n xs ys w hr hx hy hm0 hm hB0 hex hey hax hay
  · exact plus_spec_k7 ax ay cx cy m B0 p n xs ys w hr hx hy hm0 hm hB0 hex hey hax hay
  · exact plus_spec_k8 ax ay cx cy m B0 p n xs ys w hr hx hy hm0 hm hB0 hex hey hax hay

/-- spec.l02Add on elements. -/
theorem plus_spec {B : Nat} {vx vy : Value} {k p n : Int} {xs ys : List Int} {w : World} (hr : ringB k p n = true) (hx : Rd B w vx (ints xs)) (hy : Rd B w vy (ints ys)) (hB : B ≤ w.heap.size) (ex : ElemV k p n xs) (ey : ElemV k p n ys) :
    Calls Try.prog 52 #[ringV k p n, vx, vy] w (NewRow w (plusL k p xs ys)) := by
  obtain ⟨ax, cx, rfl, hax⟩ := ints_form hx
  obtain ⟨ay, cy, rfl, hay⟩ := ints_form hy
  have h1 := ring_width hr
  have h2 := ring_top hr
  have l1 := ex.1
  have l2 := ey.1
  have hl : ys.length = xs.length := by omega
  rw [hl]
  exact plus_spec_full ax ay cx cy xs.length B k p n xs ys w hr rfl hl (by omega) (by omega) hB (fun x hx => by have := ex.2 x hx; omega) (fun x hx => by have := ey.2 x hx; omega) hax (fun _ => hay (by omega))
end Go.Proofs.Ytjoddheakjndfaa
