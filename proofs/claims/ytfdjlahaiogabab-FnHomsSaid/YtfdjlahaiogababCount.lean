
/- CountElem, PowElem of impl. -/
import Derived.Test.YtfdjlahaiogababRepeated
import Derived.Test.YtfdjlahaiogababTimesOne
import Derived.Deep.RegionHeld3
namespace Go.Proofs.Ytfdjlahaiogabab
set_option maxRecDepth 20000
open Go.RowKit

theorem combines_plus {k p n : Int} (hr : ringB k p n = true) : Combines 124 (ringV k p n) (ElemV k p n) (plusL k p) :=
  fun _ _ _ _ _ hx hy ex ey => plus_impl hr hx hy (Nat.le_refl _) ex ey
theorem combines_times {k p n : Int} (hr : ringB k p n = true) : Combines 77 (ringV k p n) (ElemV k p n) (timesL k p) :=
  fun _ _ _ _ _ hx hy ex ey => times_impl hr hx hy (Nat.le_refl _) ex ey
/-- A call that makes a row, with all that was kept. -/
theorem Inv.make {P : Program} {f : Nat} {args : Array Value} {w0 w : World} {b : Nat} {k p n : Int} {xs : List Int} (h : Hid (Inv w0 w b k p n)) (hc : Calls P f args w (NewRow w xs)) :
    Calls P f args w fun e w' => ∃ v, e = .returned v ∧ Hid (Own w' w0.heap.size w'.heap.size v xs) ∧ Hid (Inv w0 w' b k p n) ∧ (w'.cell? ⟨b, 0, none⟩ = some (.int .i64 k) ∧ w'.cell? ⟨b, 1, none⟩ = some (.int .i64 p) ∧ w'.cell? ⟨b, 2, none⟩ = some (.int .i64 n)) ∧ Hid (∀ u zs, Own w w0.heap.size w.heap.size u zs → Own w' w0.heap.size w'.heap.size u zs) :=
  hc.mono fun _ _ ⟨v, he, ho, hb⟩ => ⟨v, he, ho.wide h.out.1.size (Nat.le_refl _) (Nat.le_refl _), h.out.step hb, (h.out.step hb).cells, fun _ _ hu => (hu.below hb (Nat.le_refl _)).wide (Nat.le_refl _) hb.size (Nat.le_refl _)⟩

noncomputable def countElemL (k p n c : Int) : List Int := if (ringB k p n && decide (0 ≤ c)) = true then countL k p n c.toNat else []
set_option maxHeartbeats 1600000 in
theorem count_impl_in (k p n : Int) (c : Nat) (w : World) (hr : ringB k p n = true) (hc : c ≤ 9223372036854775807) :
    Calls Try.prog 64 #[ringV k p n, .int .i64 c] w (NewRow w (countL k p n c)) := by
  have HR := Lib.hid hr
  clear hr
  go_enter Try.func64, Try.ntmps64
  go_wp2_with fail
  refine (Inv.call (Lib.hid (Inv.box w k p n _)) (ring_ok_impl k p n _)).mono ?_
  rw [HR.out]
  rintro e w1 ⟨rfl, HV1, c0, c1, c2⟩
  have HV1' := Lib.hid HV1.out.drew
  clear HV1
  go_wp2
  go_region_held3 (fun w' => w'.cell? ⟨w.heap.size, 0, none⟩ = some (.int .i64 k) ∧ w'.cell? ⟨w.heap.size, 1, none⟩ = some (.int .i64 p) ∧ w'.cell? ⟨w.heap.size, 2, none⟩ = some (.int .i64 n)) (first | exact ⟨c0, c1, c2⟩ | exact HV2.out.cells | exact HV1'.out.cells) (first
    | (go_at_call 130; refine (Inv.make (by assumption) (one_impl k p n _ HR.out)).mono ?_; rintro e w2 ⟨vo, rfl, HO, HV2, ⟨c0, c1, c2⟩, T⟩; try (have HZ := Lib.hid (T.out _ _ HZ.out)))
    | (go_at_call 127; refine (Inv.make (by assumption) (zero_impl k p n _ HR.out)).mono ?_; rintro e w2 ⟨vz, rfl, HZ, HV2, ⟨c0, c1, c2⟩, T⟩; try (have HO := Lib.hid (T.out _ _ HO.out)))
    | (go_at_call 129; refine (repeated_plus (pw := countL k p n) (N := c) (combines_plus HR.out) (count_elem HR.out) (count_plus HR.out) hc (cnt_one HR.out ▸ HO.out.rd) (Nat.le_refl _) (cnt_zero HR.out ▸ HZ.out) HV2.out.1.size).mono ?_; rintro e w3 ⟨r, rfl, ho3, hb3⟩; obtain ⟨c0, c1, c2⟩ := (HV2.out.step hb3).cells; have RES := Lib.hid (⟨ho3, HV2.out.1.trans (hb3.mono HV2.out.1.size)⟩ : _ ∧ Below w.heap.size w w3)))
  all_goals
    go_wp2
    go_ret
    exact ⟨_, rfl, RES.out.1, RES.out.2⟩
end Go.Proofs.Ytfdjlahaiogabab
