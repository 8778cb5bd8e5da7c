/- spec.l03Map at the roots: Horner's way. -/
import Derived.Test.YtjkajbbipgmdoaaMapSpec
namespace Go.Proofs.Ytjkajbbipgmdoaa
open Go.RowKit

theorem hornV_snoc (a p : Int) (xs : List Int) (x : Int) : hornV a p (xs ++ [x]) = (hornV a p xs * a + x) % p := by simp [hornV]
theorem hornV_range (a p : Int) (hp : 0 < p) (xs : List Int) : 0 ≤ hornV a p xs ∧ hornV a p xs < p := by
  have key : ∀ (xs : List Int) (v : Int), 0 ≤ v → v < p → 0 ≤ xs.foldl (fun v x => (v * a + x) % p) v ∧ xs.foldl (fun v x => (v * a + x) % p) v < p := by
    intro xs
    induction xs with
    | nil => intro v h1 h2; exact ⟨h1, h2⟩
    | cons x xs ih => intro v _ _; exact ih _ (Int.emod_nonneg _ (by omega)) (Int.emod_lt_of_pos _ hp)
  exact key xs 0 (by omega) hp
set_option maxRecDepth 100000 in
set_option maxHeartbeats 1600000 in
theorem map_6 (bx ox cx : Nat) (fp fn tk tp tn ha : Int) (xs : List Int) (w : World) (hbx : bx < w.heap.size) (hm : xs.length = 4) (hc : ∀ i (h : i < xs.length), w.cell? ⟨bx, ox + i, none⟩ = some (.int .i64 xs[i])) (h0 : 0 ≤ ha) (h1 : ha < fp) (h2 : fp ≤ 1000003) (hr : ∀ x ∈ xs, 0 ≤ x ∧ x ≤ 1000003) :
    Calls Try.prog 59 #[ringV 8 fp fn, ringV tk tp tn, homV 6 ha, .slice (some ⟨bx, ox, none⟩) 4 cx] w (NewRow w [hornV ha fp xs.reverse]) := by
  have HV := Lib.hid (Inv3.box w 8 fp fn tk tp tn 6 ha 27 29)
  have HM := Lib.hid hm
  have HC := Lib.hid hc
  have HR := Lib.hid hr
  have H0 := Lib.hid h0
  have H1 := Lib.hid h1
  have H2 := Lib.hid h2
  have hp0 : ¬ fp = 0 := by omega
  clear hm hc hr h0 h1 h2
  go_enter Try.func59, Try.ntmps59
  go_wp2
  go_loopw [9, 10] (fun n i wr => ∃ q : Nat, q ≤ 4 ∧ i = .int .i64 ((q : Int) - 1) ∧ n = .int .i64 (hornV ha fp (xs.drop q).reverse) ∧ Hid (Inv3 w wr w.heap.size 8 fp fn tk tp tn 6 ha)) (fun _ i _ => (intOf i + 1).toNat)
  case atStart => exact ⟨4, by omega, rfl, by rw [List.drop_of_length_le (by rw [HM.out]; omega)]; rfl, HV⟩
  case round =>
    obtain ⟨q, hq, rfl, rfl, HW⟩ := hrel
    clear HV
    cases q with
    | zero =>
      go_wp2
      go_ret
      exact new_one HW.out.bel
    | succ q =>
      have e1 : ((q + 1 : Nat) : Int) - 1 = (q : Int) := by omega
      rw [e1]
      obtain ⟨c0, c1, c2, d0, d1, d2, e0, e1⟩ := HW.out.cells
      obtain ⟨x, hx⟩ : ∃ x, xs[q]? = some x := ⟨_, List.getElem?_eq_getElem (by rw [HM.out]; omega)⟩
      have hxr := HR.out x (List.mem_of_getElem? hx)
      have hcx : wr.cell? ⟨bx, ox + q, none⟩ = some (.int .i64 x) := (HW.out.bel.cell (p := ⟨bx, ox + q, none⟩) hbx).trans (by
        rw [HC.out q (by rw [HM.out]; omega)]
        rw [List.getElem?_eq_getElem (by rw [HM.out]; omega)] at hx
        rw [Option.some.inj hx])
      obtain ⟨v, hv⟩ : ∃ v, v = hornV ha fp (xs.drop (q + 1)).reverse := ⟨_, rfl⟩
      have hvr := hornV_range ha fp (by have := H1.out; have := H0.out; omega) (xs.drop (q + 1)).reverse
      rw [← hv] at hvr ⊢
      have HN : Hid (hornV ha fp (xs.drop q).reverse = (v * ha + x) % fp) := Lib.hid (by rw [drop_step xs q (by rw [HM.out]; omega), hx]; exact (hornV_snoc _ _ _ _).trans (by rw [← hv]; rfl))
      have hva : 0 ≤ v * ha ∧ v * ha ≤ 1000003 * 1000003 := ⟨Int.mul_nonneg hvr.1 H0.out, Int.mul_le_mul (by have := H2.out; omega) (by have := H1.out; have := H2.out; omega) H0.out (by omega)⟩
      obtain ⟨s, hs⟩ : ∃ s, s = v * ha := ⟨_, rfl⟩
      rw [← hs] at hva
      have w1 : IntKind.i64.wrap (v * ha) = s := by rw [← hs]; exact IntWalk.i64_in _ (by omega)
      have w2 : IntKind.i64.wrap (s + x) = s + x := IntWalk.i64_in _ (by omega)
      have w3 : (s + x).tmod fp = (s + x) % fp := Int.tmod_eq_emod_of_nonneg (by omega)
      have w4 : IntKind.i64.wrap ((q : Int) - 1) = (q : Int) - 1 := IntWalk.i64_in _ (by omega)
      have hq4 : (q : Int) < 4 := by omega
      rw [← hs] at HN
      clear hx hxr hv hvr hva hs
      go_wp2_with fail
      go_quiet (fail)
      go_wp2
      go_roundw
      case rel => exact ⟨q, by omega, rfl, by rw [HN.out], Lib.hid (HW.out.step (below_drewN (Below.refl _ _) _))⟩
      case measure => simp [intOf]
end Go.Proofs.Ytjkajbbipgmdoaa
