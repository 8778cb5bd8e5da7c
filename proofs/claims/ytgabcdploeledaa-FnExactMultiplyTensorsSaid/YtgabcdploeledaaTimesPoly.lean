
/- (Ring).timesPolynomial. -/
import Derived.Test.YtgabcdploeledaaPlusSpec
import Derived.Test.YtgabcdploeledaaPow2
import Derived.StillTailTactics
namespace Go.Proofs.Ytgabcdploeledaa
set_option maxRecDepth 20000
open Go.RowKit

set_option maxHeartbeats 6400000 in
set_option maxRecDepth 100000 in
theorem poly_impl_full (ax ay : Option Addr) (cx cy m B0 : Nat) (k p n : Int) (xs ys : List Int) (w : World) (hx : xs.length = m) (hy : ys.length = m) (hm0 : 1 ≤ m) (hm : m ≤ 6) (hB0 : B0 ≤ w.heap.size)
    (hex : Within 1048576 xs) (hey : Within 1048576 ys) (om : Bool) (hom : (k == 8) = om) (hp1 : 1 ≤ p) (hp2 : p ≤ 1000003)
    (hax : 0 < m → ∃ b off, ax = some ⟨b, off, none⟩ ∧ b < B0 ∧ ∀ i (h : i < xs.length), w.cell? ⟨b, off + i, none⟩ = some (.int .i64 xs[i]))
    (hay : 0 < m → ∃ b off, ay = some ⟨b, off, none⟩ ∧ b < B0 ∧ ∀ i (h : i < ys.length), w.cell? ⟨b, off + i, none⟩ = some (.int .i64 ys[i])) :
    Calls Try.prog 125 #[ringV k p n, .slice ax m cx, .slice ay m cy] w (NewRow w ((List.range m).map fun c => convC m om (fun i => xs.getD i 0) (fun i => ys.getD i 0) c % p)) := by
  obtain ⟨bx, ox, rfl, hbx, hcx⟩ := hax (by omega)
  obtain ⟨by', oy, rfl, hby, hcy⟩ := hay (by omega)
  have HX := Lib.hid hcx
  have HY := Lib.hid hcy
  have L1 := Lib.hid hx
  have L2 := Lib.hid hy
  have HK := Lib.hid hom
  have E1 := Lib.hid hex
  have E2 := Lib.hid hey
  have hbx2 : bx < w.heap.size := Nat.lt_of_lt_of_le hbx hB0
  have hby2 : by' < w.heap.size := Nat.lt_of_lt_of_le hby hB0
  obtain ⟨B, hB⟩ : ∃ B, B = w.heap.size := ⟨_, rfl⟩
  have HB := Lib.hid hB
  obtain ⟨i0, hi, hz0, hz1, hz2⟩ := info_parts infoInt
  have HV1 := Lib.hid (Inv.box w k p n 31)
  clear hax hay hcx hcy hx hy hom hex hey hbx hby hB0 hB
  go_enter Try.func125, Try.ntmps125
  go_wp2_with (at_make; refine wpList_make_full _ rfl _ _ 24 rfl B 3 i0 (.int .i64 0) 1 Try.underlying24 hi hz0 hz1 .i64 .i64 _ _ m rfl rfl rfl rfl (by rw [hz2]; omega) (by unfold maxLen; omega) (by rw [HB.out]; simp) ?_; intro w2 hown hgrow; obtain ⟨HV2, OW, hsz, f0, g1, d0, d1, d2⟩ := made_facts HV1 hown hgrow hm0; clear hown hgrow f0 g1 d0 d1 d2 hi hz0 hz1 hz2)
  have OW2 : Hid (w2.ownsRow B 3 1 (.slice (some ⟨w.heap.size + 1, 0, none⟩) m m) m (ints (zerosL m))) := by
    have h := OW.out
    rw [show (w.alloc (.cells (ringC k p n) 31)).heap.size = w.heap.size + 1 from by simp] at h
    exact h
  clear OW HV1
  obtain ⟨X, hX⟩ : ∃ X : Nat → Int, X = fun i => xs.getD i 0 := ⟨_, rfl⟩
  obtain ⟨Y, hY⟩ : ∃ Y : Nat → Int, Y = fun i => ys.getD i 0 := ⟨_, rfl⟩
  have XX : Hid (∀ i, X i = xs.getD i 0) := Lib.hid (fun i => by rw [hX])
  have YY : Hid (∀ i, Y i = ys.getD i 0) := Lib.hid (fun i => by rw [hY])
  have BX : Hid (∀ i, 0 ≤ X i ∧ X i ≤ 1048576) := Lib.hid (fun i => by rw [hX]; exact E1.out.getD (by omega) i)
  have BY : Hid (∀ i, 0 ≤ Y i ∧ Y i ≤ 1048576) := Lib.hid (fun i => by rw [hY]; exact E2.out.getD (by omega) i)
  have FX := Lib.hid hX
  have FY := Lib.hid hY
  clear hX hY E1 E2
  have OW3 : Hid (w2.ownsRow B 3 1 (.slice (some ⟨w.heap.size + 1, 0, none⟩) m m) m (ints ((List.range m).map (accC m om X Y 0 0)))) := by
    rw [show (List.range m).map (accC m om X Y 0 0) = zerosL m from by
      apply List.ext_getElem (by simp [zerosL])
      intro i h1 h2
      simp [zerosL, acc_zero]]
    exact OW2
  clear OW2 hsz
  go_loopw [21] (fun i wr => ∃ j : Nat, j ≤ m ∧ i = .int .i64 j ∧ Hid (Inv w wr w.heap.size k p n) ∧ Hid (wr.ownsRow B 3 1 (.slice (some ⟨w.heap.size + 1, 0, none⟩) m m) m (ints ((List.range m).map (accC m om X Y j 0))))) (fun i _ => m - (intOf i).toNat)
  case atStart => exact ⟨0, by omega, rfl, HV2, OW3⟩
  case round =>
    clear HV2 OW3
    obtain ⟨i, hi, rfl, HV, HO⟩ := hrel
    by_cases hlt : i < m
    · obtain ⟨a, e1, X1⟩ := ints_cell L1.out HX.out hlt
      have d1 : wr.cell? ⟨bx, ox + i, none⟩ = some (.int .i64 a) := (HV.out.1.cell (p := ⟨bx, ox + i, none⟩) hbx2).trans e1
      have wa : 0 ≤ a ∧ a ≤ 1048576 := by have := BX.out i; rw [XX.out, getD_of X1.out] at this; exact this
      clear e1
      go_wp2
      go_loopw [28] (fun q wr => ∃ j : Nat, j ≤ m ∧ q = .int .i64 j ∧ Hid (Inv w wr w.heap.size k p n) ∧ Hid (wr.ownsRow B 3 1 (.slice (some ⟨w.heap.size + 1, 0, none⟩) m m) m (ints ((List.range m).map (accC m om X Y i j))))) (fun q _ => m - (intOf q).toNat)
      case atStart => exact ⟨0, by omega, rfl, HV, HO⟩
      case round =>
        clear HV HO d1
        obtain ⟨j, hj, rfl, HV, HO⟩ := hrel
        by_cases hlj : j < m
        · obtain ⟨b, e2, Y1⟩ := ints_cell L2.out HY.out hlj
          have wb : 0 ≤ b ∧ b ≤ 1048576 := by have := BY.out j; rw [YY.out, getD_of Y1.out] at this; exact this
          have d2 : wr.cell? ⟨by', oy + j, none⟩ = some (.int .i64 b) := (HV.out.1.cell (p := ⟨by', oy + j, none⟩) hby2).trans e2
          obtain ⟨c0, c1, c2⟩ := HV.out.cells
          obtain ⟨ab, hab⟩ : ∃ ab, ab = a * b := ⟨_, rfl⟩
          have hbd : 0 ≤ ab ∧ ab ≤ 1099511627776 := by rw [hab]; exact mul_small wa.1 wa.2 wb.1 wb.2
          have hmul : IntKind.i64.wrap (a * b) = ab := by rw [← hab]; exact IntWalk.i64_in _ (by omega)
          have HAB : Hid (ab = X i * Y j) := Lib.hid (by rw [hab, XX.out, YY.out, getD_of X1.out, getD_of Y1.out])
          clear e2 hab
          by_cases hsum : i + j < m
          · obtain ⟨x0, hx0, c3⟩ := row_slot (j := i + j) HO (by simpa using hsum)
            have f3 := HO.out.frozenAt (i + j)
            have hx1 : x0 = accC m om X Y i j (i + j) := by simpa [hsum] using hx0.symm
            have hb3 : -50000000000000 ≤ x0 ∧ x0 ≤ 50000000000000 := by rw [hx1]; exact acc_bound BX.out BY.out _ hm (by omega) (by omega)
            have HS : Hid ((wr.setCell ⟨w.heap.size + 1, i + j, none⟩ (.int .i64 (x0 + ab))).ownsRow B 3 1 (.slice (some ⟨w.heap.size + 1, 0, none⟩) m m) m (ints ((List.range m).map (accC m om X Y i (j + 1))))) := by
              have h := (HO.out.stored (i + j) (.int .i64 (x0 + ab))).1
              rw [← ints_set, hx1, HAB.out, acc_set_at hsum, ← HAB.out, ← hx1] at h
              exact h
            clear hx0 hx1
            go_wp2
            go_roundw
            case rel => exact ⟨j + 1, by omega, by go_num, Lib.hid (HV.out.set (q := ⟨w.heap.size + 1, i + j, none⟩) (by simp) (by simp) _), HS⟩
            case measure => simp [intOf]; omega
          · have hge : decide (((i : Int) + (j : Int)) < (m : Int)) = false := by simp; omega
            obtain ⟨q, hq⟩ : ∃ q, q = i + j - m := ⟨_, rfl⟩
            have hq2 : q < m := by omega
            have HQ : Hid (i + j = q + m) := Lib.hid (by omega)
            have hqi : (i : Int) + (j : Int) - (m : Int) = (q : Int) := by omega
            have HQ2 := Lib.hid hq
            clear hq
            cases om with
            | true =>
              have hk : (k == 8) = true := HK.out
              obtain ⟨x0, hx0, c3⟩ := row_slot (j := q) HO (by simpa using hq2)
              have f3 := HO.out.frozenAt q
              have hx1 : x0 = accC m true X Y i j q := by simpa [hq2] using hx0.symm
              have hb3 : -50000000000000 ≤ x0 ∧ x0 ≤ 50000000000000 := by rw [hx1]; exact acc_bound BX.out BY.out _ hm (by omega) (by omega)
              have HS : Hid ((wr.setCell ⟨w.heap.size + 1, q, none⟩ (.int .i64 (x0 - ab))).ownsRow B 3 1 (.slice (some ⟨w.heap.size + 1, 0, none⟩) m m) m (ints ((List.range m).map (accC m true X Y i (j + 1))))) := by
                have h := (HO.out.stored q (.int .i64 (x0 - ab))).1
                have h2 := acc_set_wrap (w := m) (i := i) (j := j) (X := X) (Y := Y) (by omega) (by omega)
                rw [← HQ2.out] at h2
                rw [← ints_set, hx1, HAB.out, h2, ← HAB.out, ← hx1] at h
                exact h
              clear hx0 hx1
              go_wp2
              go_roundw
              case rel => exact ⟨j + 1, by omega, by go_num, Lib.hid (HV.out.set (q := ⟨w.heap.size + 1, q, none⟩) (by simp) (by simp) _), HS⟩
              case measure => simp [intOf]; omega
            | false =>
              have hk : (k == 8) = false := HK.out
              have HS : Hid (wr.ownsRow B 3 1 (.slice (some ⟨w.heap.size + 1, 0, none⟩) m m) m (ints ((List.range m).map (accC m false X Y i (j + 1))))) := by
                have h := HO.out
                rw [acc_set_none (by omega)] at h
                exact h
              go_wp2
              go_roundw
              case rel => exact ⟨j + 1, by omega, by go_num, HV, HS⟩
              case measure => simp [intOf]; omega
        · obtain rfl : j = m := by omega
          have HS : Hid (wr.ownsRow B 3 1 (.slice (some ⟨w.heap.size + 1, 0, none⟩) j j) j (ints ((List.range j).map (accC j om X Y (i + 1) 0)))) := by
            have h := HO.out
            rw [show accC j om X Y i j = accC j om X Y (i + 1) 0 from funext fun c => (acc_row j om X Y i c).symm] at h
            exact h
          go_wp2
          go_roundw
          case rel => exact ⟨i + 1, by omega, by go_num, HV, HS⟩
          case measure => simp [intOf]; omega
    · obtain rfl : i = m := by omega
      obtain ⟨V, hV⟩ : ∃ V : Nat → Int, V = convC i om X Y := ⟨_, rfl⟩
      have HVV := Lib.hid hV
      have HO2 : Hid (wr.ownsRow B 3 1 (.slice (some ⟨w.heap.size + 1, 0, none⟩) i i) i (ints ((List.range i).map fun c => if c < 0 then V c % p else V c))) := by
        have h := HO.out
        rw [show accC i om X Y i 0 = (fun c => if c < 0 then V c % p else V c) from funext fun c => by rw [acc_end, hV]; simp] at h
        exact h
      have BV : Hid (∀ c, -50000000000000 ≤ V c ∧ V c ≤ 50000000000000) := Lib.hid (fun c => by rw [hV, ← acc_end]; exact acc_bound BX.out BY.out c hm hm (by omega))
      clear hV HO
      go_wp2
      go_loopw [66] (fun q ws => ∃ j : Nat, j ≤ i ∧ q = .int .i64 j ∧ Hid (Inv w ws w.heap.size k p n) ∧ Hid (ws.ownsRow B 3 1 (.slice (some ⟨w.heap.size + 1, 0, none⟩) i i) i (ints ((List.range i).map fun c => if c < j then V c % p else V c)))) (fun q _ => i - (intOf q).toNat)
      case atStart => exact ⟨0, by omega, rfl, HV, HO2⟩
      case round =>
        clear HV HO2
        obtain ⟨j, hj, rfl, HV, HO⟩ := hrel
        by_cases hlj : j < i
        · obtain ⟨x0, hx0, c3⟩ := row_slot (j := j) HO (by simpa using hlj)
          have f3 := HO.out.frozenAt j
          obtain ⟨c0, c1, c2⟩ := HV.out.cells
          have hx1 : x0 = V j := by simpa [hlj] using hx0.symm
          have hb3 : -50000000000000 ≤ x0 ∧ x0 ≤ 50000000000000 := by rw [hx1]; exact BV.out j
          have hpz : ¬ p = 0 := by omega
          have hrg := tmod_range (x := x0) (show 0 < p by omega)
          obtain ⟨t, ht⟩ : ∃ t, t = x0.tmod p := ⟨_, rfl⟩
          rw [← ht] at hrg
          have hw1 : x0.tmod p = t := ht.symm
          have hw2 : IntKind.i64.wrap t = t := IntWalk.i64_in _ (by omega)
          have hw3 : IntKind.i64.wrap (t + p) = t + p := IntWalk.i64_in _ (by omega)
          have hm2 : (t + p).tmod p = (t + p) % p := Int.tmod_eq_emod_of_nonneg (by omega)
          have hr0 := Int.emod_nonneg (t + p) (show p ≠ 0 by omega)
          have hr1 := Int.emod_lt_of_pos (t + p) (show 0 < p by omega)
          have hw4 : IntKind.i64.wrap ((t + p) % p) = (t + p) % p := IntWalk.i64_in _ (by omega)
          have HT : Hid (t % p = V j % p) := Lib.hid (by rw [← Int.add_emod_right, ht, tmod_norm (by omega), hx1])
          have HS : Hid ((wr.setCell ⟨w.heap.size + 1, j, none⟩ (.int .i64 (t % p))).drew.ownsRow B 3 1 (.slice (some ⟨w.heap.size + 1, 0, none⟩) i i) i (ints ((List.range i).map fun c => if c < j + 1 then V c % p else V c))) := by
            have h0 : wr.ownsRow B 3 1 (.slice (some ⟨w.heap.size + 1, 0, none⟩) i i) i (ints ((List.range i).map fun c => if c < j then V c % p else V c)) := HO.out
            have h := (h0.stored j (.int .i64 (t % p))).1
            rw [← ints_set, HT.out, mapRange_set (g := fun c => if c < j + 1 then V c % p else V c) (by simp) (fun d hd hne => by
              by_cases h5 : d < j
              · rw [if_pos h5, if_pos (by omega)]
              · rw [if_neg h5, if_neg (by omega)]), ← HT.out] at h
            exact h
          clear hx0 hx1 ht hr0 hr1
          go_wp2
          go_still_tail 16, (by kernel_rfl)
          change wpList _ _ _ _ _ wr.drew
          go_wp2
          go_roundw
          case rel => exact ⟨j + 1, by omega, by go_num, Lib.hid (HV.out.set (q := ⟨w.heap.size + 1, j, none⟩) (by simp) (by simp) _).drew, HS⟩
          case measure => simp [intOf]; omega
        · obtain rfl : j = i := by omega
          go_wp2
          go_ret
          refine ⟨_, rfl, Own.of (n := j) ?_ (by simp), HV.out.1⟩
          have h := HO.out
          rw [HB.out, mapRange_congr (g := fun c => convC j om (fun i => xs.getD i 0) (fun i => ys.getD i 0) c % p) (fun d hd => by rw [if_pos hd, HVV.out, FX.out, FY.out])] at h
          exact h
end Go.Proofs.Ytgabcdploeledaa
