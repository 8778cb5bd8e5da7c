
/- (Ring).timesPolynomial. -/
import Derived.Test.YtdheakjjnaifkaaPlusSpec
import Derived.Test.YtdheakjjnaifkaaPow2
import Derived.StillTailTactics
import Derived.Test.YtdheakjjnaifkaaZero
namespace Go.Proofs.Ytdheakjjnaifkaa
set_option maxRecDepth 20000
open Go.RowKit

set_option maxHeartbeats 6400000 in
set_option maxRecDepth 100000 in
theorem poly_impl_full (ax ay : Option Addr) (cx cy m B0 : Nat) (k p n : Int) (xs ys : List Int) (w : World) (hx : xs.length = m) (hy : ys.length = m) (hm0 : 1 ≤ m) (hm : m ≤ 6) (hB0 : B0 ≤ w.heap.size)
    (hex : Within 1048576 xs) (hey : Within 1048576 ys) (om : Bool) (hom : (k == 8) = om) (hp1 : 1 ≤ p) (hp2 : p ≤ 1000003)
    (hax : 0 < m → ∃ b off, ax = some ⟨b, off, none⟩ ∧ b < B0 ∧ ∀ i (h : i < xs.length), w.cell? ⟨b, off + i, none⟩ = some (.int .i64 xs[i]))
    (hay : 0 < m → ∃ b off, ay = some ⟨b, off, none⟩ ∧ b < B0 ∧ ∀ i (h : i < ys.length), w.cell? ⟨b, off + i, none⟩ = some (.int .i64 ys[i])) :
    Calls Try.prog 96 #[ringV k p n, .slice ax m cx, .slice ay m cy] w (NewRow w ((List.range m).map fun c => convC m om (fun i => xs.getD i 0) (fun i => ys.getD i 0) c % p)) := by
  obtain ⟨bx, ox, rfl, hbx, hcx⟩ := hax (by omega)
  obtain ⟨by', oy, rfl, hby, hcy⟩ := hay (by omega)
  have HX := Lib.hid hcx
  have HY := Lib.hid hcy
  have L1 := Lib.hid hx
  have L2 := Lib.hid hy
  have HK := Lib.hid hom
  have E1 := Lib.hid hex
  have E2 := Lib.hid hey
  have hbx2 : bx < w.heap.size := Nat.lt_of_lt_of_le hbx hB0
  have hby2 : by' < w.heap.size := Nat.lt_of_lt_of_le hby hB0
  obtain ⟨B, hB⟩ : ∃ B, B = w.heap.size := ⟨_, rfl⟩
  have HB := Lib.hid hB
  obtain ⟨i0, hi, hz0, hz1, hz2⟩ := info_parts infoInt
  have HV1 := Lib.hid (Inv.box w k p n 30)
  clear hax hay hcx hcy hx hy hom hex hey hbx hby hB0 hB
  go_enter Try.func96, Try.ntmps96
  go_wp2_with (at_make; refine wpList_make_full _ rfl _ _ 25 rfl B 3 i0 (.int .i64 0) 1 Try.underlying25 hi hz0 hz1 .i64 .i64 _ _ m rfl rfl rfl rfl (by rw [hz2]; omega) (by unfold maxLen; omega) (by rw [HB.out]; simp) ?_; intro w2 hown hgrow; obtain ⟨HV2, OW, hsz, f0, g1, d0, d1, d2⟩ := made_facts HV1 hown hgrow hm0; clear hown hgrow f0 g1 d0 d1 d2 hi hz0 hz1 hz2)
  have OW2 : Hid (w2.ownsRow B 3 1 (.slice (some ⟨w.heap.size + 1, 0, none⟩) m m) m (ints (zerosL m))) := by
    have h := OW.out
    rw [show (w.alloc (.cells (ringC k p n) 30)).heap.size = w.heap.size + 1 from by simp] at h
    exact h
  clear OW HV1
  obtain ⟨X, hX⟩ : ∃ X : Nat → Int, X = fun i => xs.getD i 0 := ⟨_, rfl⟩
  obtain ⟨Y, hY⟩ : ∃ Y : Nat → Int, Y = fun i => ys.getD i 0 := ⟨_, rfl⟩
  have XX : Hid (∀ i, X i = xs.getD i 0) := Lib.hid (fun i => by rw [hX])
  have YY : Hid (∀ i, Y i = ys.getD i 0) := Lib.hid (fun i => by rw [hY])
  have BX : Hid (∀ i, 0 ≤ X i ∧ X i ≤ 1048576) := Lib.hid (fun i => by rw [hX]; exact E1.out.getD (by omega) i)
  have BY : Hid (∀ i, 0 ≤ Y i ∧ Y i ≤ 1048576) := Lib.hid (fun i => by rw [hY]; exact E2.out.getD (by omega) i)
  have FX := Lib.hid hX
  have FY := Lib.hid hY
  clear hX hY E1 E2
  have OW3 : Hid (w2.ownsRow B 3 1 (.slice (some ⟨w.heap.size + 1, 0, none⟩) m m) m (ints ((List.range m).map (accC m om X Y 0 0)))) := by
    rw [show (List.range m).map (accC m om X Y 0 0) = zerosL m from by
      apply List.ext_getElem (by simp [zerosL])
      intro i h1 h2
      simp [zerosL, acc_zero]]
    exact OW2
  clear OW2 hsz
  go_loopw [21] (fun i wr => ∃ j : Nat, j ≤ m ∧ i = .int .i64 j ∧ Hid (Inv w wr w.heap.size k p n) ∧ Hid (wr.ownsRow B 3 1 (.slice (some ⟨w.heap.size + 1, 0, none⟩) m m) m (ints ((List.range m).map (accC m om X Y j 0))))) (fun i _ => m - (intOf i).toNat)
  case atStart => exact ⟨0, by omega, rfl, HV2, OW3⟩
  case round =>
    clear HV2 OW3
    obtain ⟨i, hi, rfl, HV, HO⟩ := hrel
    by_cases hlt : i < m
    · obtain ⟨a, e1, X1⟩ := ints_cell L1.out HX.out hlt
      have d1 : wr.cell? ⟨bx, ox + i, none⟩ = some (.int .i64 a) := (HV.out.1.cell (p := ⟨bx, ox + i, none⟩) hbx2).trans e1
      have wa : 0 ≤ a ∧ a ≤ 1048576 := by have := BX.out i; rw [XX.out, getD_of X1.out] at this; exact this
      clear e1
      go_wp2
      go_loopw [28] (fun q wr => ∃ j : Nat, j ≤ m ∧ q = .int .i64 j ∧ Hid (Inv w wr w.heap.size k p n) ∧ Hid (wr.ownsRow B 3 1 (.slice (some ⟨w.heap.size + 1, 0, none⟩) m m) m (ints ((List.range m).map (accC m om X Y i j))))) (fun q _ => m - (intOf q).toNat)
      case atStart => exact ⟨0, by omega, rfl, HV, HO⟩
      case round =>
        clear HV HO d1
        obtain ⟨j, hj, rfl, HV, HO⟩ := hrel
        by_cases hlj : j < m
        · obtain ⟨b, e2, Y1⟩ := ints_cell L2.out HY.out hlj
          have wb : 0 ≤ b ∧ b ≤ 1048576 := by have := BY.out j; rw [YY.out, getD_of Y1.out] at this; exact this
          have d2 : wr.cell? ⟨by', oy + j, none⟩ = some (.int .i64 b) := (HV.out.1.cell (p := ⟨by', oy + j, none⟩) hby2).trans e2
          obtain ⟨c0, c1, c2⟩ := HV.out.cells
          obtain ⟨ab, hab⟩ : ∃ ab, ab = a * b := ⟨_, rfl⟩
          have hbd : 0 ≤ ab ∧ ab ≤ 1099511627776 := by rw [hab]; exact mul_small wa.1 wa.2 wb.1 wb.2
          have hmul : IntKind.i64.wrap (a * b) = ab := by rw [← hab]; exact IntWalk.i64_in _ (by omega)
          have HAB : Hid (ab = X i * Y j) := Lib.hid (by rw [hab, XX.out, YY.out, getD_of X1.out, getD_of Y1.out])
          clear e2 hab
          by_cases hsum : i + j < m
          · obtain ⟨x0, hx0, c3⟩ := row_slot (j := i + j) HO (by simpa using hsum)
            have f3 := HO.out.frozenAt (i + j)
            have hx1 : x0 = accC m om X Y i j (i + j) := by simpa [hsum] using hx0.symm
            have hb3 : -50000000000000 ≤ x0 ∧ x0 ≤ 50000000000000 := by rw [hx1]; exact acc_bound BX.out BY.out _ hm (by omega) (by omega)
            have HS : Hid ((wr.setCell ⟨w.heap.size + 1, i + j, none⟩ (.int .i64 (x0 + ab))).ownsRow B 3 1 (.slice (some ⟨w.heap.size + 1, 0, none⟩) m m) m (ints ((List.range m).map (accC m om X Y i (j + 1))))) := by
              have h := (HO.out.stored (i + j) (.int .i64 (x0 + ab))).1
              rw [← ints_set, hx1, HAB.out, acc_set_at hsum, ← HAB.out, ← hx1] at h
              exact h
            clear hx0 hx1
            go_wp2
            go_roundw
            case rel => exact ⟨j + 1, by omega, by go_num, Lib.hid (HV.out.set (q := ⟨w.heap.size + 1, i + j, none⟩) (by simp) (by simp) _), HS⟩
            case measure => simp [intOf]; omega
          · have hge : decide (((i : Int) + (j : Int)) < (m : Int)) = false := by simp; omega
            obtain ⟨q, hq⟩ : ∃ q, q = i + j - m := ⟨_, rfl⟩
            have hq2 : q < m := by omega
            have HQ : Hid (i + j = q + m) := Lib.hid (by omega)
            have hqi : (i : Int) + (j : Int) - (m : Int) = (q : Int) := by omega
            have HQ2 := Lib.hid hq
            clear hq
            cases om with
            | true =>
              have hk : (k == 8) = true := HK.out
              obtain ⟨x0, hx0, c3⟩ := row_slot (j := q) HO (by simpa using hq2)
              have f3 := HO.out.frozenAt q
              have hx1 : x0 = accC m true X Y i j q := by simpa [hq2] using hx0.symm
              have hb3 : -50000000000000 ≤ x0 ∧ x0 ≤ 50000000000000 := by rw [hx1]; exact acc_bound BX.out BY.out _ hm (by omega) (by omega)
              have HS : Hid ((wr.setCell ⟨w.heap.size + 1, q, none⟩ (.int .i64 (x0 - ab))).ownsRow B 3 1 (.slice (some ⟨w.heap.size + 1, 0, none⟩) m m) m (ints ((List.range m).map (accC m true X Y i (j + 1))))) := by
                have h := (HO.out.stored q (.int .i64 (x0 - ab))).1
                have h2 := acc_set_wrap (w := m) (i := i) (j := j) (X := X) (Y := Y) (by omega) (by omega)
                rw [← HQ2.out] at h2
                rw [← ints_set, hx1, HAB.out, h2, ← HAB.out, ← hx1] at h
                exact h
              clear hx0 hx1
              go_wp2
              go_roundw
              case rel => exact ⟨j + 1, by omega, by go_num, Lib.hid (HV.out.set (q := ⟨w.heap.size + 1, q, none⟩) (by simp) (by simp) _), HS⟩
              case measure => simp [intOf]; omega
            | false =>
              have hk : (k == 8) = false := HK.out
              have HS : Hid (wr.ownsRow B 3 1 (.slice (some ⟨w.heap.size + 1, 0, none⟩) m m) m (ints ((List.range m).map (accC m false X Y i (j + 1))))) := by
                have h := HO.out
                rw [acc_set_none (by omega)] at h
                exact h
              go_wp2
              go_roundw
              case rel => exact ⟨j + 1, by omega, by go_num, HV, HS⟩
              case measure => simp [intOf]; omega
        · obtain rfl : j = m := by omega
          have HS : Hid (wr.ownsRow B 3 1 (.slice (some ⟨w.heap.size + 1, 0, none⟩) j j) j (ints ((List.range j).map (accC j om X Y (i + 1) 0)))) := by
            have h := HO.out
            rw [show accC j om X Y i j = accC j om X Y (i + 1) 0 from funext fun c => (acc_row j om X Y i c).symm] at h
            exact h
          go_wp2
          go_roundw
          case rel => exact ⟨i + 1, by omega, by go_num, HV, HS⟩
          case measure => simp [intOf]; omega
    · obtain rfl : i = m := by omega
      obtain ⟨V, hV⟩ : ∃ V : Nat → Int, V = convC i om X Y := ⟨_, rfl⟩
      have HVV := Lib.hid hV
      have HO2 : Hid (wr.ownsRow B 3 1 (.slice (some ⟨w.heap.size + 1, 0, none⟩) i i) i (ints ((List.range i).map fun c => if c < 0 then V c % p else V c))) := by
        have h := HO.out
        rw [show accC i om X Y i 0 = (fun c => if c < 0 then V c % p else V c) from funext fun c => by rw [acc_end, hV]; simp] at h
        exact h
      have BV : Hid (∀ c, -50000000000000 ≤ V c ∧ V c ≤ 50000000000000) := Lib.hid (fun c => by rw [hV, ← acc_end]; exact acc_bound BX.out BY.out c hm hm (by omega))
      clear hV HO
      go_wp2
      go_loopw [66] (fun q ws => ∃ j : Nat, j ≤ i ∧ q = .int .i64 j ∧ Hid (Inv w ws w.heap.size k p n) ∧ Hid (ws.ownsRow B 3 1 (.slice (some ⟨w.heap.size + 1, 0, none⟩) i i) i (ints ((List.range i).map fun c => if c < j then V c % p else V c)))) (fun q _ => i - (intOf q).toNat)
      case atStart => exact ⟨0, by omega, rfl, HV, HO2⟩
      case round =>
        clear HV HO2
        obtain ⟨j, hj, rfl, HV, HO⟩ := hrel
        by_cases hlj : j < i
        · obtain ⟨x0, hx0, c3⟩ := row_slot (j := j) HO (by simpa using hlj)
          have f3 := HO.out.frozenAt j
          obtain ⟨c0, c1, c2⟩ := HV.out.cells
          have hx1 : x0 = V j := by simpa [hlj] using hx0.symm
          have hb3 : -50000000000000 ≤ x0 ∧ x0 ≤ 50000000000000 := by rw [hx1]; exact BV.out j
          have hpz : ¬ p = 0 := by omega
          have hrg := tmod_range (x := x0) (show 0 < p by omega)
          obtain ⟨t, ht⟩ : ∃ t, t = x0.tmod p := ⟨_, rfl⟩
          rw [← ht] at hrg
          have hw1 : x0.tmod p = t := ht.symm
          have hw2 : IntKind.i64.wrap t = t := IntWalk.i64_in _ (by omega)
          have hw3 : IntKind.i64.wrap (t + p) = t + p := IntWalk.i64_in _ (by omega)
          have hm2 : (t + p).tmod p = (t + p) % p := Int.tmod_eq_emod_of_nonneg (by omega)
          have hr0 := Int.emod_nonneg (t + p) (show p ≠ 0 by omega)
          have hr1 := Int.emod_lt_of_pos (t + p) (show 0 < p by omega)
          have hw4 : IntKind.i64.wrap ((t + p) % p) = (t + p) % p := IntWalk.i64_in _ (by omega)
          have HT : Hid (t % p = V j % p) := Lib.hid (by rw [← Int.add_emod_right, ht, tmod_norm (by omega), hx1])
          have HS : Hid ((wr.setCell ⟨w.heap.size + 1, j, none⟩ (.int .i64 (t % p))).drew.ownsRow B 3 1 (.slice (some ⟨w.heap.size + 1, 0, none⟩) i i) i (ints ((List.range i).map fun c => if c < j + 1 then V c % p else V c))) := by
            have h0 : wr.ownsRow B 3 1 (.slice (some ⟨w.heap.size + 1, 0, none⟩) i i) i (ints ((List.range i).map fun c => if c < j then V c % p else V c)) := HO.out
            have h := (h0.stored j (.int .i64 (t % p))).1
            rw [← ints_set, HT.out, mapRange_set (g := fun c => if c < j + 1 then V c % p else V c) (by simp) (fun d hd hne => by
              by_cases h5 : d < j
              · rw [if_pos h5, if_pos (by omega)]
              · rw [if_neg h5, if_neg (by omega)]), ← HT.out] at h
            exact h
          clear hx0 hx1 ht hr0 hr1
          go_wp2
          go_still_tail 16, (by kernel_rfl)
          change wpList _ _ _ _ _ wr.drew
          go_wp2
          go_roundw
          case rel => exact ⟨j + 1, by omega, by go_num, Lib.hid (HV.out.set (q := ⟨w.heap.size + 1, j, none⟩) (by simp) (by simp) _).drew, HS⟩
          case measure => simp [intOf]; omega
        · obtain rfl : j = i := by omega
          go_wp2
          go_ret
          refine ⟨_, rfl, Own.of (n := j) ?_ (by simp), HV.out.1⟩
          have h := HO.out
          rw [HB.out, mapRange_congr (g := fun c => convC j om (fun i => xs.getD i 0) (fun i => ys.getD i 0) c % p) (fun d hd => by rw [if_pos hd, HVV.out, FX.out, FY.out])] at h
          exact h
end Go.Proofs.Ytdheakjjnaifkaa
namespace Go.Proofs.Ytdheakjjnaifkaa
set_option maxRecDepth 20000
open Go.RowKit

theorem new_one {w W : World} {v : Int} (hb : Below w.heap.size w W) : NewRow w [v] (.returned (.slice (some ⟨W.heap.size, 0, none⟩) 1 1)) (W.alloc (.cells #[.int .i64 v] 3)) :=
  ⟨_, rfl, Own.of (n := 1) (World.ownsRow_lit (base := w.heap.size) (e := 3) (size := 1) W #[.int .i64 v] 1 hb.size (by unfold maxLen; omega) rfl) rfl, hb.alloc hb.size _⟩

set_option maxHeartbeats 1600000 in
set_option maxRecDepth 100000 in
theorem times_k1 (bx ox by_ oy cx cy : Nat) (p n a b : Int) (w : World) (hbx : bx < w.heap.size) (hby : by_ < w.heap.size) (hx : w.cell? ⟨bx, ox, none⟩ = some (.int .i64 a)) (hy : w.cell? ⟨by_, oy, none⟩ = some (.int .i64 b))   :
    Calls Try.prog 64 #[ringV 1 p n, .slice (some ⟨bx, ox, none⟩) 1 cx, .slice (some ⟨by_, oy, none⟩) 1 cy] w (NewRow w [bits .and .i64 a b]) := by
  obtain ⟨c0, c1, c2⟩ := BoxAt.new w 1 p n 30
  have HB := Lib.hid (((Below.refl w.heap.size w).alloc (Nat.le_refl _) (.cells #[.int .i64 1, .int .i64 p, .int .i64 n] 30)).drew)
  have d1 : (w.alloc (.cells #[.int .i64 1, .int .i64 p, .int .i64 n] 30)).cell? ⟨bx, ox, none⟩ = some (.int .i64 a) := (HB.out.cell (p := ⟨bx, ox, none⟩) hbx).trans hx
  have d2 : (w.alloc (.cells #[.int .i64 1, .int .i64 p, .int .i64 n] 30)).cell? ⟨by_, oy, none⟩ = some (.int .i64 b) := (HB.out.cell (p := ⟨by_, oy, none⟩) hby).trans hy
  have hFACTS := (⟨c0, c1, c2, d1, d2⟩ : _ ∧ _ ∧ _ ∧ _ ∧ _)
  clear c0 c1 c2 d1 d2
  have HFA := Lib.hid hFACTS
  clear hFACTS
  go_enter Try.func64, Try.ntmps64
  go_wp2
  generalize hW : w.alloc (Obj.cells #[.int .i64 1, .int .i64 p, .int .i64 n] 30) = W at HB HFA ⊢
  obtain ⟨c0, c1, c2, d1, d2⟩ := HFA.out
  clear hW hx hy
  go_still_tail 7, (by kernel_rfl)
  change wpList _ _ _ _ _ W.drew
  generalize hw2 : W.drew = w2 at HB ⊢
  clear hw2 c0 c1 c2 d1 d2
  go_wp2
  go_ret
  exact new_one HB.out

set_option maxHeartbeats 1600000 in
set_option maxRecDepth 100000 in
theorem times_k6 (bx ox by_ oy cx cy : Nat) (p n a b : Int) (w : World) (hbx : bx < w.heap.size) (hby : by_ < w.heap.size) (hx : w.cell? ⟨bx, ox, none⟩ = some (.int .i64 a)) (hy : w.cell? ⟨by_, oy, none⟩ = some (.int .i64 b))   :
    Calls Try.prog 64 #[ringV 6 p n, .slice (some ⟨bx, ox, none⟩) 1 cx, .slice (some ⟨by_, oy, none⟩) 1 cy] w (NewRow w [bits .and .i64 a b]) := by
  obtain ⟨c0, c1, c2⟩ := BoxAt.new w 6 p n 30
  have HB := Lib.hid (((Below.refl w.heap.size w).alloc (Nat.le_refl _) (.cells #[.int .i64 6, .int .i64 p, .int .i64 n] 30)).drew)
  have d1 : (w.alloc (.cells #[.int .i64 6, .int .i64 p, .int .i64 n] 30)).cell? ⟨bx, ox, none⟩ = some (.int .i64 a) := (HB.out.cell (p := ⟨bx, ox, none⟩) hbx).trans hx
  have d2 : (w.alloc (.cells #[.int .i64 6, .int .i64 p, .int .i64 n] 30)).cell? ⟨by_, oy, none⟩ = some (.int .i64 b) := (HB.out.cell (p := ⟨by_, oy, none⟩) hby).trans hy
  have hFACTS := (⟨c0, c1, c2, d1, d2⟩ : _ ∧ _ ∧ _ ∧ _ ∧ _)
  clear c0 c1 c2 d1 d2
  have HFA := Lib.hid hFACTS
  clear hFACTS
  go_enter Try.func64, Try.ntmps64
  go_wp2
  generalize hW : w.alloc (Obj.cells #[.int .i64 6, .int .i64 p, .int .i64 n] 30) = W at HB HFA ⊢
  obtain ⟨c0, c1, c2, d1, d2⟩ := HFA.out
  clear hW hx hy
  go_still_tail 7, (by kernel_rfl)
  change wpList _ _ _ _ _ W.drew
  generalize hw2 : W.drew = w2 at HB ⊢
  clear hw2 c0 c1 c2 d1 d2
  go_wp2
  go_ret
  exact new_one HB.out

set_option maxHeartbeats 1600000 in
set_option maxRecDepth 100000 in
theorem times_k3a (bx ox by_ oy cx cy : Nat) (p n a b : Int) (w : World) (hbx : bx < w.heap.size) (hby : by_ < w.heap.size) (hx : w.cell? ⟨bx, ox, none⟩ = some (.int .i64 a)) (hy : w.cell? ⟨by_, oy, none⟩ = some (.int .i64 b)) (ha : 0 ≤ a) (ha2 : a ≤ 1048576) (hb : 0 ≤ b) (hb2 : b ≤ 1048576) (ab : Int) (hab : a * b = ab) (hc : p < ab) :
    Calls Try.prog 64 #[ringV 3 p n, .slice (some ⟨bx, ox, none⟩) 1 cx, .slice (some ⟨by_, oy, none⟩) 1 cy] w (NewRow w [p]) := by
  obtain ⟨c0, c1, c2⟩ := BoxAt.new w 3 p n 30
  have HB := Lib.hid (((Below.refl w.heap.size w).alloc (Nat.le_refl _) (.cells #[.int .i64 3, .int .i64 p, .int .i64 n] 30)).drew)
  have d1 : (w.alloc (.cells #[.int .i64 3, .int .i64 p, .int .i64 n] 30)).cell? ⟨bx, ox, none⟩ = some (.int .i64 a) := (HB.out.cell (p := ⟨bx, ox, none⟩) hbx).trans hx
  have d2 : (w.alloc (.cells #[.int .i64 3, .int .i64 p, .int .i64 n] 30)).cell? ⟨by_, oy, none⟩ = some (.int .i64 b) := (HB.out.cell (p := ⟨by_, oy, none⟩) hby).trans hy
  have hbd : 0 ≤ ab ∧ ab ≤ 1099511627776 := by rw [← hab]; exact mul_small ha ha2 hb hb2
  have hmul : IntKind.i64.wrap (a * b) = ab := by rw [hab]; exact IntWalk.i64_in _ (by omega)
  have hd : decide (p < ab) = true := by simp; omega
  clear hab
  have hFACTS := (⟨c0, c1, c2, d1, d2⟩ : _ ∧ _ ∧ _ ∧ _ ∧ _)
  clear c0 c1 c2 d1 d2
  have HFA := Lib.hid hFACTS
  clear hFACTS
  go_enter Try.func64, Try.ntmps64
  go_wp2
  generalize hW : w.alloc (Obj.cells #[.int .i64 3, .int .i64 p, .int .i64 n] 30) = W at HB HFA ⊢
  obtain ⟨c0, c1, c2, d1, d2⟩ := HFA.out
  clear hW hx hy
  go_still_tail 10, (by kernel_rfl)
  change wpList _ _ _ _ _ W.drew
  generalize hw2 : W.drew = w2 at HB ⊢
  clear hw2 c0 c1 c2 d1 d2
  go_wp2
  go_ret
  exact new_one HB.out

set_option maxHeartbeats 1600000 in
set_option maxRecDepth 100000 in
theorem times_k3b (bx ox by_ oy cx cy : Nat) (p n a b : Int) (w : World) (hbx : bx < w.heap.size) (hby : by_ < w.heap.size) (hx : w.cell? ⟨bx, ox, none⟩ = some (.int .i64 a)) (hy : w.cell? ⟨by_, oy, none⟩ = some (.int .i64 b)) (ha : 0 ≤ a) (ha2 : a ≤ 1048576) (hb : 0 ≤ b) (hb2 : b ≤ 1048576) (ab : Int) (hab : a * b = ab) (hc : ab ≤ p) :
    Calls Try.prog 64 #[ringV 3 p n, .slice (some ⟨bx, ox, none⟩) 1 cx, .slice (some ⟨by_, oy, none⟩) 1 cy] w (NewRow w [ab]) := by
  obtain ⟨c0, c1, c2⟩ := BoxAt.new w 3 p n 30
  have HB := Lib.hid (((Below.refl w.heap.size w).alloc (Nat.le_refl _) (.cells #[.int .i64 3, .int .i64 p, .int .i64 n] 30)).drew)
  have d1 : (w.alloc (.cells #[.int .i64 3, .int .i64 p, .int .i64 n] 30)).cell? ⟨bx, ox, none⟩ = some (.int .i64 a) := (HB.out.cell (p := ⟨bx, ox, none⟩) hbx).trans hx
  have d2 : (w.alloc (.cells #[.int .i64 3, .int .i64 p, .int .i64 n] 30)).cell? ⟨by_, oy, none⟩ = some (.int .i64 b) := (HB.out.cell (p := ⟨by_, oy, none⟩) hby).trans hy
  have hbd : 0 ≤ ab ∧ ab ≤ 1099511627776 := by rw [← hab]; exact mul_small ha ha2 hb hb2
  have hmul : IntKind.i64.wrap (a * b) = ab := by rw [hab]; exact IntWalk.i64_in _ (by omega)
  have hd : decide (p < ab) = false := by simp; omega
  clear hab
  have hFACTS := (⟨c0, c1, c2, d1, d2⟩ : _ ∧ _ ∧ _ ∧ _ ∧ _)
  clear c0 c1 c2 d1 d2
  have HFA := Lib.hid hFACTS
  clear hFACTS
  go_enter Try.func64, Try.ntmps64
  go_wp2
  generalize hW : w.alloc (Obj.cells #[.int .i64 3, .int .i64 p, .int .i64 n] 30) = W at HB HFA ⊢
  obtain ⟨c0, c1, c2, d1, d2⟩ := HFA.out
  clear hW hx hy
  go_still_tail 10, (by kernel_rfl)
  change wpList _ _ _ _ _ W.drew
  generalize hw2 : W.drew = w2 at HB ⊢
  clear hw2 c0 c1 c2 d1 d2
  go_wp2
  go_ret
  exact new_one HB.out

set_option maxHeartbeats 1600000 in
set_option maxRecDepth 100000 in
theorem times_k4a (bx ox by_ oy cx cy : Nat) (p n a b : Int) (w : World) (hbx : bx < w.heap.size) (hby : by_ < w.heap.size) (hx : w.cell? ⟨bx, ox, none⟩ = some (.int .i64 a)) (hy : w.cell? ⟨by_, oy, none⟩ = some (.int .i64 b)) (ha : 0 ≤ a) (ha2 : a ≤ 1048576) (hb : 0 ≤ b) (hb2 : b ≤ 1048576) (hc : p < a + b) :
    Calls Try.prog 64 #[ringV 4 p n, .slice (some ⟨bx, ox, none⟩) 1 cx, .slice (some ⟨by_, oy, none⟩) 1 cy] w (NewRow w [p]) := by
  obtain ⟨c0, c1, c2⟩ := BoxAt.new w 4 p n 30
  have HB := Lib.hid (((Below.refl w.heap.size w).alloc (Nat.le_refl _) (.cells #[.int .i64 4, .int .i64 p, .int .i64 n] 30)).drew)
  have d1 : (w.alloc (.cells #[.int .i64 4, .int .i64 p, .int .i64 n] 30)).cell? ⟨bx, ox, none⟩ = some (.int .i64 a) := (HB.out.cell (p := ⟨bx, ox, none⟩) hbx).trans hx
  have d2 : (w.alloc (.cells #[.int .i64 4, .int .i64 p, .int .i64 n] 30)).cell? ⟨by_, oy, none⟩ = some (.int .i64 b) := (HB.out.cell (p := ⟨by_, oy, none⟩) hby).trans hy
  have hw : IntKind.i64.wrap (a + b) = a + b := IntWalk.i64_in _ (by omega)
  have hd : decide (p < a + b) = true := by simp; omega
  have hFACTS := (⟨c0, c1, c2, d1, d2⟩ : _ ∧ _ ∧ _ ∧ _ ∧ _)
  clear c0 c1 c2 d1 d2
  have HFA := Lib.hid hFACTS
  clear hFACTS
  go_enter Try.func64, Try.ntmps64
  go_wp2
  generalize hW : w.alloc (Obj.cells #[.int .i64 4, .int .i64 p, .int .i64 n] 30) = W at HB HFA ⊢
  obtain ⟨c0, c1, c2, d1, d2⟩ := HFA.out
  clear hW hx hy
  go_still_tail 10, (by kernel_rfl)
  change wpList _ _ _ _ _ W.drew
  generalize hw2 : W.drew = w2 at HB ⊢
  clear hw2 c0 c1 c2 d1 d2
  go_wp2
  go_ret
  exact new_one HB.out

set_option maxHeartbeats 1600000 in
set_option maxRecDepth 100000 in
theorem times_k4b (bx ox by_ oy cx cy : Nat) (p n a b : Int) (w : World) (hbx : bx < w.heap.size) (hby : by_ < w.heap.size) (hx : w.cell? ⟨bx, ox, none⟩ = some (.int .i64 a)) (hy : w.cell? ⟨by_, oy, none⟩ = some (.int .i64 b)) (ha : 0 ≤ a) (ha2 : a ≤ 1048576) (hb : 0 ≤ b) (hb2 : b ≤ 1048576) (hc : a + b ≤ p) :
    Calls Try.prog 64 #[ringV 4 p n, .slice (some ⟨bx, ox, none⟩) 1 cx, .slice (some ⟨by_, oy, none⟩) 1 cy] w (NewRow w [a + b]) := by
  obtain ⟨c0, c1, c2⟩ := BoxAt.new w 4 p n 30
  have HB := Lib.hid (((Below.refl w.heap.size w).alloc (Nat.le_refl _) (.cells #[.int .i64 4, .int .i64 p, .int .i64 n] 30)).drew)
  have d1 : (w.alloc (.cells #[.int .i64 4, .int .i64 p, .int .i64 n] 30)).cell? ⟨bx, ox, none⟩ = some (.int .i64 a) := (HB.out.cell (p := ⟨bx, ox, none⟩) hbx).trans hx
  have d2 : (w.alloc (.cells #[.int .i64 4, .int .i64 p, .int .i64 n] 30)).cell? ⟨by_, oy, none⟩ = some (.int .i64 b) := (HB.out.cell (p := ⟨by_, oy, none⟩) hby).trans hy
  have hw : IntKind.i64.wrap (a + b) = a + b := IntWalk.i64_in _ (by omega)
  have hd : decide (p < a + b) = false := by simp; omega
  have hFACTS := (⟨c0, c1, c2, d1, d2⟩ : _ ∧ _ ∧ _ ∧ _ ∧ _)
  clear c0 c1 c2 d1 d2
  have HFA := Lib.hid hFACTS
  clear hFACTS
  go_enter Try.func64, Try.ntmps64
  go_wp2
  generalize hW : w.alloc (Obj.cells #[.int .i64 4, .int .i64 p, .int .i64 n] 30) = W at HB HFA ⊢
  obtain ⟨c0, c1, c2, d1, d2⟩ := HFA.out
  clear hW hx hy
  go_still_tail 10, (by kernel_rfl)
  change wpList _ _ _ _ _ W.drew
  generalize hw2 : W.drew = w2 at HB ⊢
  clear hw2 c0 c1 c2 d1 d2
  go_wp2
  go_ret
  exact new_one HB.out

set_option maxHeartbeats 1600000 in
set_option maxRecDepth 100000 in
theorem times_k5a (bx ox by_ oy cx cy : Nat) (p n a b : Int) (w : World) (hbx : bx < w.heap.size) (hby : by_ < w.heap.size) (hx : w.cell? ⟨bx, ox, none⟩ = some (.int .i64 a)) (hy : w.cell? ⟨by_, oy, none⟩ = some (.int .i64 b))  (hc : b < a) :
    Calls Try.prog 64 #[ringV 5 p n, .slice (some ⟨bx, ox, none⟩) 1 cx, .slice (some ⟨by_, oy, none⟩) 1 cy] w (NewRow w [b]) := by
  obtain ⟨c0, c1, c2⟩ := BoxAt.new w 5 p n 30
  have HB := Lib.hid (((Below.refl w.heap.size w).alloc (Nat.le_refl _) (.cells #[.int .i64 5, .int .i64 p, .int .i64 n] 30)).drew)
  have d1 : (w.alloc (.cells #[.int .i64 5, .int .i64 p, .int .i64 n] 30)).cell? ⟨bx, ox, none⟩ = some (.int .i64 a) := (HB.out.cell (p := ⟨bx, ox, none⟩) hbx).trans hx
  have d2 : (w.alloc (.cells #[.int .i64 5, .int .i64 p, .int .i64 n] 30)).cell? ⟨by_, oy, none⟩ = some (.int .i64 b) := (HB.out.cell (p := ⟨by_, oy, none⟩) hby).trans hy
  have hd : decide (b < a) = true := by simp; omega
  have hFACTS := (⟨c0, c1, c2, d1, d2⟩ : _ ∧ _ ∧ _ ∧ _ ∧ _)
  clear c0 c1 c2 d1 d2
  have HFA := Lib.hid hFACTS
  clear hFACTS
  go_enter Try.func64, Try.ntmps64
  go_wp2
  generalize hW : w.alloc (Obj.cells #[.int .i64 5, .int .i64 p, .int .i64 n] 30) = W at HB HFA ⊢
  obtain ⟨c0, c1, c2, d1, d2⟩ := HFA.out
  clear hW hx hy
  go_still_tail 7, (by kernel_rfl)
  change wpList _ _ _ _ _ W.drew
  generalize hw2 : W.drew = w2 at HB ⊢
  clear hw2 c0 c1 c2 d1 d2
  go_wp2
  go_ret
  exact new_one HB.out

set_option maxHeartbeats 1600000 in
set_option maxRecDepth 100000 in
theorem times_k5b (bx ox by_ oy cx cy : Nat) (p n a b : Int) (w : World) (hbx : bx < w.heap.size) (hby : by_ < w.heap.size) (hx : w.cell? ⟨bx, ox, none⟩ = some (.int .i64 a)) (hy : w.cell? ⟨by_, oy, none⟩ = some (.int .i64 b))  (hc : a ≤ b) :
    Calls Try.prog 64 #[ringV 5 p n, .slice (some ⟨bx, ox, none⟩) 1 cx, .slice (some ⟨by_, oy, none⟩) 1 cy] w (NewRow w [a]) := by
  obtain ⟨c0, c1, c2⟩ := BoxAt.new w 5 p n 30
  have HB := Lib.hid (((Below.refl w.heap.size w).alloc (Nat.le_refl _) (.cells #[.int .i64 5, .int .i64 p, .int .i64 n] 30)).drew)
  have d1 : (w.alloc (.cells #[.int .i64 5, .int .i64 p, .int .i64 n] 30)).cell? ⟨bx, ox, none⟩ = some (.int .i64 a) := (HB.out.cell (p := ⟨bx, ox, none⟩) hbx).trans hx
  have d2 : (w.alloc (.cells #[.int .i64 5, .int .i64 p, .int .i64 n] 30)).cell? ⟨by_, oy, none⟩ = some (.int .i64 b) := (HB.out.cell (p := ⟨by_, oy, none⟩) hby).trans hy
  have hd : decide (b < a) = false := by simp; omega
  have hFACTS := (⟨c0, c1, c2, d1, d2⟩ : _ ∧ _ ∧ _ ∧ _ ∧ _)
  clear c0 c1 c2 d1 d2
  have HFA := Lib.hid hFACTS
  clear hFACTS
  go_enter Try.func64, Try.ntmps64
  go_wp2
  generalize hW : w.alloc (Obj.cells #[.int .i64 5, .int .i64 p, .int .i64 n] 30) = W at HB HFA ⊢
  obtain ⟨c0, c1, c2, d1, d2⟩ := HFA.out
  clear hW hx hy
  go_still_tail 7, (by kernel_rfl)
  change wpList _ _ _ _ _ W.drew
  generalize hw2 : W.drew = w2 at HB ⊢
  clear hw2 c0 c1 c2 d1 d2
  go_wp2
  go_ret
  exact new_one HB.out

/-- (Ring).times on elements. -/
theorem times_impl_poly {B : Nat} {vx vy : Value} {k p n : Int} {xs ys : List Int} {w : World} (hr : ringB k p n = true) (hx : Rd B w vx (ints xs)) (hy : Rd B w vy (ints ys)) (hB : B ≤ w.heap.size) (ex : ElemV k p n xs) (ey : ElemV k p n ys) (hk : k = 2 ∨ k = 7 ∨ k = 8) :
    Calls Try.prog 96 #[ringV k p n, vx, vy] w (NewRow w (timesL k p xs ys)) := by
  have h1 := ring_width hr
  have h2 := ring_top hr
  have l1 := ex.1
  have l2 := ey.1
  have hl : ys.length = xs.length := by omega
  have hp := ring_cases hr
  have q1 : 1 ≤ xs.length := by omega
  have q2 : xs.length ≤ 6 := by omega
  have q3 : 1 ≤ p := by omega
  have q4 : p ≤ 1000003 := by omega
  have q5 : Within 1048576 xs := fun x hx => by have := ex.2 x hx; omega
  have q6 : Within 1048576 ys := fun x hx => by have := ey.2 x hx; omega
  have e : timesL k p xs ys = (List.range xs.length).map fun c => convC xs.length (k == 8) (fun i => xs.getD i 0) (fun i => ys.getD i 0) c % p := by
    unfold timesL
    rw [if_neg (by omega), if_neg (by omega), if_neg (by omega), if_neg (by omega)]
  rw [e]
  obtain ⟨ax, cx, rfl, hax⟩ := ints_form hx
  obtain ⟨ay, cy, rfl, hay⟩ := ints_form hy
  rw [hl]
  exact poly_impl_full ax ay cx cy xs.length B k p n xs ys w rfl hl q1 q2 hB q5 q6 (k == 8) rfl q3 q4 hax (fun h => hay (hl ▸ h))
set_option maxHeartbeats 400000 in
theorem times_impl_high {B : Nat} {vx vy : Value} {k p n : Int} {xs ys : List Int} {w : World} (hr : ringB k p n = true) (hx : Rd B w vx (ints xs)) (hy : Rd B w vy (ints ys)) (hB : B ≤ w.heap.size) (ex : ElemV k p n xs) (ey : ElemV k p n ys) (hk : k = 2 ∨ k = 7 ∨ k = 8) :
    Calls Try.prog 64 #[ringV k p n, vx, vy] w (NewRow w (timesL k p xs ys)) := by
  have HX := Lib.hid hx
  have HY := Lib.hid hy
  have HR := Lib.hid hr
  have EX := Lib.hid ex
  have EY := Lib.hid ey
  have HK := Lib.hid hk
  obtain ⟨r, hres⟩ : ∃ r, r = timesL k p xs ys := ⟨_, rfl⟩
  rw [← hres]
  have HE := Lib.hid hres
  have e1 : (k == 1) = false := by simp; omega
  have e3 : (k == 3) = false := by simp; omega
  have e4 : (k == 4) = false := by simp; omega
  have e5 : (k == 5) = false := by simp; omega
  have e6 : (k == 6) = false := by simp; omega
  have HV1 := Lib.hid (Inv.box w k p n 30)
  clear hx hy hr ex ey hk hres
  go_enter Try.func64, Try.ntmps64
  go_wp2_with fail
  refine (times_impl_poly HR.out (HX.out.below HV1.out.1 hB) (HY.out.below HV1.out.1 hB) (Nat.le_trans hB HV1.out.1.size) EX.out EY.out HK.out).mono ?_
  rw [← HE.out]
  intro e w2 h2
  obtain ⟨v, rfl, ho, hb⟩ := NewRow.after HV1.out.1 h2
  clear h2
  have HO := Lib.hid ho
  have HB := Lib.hid hb
  clear ho hb
  go_wp2
  go_ret
  exact ⟨v, rfl, HO.out, HB.out⟩
theorem rd_one {B : Nat} {w : World} {v : Value} {xs : List Int} (h : Rd B w v (ints xs)) (hl : xs.length = 1) (hB : B ≤ w.heap.size) : ∃ b o c, v = .slice (some ⟨b, o, none⟩) 1 c ∧ b < w.heap.size ∧ w.cell? ⟨b, o, none⟩ = some (.int .i64 (xs.getD 0 0)) := by
  rcases h.ints_cases with ⟨rfl, _⟩ | ⟨b, off, ca, rfl, hlt, -, hc⟩
  · simp at hl
  · have h0 : 0 < xs.length := by rw [hl]; exact Nat.zero_lt_one
    exact ⟨b, off, ca, by rw [hl], Nat.lt_of_lt_of_le hlt hB, by have := hc 0 h0; rw [List.getD_eq_getElem?_getD, List.getElem?_eq_getElem h0]; simpa using this⟩
/-- (Ring).times on elements. -/
theorem times_impl {B : Nat} {vx vy : Value} {k p n : Int} {xs ys : List Int} {w : World} (hr : ringB k p n = true) (hx : Rd B w vx (ints xs)) (hy : Rd B w vy (ints ys)) (hB : B ≤ w.heap.size) (ex : ElemV k p n xs) (ey : ElemV k p n ys) :
    Calls Try.prog 64 #[ringV k p n, vx, vy] w (NewRow w (timesL k p xs ys)) := by
  by_cases hk : k = 2 ∨ k = 7 ∨ k = 8
  · exact times_impl_high hr hx hy hB ex ey hk
  have h2 := ring_top hr
  have hc := ring_cases hr
  have hwd : widthI k n = 1 := by unfold widthI; rw [if_neg (by omega), if_neg (by omega)]
  have l1 := ex.1
  have l2 := ey.1
  have q1 : xs.length = 1 := by omega
  have q2 : ys.length = 1 := by omega
  obtain ⟨bx, ox, cx, rfl, hbx, hcx⟩ := rd_one hx q1 hB
  obtain ⟨by_, oy, cy, rfl, hby, hcy⟩ := rd_one hy q2 hB
  have g1 := ex.2.getD (by omega) 0
  have g2 := ey.2.getD (by omega) 0
  generalize hga : xs.getD 0 0 = a at *
  generalize hgb : ys.getD 0 0 = b at *
  unfold timesL
  rw [hga, hgb]
  rcases hc with ⟨rfl, g⟩ | ⟨rfl, g⟩ | ⟨rfl, g⟩ | ⟨rfl, g⟩ | ⟨rfl, g⟩ | ⟨rfl, g⟩ | ⟨rfl, g⟩ | ⟨rfl, g⟩
  · exact times_k1 bx ox by_ oy cx cy p n a b w hbx hby hcx hcy
  · exact absurd (.inl rfl) hk
  · rw [if_neg (by omega), if_pos rfl]
    by_cases hq : p < a * b
    · rw [show min (a * b) p = p from by omega]
      exact times_k3a bx ox by_ oy cx cy p n a b w hbx hby hcx hcy g1.1 (by omega) g2.1 (by omega) (a * b) rfl hq
    · rw [show min (a * b) p = a * b from by omega]
      exact times_k3b bx ox by_ oy cx cy p n a b w hbx hby hcx hcy g1.1 (by omega) g2.1 (by omega) (a * b) rfl (by omega)
  · rw [if_neg (by omega), if_neg (by omega), if_pos rfl]
    by_cases hq : p < a + b
    · rw [show min (a + b) p = p from by omega]
      exact times_k4a bx ox by_ oy cx cy p n a b w hbx hby hcx hcy g1.1 (by omega) g2.1 (by omega) hq
    · rw [show min (a + b) p = a + b from by omega]
      exact times_k4b bx ox by_ oy cx cy p n a b w hbx hby hcx hcy g1.1 (by omega) g2.1 (by omega) (by omega)
  · rw [if_neg (by omega), if_neg (by omega), if_neg (by omega), if_pos rfl]
    by_cases hq : b < a
    · rw [show min a b = b from by omega]
      exact times_k5a bx ox by_ oy cx cy p n a b w hbx hby hcx hcy hq
    · rw [show min a b = a from by omega]
      exact times_k5b bx ox by_ oy cx cy p n a b w hbx hby hcx hcy (by omega)
  · exact times_k6 bx ox by_ oy cx cy p n a b w hbx hby hcx hcy
  · exact absurd (.inr (.inl rfl)) hk
  · exact absurd (.inr (.inr rfl)) hk

end Go.Proofs.Ytdheakjjnaifkaa
namespace Go.Proofs.Ytdheakjjnaifkaa
set_option maxRecDepth 20000
open Go.RowKit

theorem store_one {w w2 : World} {B g : Nat} {v : Int} (hB : B = w.heap.size) (ho : w2.ownsRow B 3 1 (.slice (some ⟨g, 0, none⟩) 1 1) 1 (ints (zerosL 1))) (hb : Below w.heap.size w w2) (hg : w.heap.size ≤ g) : NewRow w [v] (.returned (.slice (some ⟨g, 0, none⟩) 1 1)) (w2.setCell ⟨g, 0, none⟩ (.int .i64 v)).drew :=
  ⟨_, rfl, Own.of (n := 1) (by
    have h := (ho.stored 0 (.int .i64 v)).1
    rw [← ints_set] at h
    rw [← hB]
    exact h) rfl, (hb.setCell hg _).drew⟩
theorem row_at {W : World} {w2 : World} {B g m : Nat} {xs : List Value} (h : w2.ownsRow B 3 1 (.slice (some ⟨(W.alloc (.cells xs.toArray 30)).heap.size, 0, none⟩) m m) m (ints (zerosL m))) (hg : g = W.heap.size + 1) : w2.ownsRow B 3 1 (.slice (some ⟨g, 0, none⟩) m m) m (ints (zerosL m)) := by
  rw [show (W.alloc (.cells xs.toArray 30)).heap.size = g from by rw [hg]; simp] at h
  exact h

set_option maxHeartbeats 1600000 in
set_option maxRecDepth 100000 in
theorem mul_k1 (bx ox by_ oy cx cy : Nat) (p n a b : Int) (w : World) (hbx : bx < w.heap.size) (hby : by_ < w.heap.size) (hx : w.cell? ⟨bx, ox, none⟩ = some (.int .i64 a)) (hy : w.cell? ⟨by_, oy, none⟩ = some (.int .i64 b))   :
    Calls Try.prog 89 #[ringV 1 p n, .slice (some ⟨bx, ox, none⟩) 1 cx, .slice (some ⟨by_, oy, none⟩) 1 cy] w (NewRow w [bits .and .i64 a b]) := by
  obtain ⟨B, hB⟩ : ∃ B, B = w.heap.size := ⟨_, rfl⟩
  have HB := Lib.hid hB
  obtain ⟨i0, hi, hz0, hz1, hz2⟩ := info_parts infoInt
  have HV1 := Lib.hid (Inv.box w 1 p n 30)
  have HX := Lib.hid hx
  have HY := Lib.hid hy
  clear hB hx hy
  go_enter Try.func89, Try.ntmps89
  go_wp2_with (at_make; refine wpList_make_full _ rfl _ _ 25 rfl B 3 i0 (.int .i64 0) 1 Try.underlying25 hi hz0 hz1 .i64 .i64 _ _ 1 rfl rfl rfl rfl (by rw [hz2]; omega) (by unfold maxLen; omega) (by rw [HB.out]; simp) ?_; intro w2 hown hgrow; obtain ⟨HV2, OW, hsz, f0, g1, d0, d1, d2⟩ := made_facts HV1 hown hgrow (by omega); clear hown hgrow hi hz0 hz1 hz2)
  have OW2 : Hid (w2.ownsRow B 3 1 (.slice (some ⟨w.heap.size + 1, 0, none⟩) 1 1) 1 (ints (zerosL 1))) := Lib.hid (row_at (xs := [.int .i64 1, .int .i64 p, .int .i64 n]) OW.out rfl)
  have e1 : w2.cell? ⟨bx, ox, none⟩ = some (.int .i64 a) := (HV2.out.1.cell (p := ⟨bx, ox, none⟩) hbx).trans HX.out
  have e2 : w2.cell? ⟨by_, oy, none⟩ = some (.int .i64 b) := (HV2.out.1.cell (p := ⟨by_, oy, none⟩) hby).trans HY.out
  have hz : (w.alloc (.cells #[.int .i64 1, .int .i64 p, .int .i64 n] 30)).heap.size = w.heap.size + 1 := by simp
  have f1 := OW2.out.frozenAt 0
  have g2 : w2.cell? ⟨w.heap.size + 1, 0, none⟩ = some (.int .i64 0) := by rw [OW2.out.cellAt 0 (by omega)]; rfl
  clear OW f0 g1 hsz HV1 hz
  go_still_tail 9, (by kernel_rfl)
  change wpList _ _ _ _ _ w2.drew
  go_wp2
  go_ret
  exact store_one HB.out OW2.out HV2.out.1 (by simp)

set_option maxHeartbeats 1600000 in
set_option maxRecDepth 100000 in
theorem mul_k6 (bx ox by_ oy cx cy : Nat) (p n a b : Int) (w : World) (hbx : bx < w.heap.size) (hby : by_ < w.heap.size) (hx : w.cell? ⟨bx, ox, none⟩ = some (.int .i64 a)) (hy : w.cell? ⟨by_, oy, none⟩ = some (.int .i64 b))   :
    Calls Try.prog 89 #[ringV 6 p n, .slice (some ⟨bx, ox, none⟩) 1 cx, .slice (some ⟨by_, oy, none⟩) 1 cy] w (NewRow w [bits .and .i64 a b]) := by
  obtain ⟨B, hB⟩ : ∃ B, B = w.heap.size := ⟨_, rfl⟩
  have HB := Lib.hid hB
  obtain ⟨i0, hi, hz0, hz1, hz2⟩ := info_parts infoInt
  have HV1 := Lib.hid (Inv.box w 6 p n 30)
  have HX := Lib.hid hx
  have HY := Lib.hid hy
  clear hB hx hy
  go_enter Try.func89, Try.ntmps89
  go_wp2_with (at_make; refine wpList_make_full _ rfl _ _ 25 rfl B 3 i0 (.int .i64 0) 1 Try.underlying25 hi hz0 hz1 .i64 .i64 _ _ 1 rfl rfl rfl rfl (by rw [hz2]; omega) (by unfold maxLen; omega) (by rw [HB.out]; simp) ?_; intro w2 hown hgrow; obtain ⟨HV2, OW, hsz, f0, g1, d0, d1, d2⟩ := made_facts HV1 hown hgrow (by omega); clear hown hgrow hi hz0 hz1 hz2)
  have OW2 : Hid (w2.ownsRow B 3 1 (.slice (some ⟨w.heap.size + 1, 0, none⟩) 1 1) 1 (ints (zerosL 1))) := Lib.hid (row_at (xs := [.int .i64 6, .int .i64 p, .int .i64 n]) OW.out rfl)
  have e1 : w2.cell? ⟨bx, ox, none⟩ = some (.int .i64 a) := (HV2.out.1.cell (p := ⟨bx, ox, none⟩) hbx).trans HX.out
  have e2 : w2.cell? ⟨by_, oy, none⟩ = some (.int .i64 b) := (HV2.out.1.cell (p := ⟨by_, oy, none⟩) hby).trans HY.out
  have hz : (w.alloc (.cells #[.int .i64 6, .int .i64 p, .int .i64 n] 30)).heap.size = w.heap.size + 1 := by simp
  have f1 := OW2.out.frozenAt 0
  have g2 : w2.cell? ⟨w.heap.size + 1, 0, none⟩ = some (.int .i64 0) := by rw [OW2.out.cellAt 0 (by omega)]; rfl
  clear OW f0 g1 hsz HV1 hz
  go_still_tail 9, (by kernel_rfl)
  change wpList _ _ _ _ _ w2.drew
  go_wp2
  go_ret
  exact store_one HB.out OW2.out HV2.out.1 (by simp)

set_option maxHeartbeats 1600000 in
set_option maxRecDepth 100000 in
theorem mul_k2 (bx ox by_ oy cx cy : Nat) (p n a b : Int) (w : World) (hbx : bx < w.heap.size) (hby : by_ < w.heap.size) (hx : w.cell? ⟨bx, ox, none⟩ = some (.int .i64 a)) (hy : w.cell? ⟨by_, oy, none⟩ = some (.int .i64 b)) (ha : 0 ≤ a) (ha2 : a ≤ 1048576) (hb : 0 ≤ b) (hb2 : b ≤ 1048576) (ab : Int) (hab : a * b = ab) (hp1 : 2 ≤ p) (hp2 : p ≤ 1000003) :
    Calls Try.prog 89 #[ringV 2 p n, .slice (some ⟨bx, ox, none⟩) 1 cx, .slice (some ⟨by_, oy, none⟩) 1 cy] w (NewRow w [ab % p]) := by
  obtain ⟨B, hB⟩ : ∃ B, B = w.heap.size := ⟨_, rfl⟩
  have HB := Lib.hid hB
  obtain ⟨i0, hi, hz0, hz1, hz2⟩ := info_parts infoInt
  have HV1 := Lib.hid (Inv.box w 2 p n 30)
  have HX := Lib.hid hx
  have HY := Lib.hid hy
  have hbd : 0 ≤ ab ∧ ab ≤ 1099511627776 := by rw [← hab]; exact mul_small ha ha2 hb hb2
  have hmul : IntKind.i64.wrap (a * b) = ab := by rw [hab]; exact IntWalk.i64_in _ (by omega)
  have hpz : ¬ p = 0 := by omega
  have hm2 : ab.tmod p = ab % p := Int.tmod_eq_emod_of_nonneg (by omega)
  have hr0 := Int.emod_nonneg ab (show p ≠ 0 by omega)
  have hr1 := Int.emod_lt_of_pos ab (show 0 < p by omega)
  have hw4 : IntKind.i64.wrap (ab % p) = ab % p := IntWalk.i64_in _ (by omega)
  clear hab
  clear hB hx hy
  go_enter Try.func89, Try.ntmps89
  go_wp2_with (at_make; refine wpList_make_full _ rfl _ _ 25 rfl B 3 i0 (.int .i64 0) 1 Try.underlying25 hi hz0 hz1 .i64 .i64 _ _ 1 rfl rfl rfl rfl (by rw [hz2]; omega) (by unfold maxLen; omega) (by rw [HB.out]; simp) ?_; intro w2 hown hgrow; obtain ⟨HV2, OW, hsz, f0, g1, d0, d1, d2⟩ := made_facts HV1 hown hgrow (by omega); clear hown hgrow hi hz0 hz1 hz2)
  have OW2 : Hid (w2.ownsRow B 3 1 (.slice (some ⟨w.heap.size + 1, 0, none⟩) 1 1) 1 (ints (zerosL 1))) := Lib.hid (row_at (xs := [.int .i64 2, .int .i64 p, .int .i64 n]) OW.out rfl)
  have e1 : w2.cell? ⟨bx, ox, none⟩ = some (.int .i64 a) := (HV2.out.1.cell (p := ⟨bx, ox, none⟩) hbx).trans HX.out
  have e2 : w2.cell? ⟨by_, oy, none⟩ = some (.int .i64 b) := (HV2.out.1.cell (p := ⟨by_, oy, none⟩) hby).trans HY.out
  have hz : (w.alloc (.cells #[.int .i64 2, .int .i64 p, .int .i64 n] 30)).heap.size = w.heap.size + 1 := by simp
  have f1 := OW2.out.frozenAt 0
  have g2 : w2.cell? ⟨w.heap.size + 1, 0, none⟩ = some (.int .i64 0) := by rw [OW2.out.cellAt 0 (by omega)]; rfl
  clear OW f0 g1 hsz HV1 hz
  go_still_tail 12, (by kernel_rfl)
  change wpList _ _ _ _ _ w2.drew
  go_wp2
  go_ret
  exact store_one HB.out OW2.out HV2.out.1 (by simp)

set_option maxHeartbeats 1600000 in
set_option maxRecDepth 100000 in
theorem mul_k3a (bx ox by_ oy cx cy : Nat) (p n a b : Int) (w : World) (hbx : bx < w.heap.size) (hby : by_ < w.heap.size) (hx : w.cell? ⟨bx, ox, none⟩ = some (.int .i64 a)) (hy : w.cell? ⟨by_, oy, none⟩ = some (.int .i64 b)) (ha : 0 ≤ a) (ha2 : a ≤ 1048576) (hb : 0 ≤ b) (hb2 : b ≤ 1048576) (ab : Int) (hab : a * b = ab) (hc : p < ab) :
    Calls Try.prog 89 #[ringV 3 p n, .slice (some ⟨bx, ox, none⟩) 1 cx, .slice (some ⟨by_, oy, none⟩) 1 cy] w (NewRow w [p]) := by
  obtain ⟨B, hB⟩ : ∃ B, B = w.heap.size := ⟨_, rfl⟩
  have HB := Lib.hid hB
  obtain ⟨i0, hi, hz0, hz1, hz2⟩ := info_parts infoInt
  have HV1 := Lib.hid (Inv.box w 3 p n 30)
  have HX := Lib.hid hx
  have HY := Lib.hid hy
  have hbd : 0 ≤ ab ∧ ab ≤ 1099511627776 := by rw [← hab]; exact mul_small ha ha2 hb hb2
  have hmul : IntKind.i64.wrap (a * b) = ab := by rw [hab]; exact IntWalk.i64_in _ (by omega)
  have hd : decide (p < ab) = true := by simp; omega
  clear hab
  clear hB hx hy
  go_enter Try.func89, Try.ntmps89
  go_wp2_with (at_make; refine wpList_make_full _ rfl _ _ 25 rfl B 3 i0 (.int .i64 0) 1 Try.underlying25 hi hz0 hz1 .i64 .i64 _ _ 1 rfl rfl rfl rfl (by rw [hz2]; omega) (by unfold maxLen; omega) (by rw [HB.out]; simp) ?_; intro w2 hown hgrow; obtain ⟨HV2, OW, hsz, f0, g1, d0, d1, d2⟩ := made_facts HV1 hown hgrow (by omega); clear hown hgrow hi hz0 hz1 hz2)
  have OW2 : Hid (w2.ownsRow B 3 1 (.slice (some ⟨w.heap.size + 1, 0, none⟩) 1 1) 1 (ints (zerosL 1))) := Lib.hid (row_at (xs := [.int .i64 3, .int .i64 p, .int .i64 n]) OW.out rfl)
  have e1 : w2.cell? ⟨bx, ox, none⟩ = some (.int .i64 a) := (HV2.out.1.cell (p := ⟨bx, ox, none⟩) hbx).trans HX.out
  have e2 : w2.cell? ⟨by_, oy, none⟩ = some (.int .i64 b) := (HV2.out.1.cell (p := ⟨by_, oy, none⟩) hby).trans HY.out
  have hz : (w.alloc (.cells #[.int .i64 3, .int .i64 p, .int .i64 n] 30)).heap.size = w.heap.size + 1 := by simp
  have f1 := OW2.out.frozenAt 0
  have g2 : w2.cell? ⟨w.heap.size + 1, 0, none⟩ = some (.int .i64 0) := by rw [OW2.out.cellAt 0 (by omega)]; rfl
  clear OW f0 g1 hsz HV1 hz
  go_still_tail 12, (by kernel_rfl)
  change wpList _ _ _ _ _ w2.drew
  go_wp2
  go_ret
  exact store_one HB.out OW2.out HV2.out.1 (by simp)

set_option maxHeartbeats 1600000 in
set_option maxRecDepth 100000 in
theorem mul_k3b (bx ox by_ oy cx cy : Nat) (p n a b : Int) (w : World) (hbx : bx < w.heap.size) (hby : by_ < w.heap.size) (hx : w.cell? ⟨bx, ox, none⟩ = some (.int .i64 a)) (hy : w.cell? ⟨by_, oy, none⟩ = some (.int .i64 b)) (ha : 0 ≤ a) (ha2 : a ≤ 1048576) (hb : 0 ≤ b) (hb2 : b ≤ 1048576) (ab : Int) (hab : a * b = ab) (hc : ab ≤ p) :
    Calls Try.prog 89 #[ringV 3 p n, .slice (some ⟨bx, ox, none⟩) 1 cx, .slice (some ⟨by_, oy, none⟩) 1 cy] w (NewRow w [ab]) := by
  obtain ⟨B, hB⟩ : ∃ B, B = w.heap.size := ⟨_, rfl⟩
  have HB := Lib.hid hB
  obtain ⟨i0, hi, hz0, hz1, hz2⟩ := info_parts infoInt
  have HV1 := Lib.hid (Inv.box w 3 p n 30)
  have HX := Lib.hid hx
  have HY := Lib.hid hy
  have hbd : 0 ≤ ab ∧ ab ≤ 1099511627776 := by rw [← hab]; exact mul_small ha ha2 hb hb2
  have hmul : IntKind.i64.wrap (a * b) = ab := by rw [hab]; exact IntWalk.i64_in _ (by omega)
  have hd : decide (p < ab) = false := by simp; omega
  clear hab
  clear hB hx hy
  go_enter Try.func89, Try.ntmps89
  go_wp2_with (at_make; refine wpList_make_full _ rfl _ _ 25 rfl B 3 i0 (.int .i64 0) 1 Try.underlying25 hi hz0 hz1 .i64 .i64 _ _ 1 rfl rfl rfl rfl (by rw [hz2]; omega) (by unfold maxLen; omega) (by rw [HB.out]; simp) ?_; intro w2 hown hgrow; obtain ⟨HV2, OW, hsz, f0, g1, d0, d1, d2⟩ := made_facts HV1 hown hgrow (by omega); clear hown hgrow hi hz0 hz1 hz2)
  have OW2 : Hid (w2.ownsRow B 3 1 (.slice (some ⟨w.heap.size + 1, 0, none⟩) 1 1) 1 (ints (zerosL 1))) := Lib.hid (row_at (xs := [.int .i64 3, .int .i64 p, .int .i64 n]) OW.out rfl)
  have e1 : w2.cell? ⟨bx, ox, none⟩ = some (.int .i64 a) := (HV2.out.1.cell (p := ⟨bx, ox, none⟩) hbx).trans HX.out
  have e2 : w2.cell? ⟨by_, oy, none⟩ = some (.int .i64 b) := (HV2.out.1.cell (p := ⟨by_, oy, none⟩) hby).trans HY.out
  have hz : (w.alloc (.cells #[.int .i64 3, .int .i64 p, .int .i64 n] 30)).heap.size = w.heap.size + 1 := by simp
  have f1 := OW2.out.frozenAt 0
  have g2 : w2.cell? ⟨w.heap.size + 1, 0, none⟩ = some (.int .i64 0) := by rw [OW2.out.cellAt 0 (by omega)]; rfl
  clear OW f0 g1 hsz HV1 hz
  go_still_tail 12, (by kernel_rfl)
  change wpList _ _ _ _ _ w2.drew
  go_wp2
  go_ret
  exact store_one HB.out OW2.out HV2.out.1 (by simp)

set_option maxHeartbeats 1600000 in
set_option maxRecDepth 100000 in
theorem mul_k4a (bx ox by_ oy cx cy : Nat) (p n a b : Int) (w : World) (hbx : bx < w.heap.size) (hby : by_ < w.heap.size) (hx : w.cell? ⟨bx, ox, none⟩ = some (.int .i64 a)) (hy : w.cell? ⟨by_, oy, none⟩ = some (.int .i64 b)) (ha : 0 ≤ a) (ha2 : a ≤ 1048576) (hb : 0 ≤ b) (hb2 : b ≤ 1048576) (hc : p < a + b) :
    Calls Try.prog 89 #[ringV 4 p n, .slice (some ⟨bx, ox, none⟩) 1 cx, .slice (some ⟨by_, oy, none⟩) 1 cy] w (NewRow w [p]) := by
  obtain ⟨B, hB⟩ : ∃ B, B = w.heap.size := ⟨_, rfl⟩
  have HB := Lib.hid hB
  obtain ⟨i0, hi, hz0, hz1, hz2⟩ := info_parts infoInt
  have HV1 := Lib.hid (Inv.box w 4 p n 30)
  have HX := Lib.hid hx
  have HY := Lib.hid hy
  have hw : IntKind.i64.wrap (a + b) = a + b := IntWalk.i64_in _ (by omega)
  have hd : decide (p < a + b) = true := by simp; omega
  clear hB hx hy
  go_enter Try.func89, Try.ntmps89
  go_wp2_with (at_make; refine wpList_make_full _ rfl _ _ 25 rfl B 3 i0 (.int .i64 0) 1 Try.underlying25 hi hz0 hz1 .i64 .i64 _ _ 1 rfl rfl rfl rfl (by rw [hz2]; omega) (by unfold maxLen; omega) (by rw [HB.out]; simp) ?_; intro w2 hown hgrow; obtain ⟨HV2, OW, hsz, f0, g1, d0, d1, d2⟩ := made_facts HV1 hown hgrow (by omega); clear hown hgrow hi hz0 hz1 hz2)
  have OW2 : Hid (w2.ownsRow B 3 1 (.slice (some ⟨w.heap.size + 1, 0, none⟩) 1 1) 1 (ints (zerosL 1))) := Lib.hid (row_at (xs := [.int .i64 4, .int .i64 p, .int .i64 n]) OW.out rfl)
  have e1 : w2.cell? ⟨bx, ox, none⟩ = some (.int .i64 a) := (HV2.out.1.cell (p := ⟨bx, ox, none⟩) hbx).trans HX.out
  have e2 : w2.cell? ⟨by_, oy, none⟩ = some (.int .i64 b) := (HV2.out.1.cell (p := ⟨by_, oy, none⟩) hby).trans HY.out
  have hz : (w.alloc (.cells #[.int .i64 4, .int .i64 p, .int .i64 n] 30)).heap.size = w.heap.size + 1 := by simp
  have f1 := OW2.out.frozenAt 0
  have g2 : w2.cell? ⟨w.heap.size + 1, 0, none⟩ = some (.int .i64 0) := by rw [OW2.out.cellAt 0 (by omega)]; rfl
  clear OW f0 g1 hsz HV1 hz
  go_still_tail 12, (by kernel_rfl)
  change wpList _ _ _ _ _ w2.drew
  go_wp2
  go_ret
  exact store_one HB.out OW2.out HV2.out.1 (by simp)

set_option maxHeartbeats 1600000 in
set_option maxRecDepth 100000 in
theorem mul_k4b (bx ox by_ oy cx cy : Nat) (p n a b : Int) (w : World) (hbx : bx < w.heap.size) (hby : by_ < w.heap.size) (hx : w.cell? ⟨bx, ox, none⟩ = some (.int .i64 a)) (hy : w.cell? ⟨by_, oy, none⟩ = some (.int .i64 b)) (ha : 0 ≤ a) (ha2 : a ≤ 1048576) (hb : 0 ≤ b) (hb2 : b ≤ 1048576) (hc : a + b ≤ p) :
    Calls Try.prog 89 #[ringV 4 p n, .slice (some ⟨bx, ox, none⟩) 1 cx, .slice (some ⟨by_, oy, none⟩) 1 cy] w (NewRow w [a + b]) := by
  obtain ⟨B, hB⟩ : ∃ B, B = w.heap.size := ⟨_, rfl⟩
  have HB := Lib.hid hB
  obtain ⟨i0, hi, hz0, hz1, hz2⟩ := info_parts infoInt
  have HV1 := Lib.hid (Inv.box w 4 p n 30)
  have HX := Lib.hid hx
  have HY := Lib.hid hy
  have hw : IntKind.i64.wrap (a + b) = a + b := IntWalk.i64_in _ (by omega)
  have hd : decide (p < a + b) = false := by simp; omega
  clear hB hx hy
  go_enter Try.func89, Try.ntmps89
  go_wp2_with (at_make; refine wpList_make_full _ rfl _ _ 25 rfl B 3 i0 (.int .i64 0) 1 Try.underlying25 hi hz0 hz1 .i64 .i64 _ _ 1 rfl rfl rfl rfl (by rw [hz2]; omega) (by unfold maxLen; omega) (by rw [HB.out]; simp) ?_; intro w2 hown hgrow; obtain ⟨HV2, OW, hsz, f0, g1, d0, d1, d2⟩ := made_facts HV1 hown hgrow (by omega); clear hown hgrow hi hz0 hz1 hz2)
  have OW2 : Hid (w2.ownsRow B 3 1 (.slice (some ⟨w.heap.size + 1, 0, none⟩) 1 1) 1 (ints (zerosL 1))) := Lib.hid (row_at (xs := [.int .i64 4, .int .i64 p, .int .i64 n]) OW.out rfl)
  have e1 : w2.cell? ⟨bx, ox, none⟩ = some (.int .i64 a) := (HV2.out.1.cell (p := ⟨bx, ox, none⟩) hbx).trans HX.out
  have e2 : w2.cell? ⟨by_, oy, none⟩ = some (.int .i64 b) := (HV2.out.1.cell (p := ⟨by_, oy, none⟩) hby).trans HY.out
  have hz : (w.alloc (.cells #[.int .i64 4, .int .i64 p, .int .i64 n] 30)).heap.size = w.heap.size + 1 := by simp
  have f1 := OW2.out.frozenAt 0
  have g2 : w2.cell? ⟨w.heap.size + 1, 0, none⟩ = some (.int .i64 0) := by rw [OW2.out.cellAt 0 (by omega)]; rfl
  clear OW f0 g1 hsz HV1 hz
  go_still_tail 12, (by kernel_rfl)
  change wpList _ _ _ _ _ w2.drew
  go_wp2
  go_ret
  exact store_one HB.out OW2.out HV2.out.1 (by simp)

set_option maxHeartbeats 1600000 in
set_option maxRecDepth 100000 in
theorem mul_k5a (bx ox by_ oy cx cy : Nat) (p n a b : Int) (w : World) (hbx : bx < w.heap.size) (hby : by_ < w.heap.size) (hx : w.cell? ⟨bx, ox, none⟩ = some (.int .i64 a)) (hy : w.cell? ⟨by_, oy, none⟩ = some (.int .i64 b))  (hc : b < a) :
    Calls Try.prog 89 #[ringV 5 p n, .slice (some ⟨bx, ox, none⟩) 1 cx, .slice (some ⟨by_, oy, none⟩) 1 cy] w (NewRow w [b]) := by
  obtain ⟨B, hB⟩ : ∃ B, B = w.heap.size := ⟨_, rfl⟩
  have HB := Lib.hid hB
  obtain ⟨i0, hi, hz0, hz1, hz2⟩ := info_parts infoInt
  have HV1 := Lib.hid (Inv.box w 5 p n 30)
  have HX := Lib.hid hx
  have HY := Lib.hid hy
  have hd : decide (b < a) = true := by simp; omega
  clear hB hx hy
  go_enter Try.func89, Try.ntmps89
  go_wp2_with (at_make; refine wpList_make_full _ rfl _ _ 25 rfl B 3 i0 (.int .i64 0) 1 Try.underlying25 hi hz0 hz1 .i64 .i64 _ _ 1 rfl rfl rfl rfl (by rw [hz2]; omega) (by unfold maxLen; omega) (by rw [HB.out]; simp) ?_; intro w2 hown hgrow; obtain ⟨HV2, OW, hsz, f0, g1, d0, d1, d2⟩ := made_facts HV1 hown hgrow (by omega); clear hown hgrow hi hz0 hz1 hz2)
  have OW2 : Hid (w2.ownsRow B 3 1 (.slice (some ⟨w.heap.size + 1, 0, none⟩) 1 1) 1 (ints (zerosL 1))) := Lib.hid (row_at (xs := [.int .i64 5, .int .i64 p, .int .i64 n]) OW.out rfl)
  have e1 : w2.cell? ⟨bx, ox, none⟩ = some (.int .i64 a) := (HV2.out.1.cell (p := ⟨bx, ox, none⟩) hbx).trans HX.out
  have e2 : w2.cell? ⟨by_, oy, none⟩ = some (.int .i64 b) := (HV2.out.1.cell (p := ⟨by_, oy, none⟩) hby).trans HY.out
  have hz : (w.alloc (.cells #[.int .i64 5, .int .i64 p, .int .i64 n] 30)).heap.size = w.heap.size + 1 := by simp
  have f1 := OW2.out.frozenAt 0
  have g2 : w2.cell? ⟨w.heap.size + 1, 0, none⟩ = some (.int .i64 0) := by rw [OW2.out.cellAt 0 (by omega)]; rfl
  clear OW f0 g1 hsz HV1 hz
  go_still_tail 9, (by kernel_rfl)
  change wpList _ _ _ _ _ w2.drew
  go_wp2
  go_ret
  exact store_one HB.out OW2.out HV2.out.1 (by simp)

set_option maxHeartbeats 1600000 in
set_option maxRecDepth 100000 in
theorem mul_k5b (bx ox by_ oy cx cy : Nat) (p n a b : Int) (w : World) (hbx : bx < w.heap.size) (hby : by_ < w.heap.size) (hx : w.cell? ⟨bx, ox, none⟩ = some (.int .i64 a)) (hy : w.cell? ⟨by_, oy, none⟩ = some (.int .i64 b))  (hc : a ≤ b) :
    Calls Try.prog 89 #[ringV 5 p n, .slice (some ⟨bx, ox, none⟩) 1 cx, .slice (some ⟨by_, oy, none⟩) 1 cy] w (NewRow w [a]) := by
  obtain ⟨B, hB⟩ : ∃ B, B = w.heap.size := ⟨_, rfl⟩
  have HB := Lib.hid hB
  obtain ⟨i0, hi, hz0, hz1, hz2⟩ := info_parts infoInt
  have HV1 := Lib.hid (Inv.box w 5 p n 30)
  have HX := Lib.hid hx
  have HY := Lib.hid hy
  have hd : decide (b < a) = false := by simp; omega
  clear hB hx hy
  go_enter Try.func89, Try.ntmps89
  go_wp2_with (at_make; refine wpList_make_full _ rfl _ _ 25 rfl B 3 i0 (.int .i64 0) 1 Try.underlying25 hi hz0 hz1 .i64 .i64 _ _ 1 rfl rfl rfl rfl (by rw [hz2]; omega) (by unfold maxLen; omega) (by rw [HB.out]; simp) ?_; intro w2 hown hgrow; obtain ⟨HV2, OW, hsz, f0, g1, d0, d1, d2⟩ := made_facts HV1 hown hgrow (by omega); clear hown hgrow hi hz0 hz1 hz2)
  have OW2 : Hid (w2.ownsRow B 3 1 (.slice (some ⟨w.heap.size + 1, 0, none⟩) 1 1) 1 (ints (zerosL 1))) := Lib.hid (row_at (xs := [.int .i64 5, .int .i64 p, .int .i64 n]) OW.out rfl)
  have e1 : w2.cell? ⟨bx, ox, none⟩ = some (.int .i64 a) := (HV2.out.1.cell (p := ⟨bx, ox, none⟩) hbx).trans HX.out
  have e2 : w2.cell? ⟨by_, oy, none⟩ = some (.int .i64 b) := (HV2.out.1.cell (p := ⟨by_, oy, none⟩) hby).trans HY.out
  have hz : (w.alloc (.cells #[.int .i64 5, .int .i64 p, .int .i64 n] 30)).heap.size = w.heap.size + 1 := by simp
  have f1 := OW2.out.frozenAt 0
  have g2 : w2.cell? ⟨w.heap.size + 1, 0, none⟩ = some (.int .i64 0) := by rw [OW2.out.cellAt 0 (by omega)]; rfl
  clear OW f0 g1 hsz HV1 hz
  go_still_tail 9, (by kernel_rfl)
  change wpList _ _ _ _ _ w2.drew
  go_wp2
  go_ret
  exact store_one HB.out OW2.out HV2.out.1 (by simp)

end Go.Proofs.Ytdheakjjnaifkaa
namespace Go.Proofs.Ytdheakjjnaifkaa
set_option maxRecDepth 20000
open Go.RowKit

set_option maxHeartbeats 6400000 in
set_option maxRecDepth 100000 in
theorem poly_spec_full (ax ay : Option Addr) (cx cy m B0 : Nat) (k p n : Int) (xs ys : List Int) (w : World) (hx : xs.length = m) (hy : ys.length = m) (hm0 : 1 ≤ m) (hm : m ≤ 6) (hB0 : B0 ≤ w.heap.size)
    (hex : Within p xs) (hey : Within p ys) (om : Bool) (hom : (k == 8) = om) (hk1 : (k == 1) = false) (hk2 : (k == 2) = false) (hk3 : (k == 3) = false) (hk4 : (k == 4) = false) (hk5 : (k == 5) = false) (hk6 : (k == 6) = false) (hm4 : om = true → m = 4) (hp1 : 2 ≤ p) (hp2 : p ≤ 1000003)
    (hax : 0 < m → ∃ b off, ax = some ⟨b, off, none⟩ ∧ b < B0 ∧ ∀ i (h : i < xs.length), w.cell? ⟨b, off + i, none⟩ = some (.int .i64 xs[i]))
    (hay : 0 < m → ∃ b off, ay = some ⟨b, off, none⟩ ∧ b < B0 ∧ ∀ i (h : i < ys.length), w.cell? ⟨b, off + i, none⟩ = some (.int .i64 ys[i])) :
    Calls Try.prog 89 #[ringV k p n, .slice ax m cx, .slice ay m cy] w (NewRow w ((List.range m).map fun c => convC m om (fun i => xs.getD i 0) (fun i => ys.getD i 0) c % p)) := by
  obtain ⟨bx, ox, rfl, hbx, hcx⟩ := hax (by omega)
  obtain ⟨by', oy, rfl, hby, hcy⟩ := hay (by omega)
  have HX := Lib.hid hcx
  have HY := Lib.hid hcy
  have L1 := Lib.hid hx
  have L2 := Lib.hid hy
  have HK := Lib.hid hom
  have E1 := Lib.hid hex
  have E2 := Lib.hid hey
  have hbx2 : bx < w.heap.size := Nat.lt_of_lt_of_le hbx hB0
  have hby2 : by' < w.heap.size := Nat.lt_of_lt_of_le hby hB0
  obtain ⟨B, hB⟩ : ∃ B, B = w.heap.size := ⟨_, rfl⟩
  have HB := Lib.hid hB
  obtain ⟨i0, hi, hz0, hz1, hz2⟩ := info_parts infoInt
  have HV1 := Lib.hid (Inv.box w k p n 30)
  clear hax hay hcx hcy hx hy hom hex hey hbx hby hB0 hB
  go_enter Try.func89, Try.ntmps89
  go_wp2_with (at_make; refine wpList_make_full _ rfl _ _ 25 rfl B 3 i0 (.int .i64 0) 1 Try.underlying25 hi hz0 hz1 .i64 .i64 _ _ m rfl rfl rfl rfl (by rw [hz2]; omega) (by unfold maxLen; omega) (by rw [HB.out]; simp) ?_; intro w2 hown hgrow; obtain ⟨HV2, OW, hsz, f0, g1, d0, d1, d2⟩ := made_facts HV1 hown hgrow hm0; clear hown hgrow f0 g1 hi hz0 hz1 hz2)
  clear d0 d1 d2
  have OW2 : Hid (w2.ownsRow B 3 1 (.slice (some ⟨w.heap.size + 1, 0, none⟩) m m) m (ints (zerosL m))) := by
    have h := OW.out
    rw [show (w.alloc (.cells (ringC k p n) 30)).heap.size = w.heap.size + 1 from by simp] at h
    exact h
  clear OW HV1
  obtain ⟨X, hX⟩ : ∃ X : Nat → Int, X = fun i => xs.getD i 0 := ⟨_, rfl⟩
  obtain ⟨Y, hY⟩ : ∃ Y : Nat → Int, Y = fun i => ys.getD i 0 := ⟨_, rfl⟩
  have XX : Hid (∀ i, X i = xs.getD i 0) := Lib.hid (fun i => by rw [hX])
  have YY : Hid (∀ i, Y i = ys.getD i 0) := Lib.hid (fun i => by rw [hY])
  have BX : Hid (∀ i, 0 ≤ X i ∧ X i ≤ 1048576) := Lib.hid (fun i => by rw [hX]; have := E1.out.getD (by omega) i; exact ⟨this.1, Int.le_trans this.2 (by omega)⟩)
  have BY : Hid (∀ i, 0 ≤ Y i ∧ Y i ≤ 1048576) := Lib.hid (fun i => by rw [hY]; have := E2.out.getD (by omega) i; exact ⟨this.1, Int.le_trans this.2 (by omega)⟩)
  have PX : Hid (∀ i, X i ≤ p) := Lib.hid (fun i => by rw [hX]; exact (E1.out.getD (by omega) i).2)
  have FX := Lib.hid hX
  have H4 := Lib.hid hm4
  have FY := Lib.hid hY
  clear hX hY E1 E2 hm4
  have OW3 : Hid (w2.ownsRow B 3 1 (.slice (some ⟨w.heap.size + 1, 0, none⟩) m m) m (ints ((List.range m).map fun c => accC m om X Y 0 0 c % p))) := by
    rw [show ((List.range m).map fun c => accC m om X Y 0 0 c % p) = zerosL m from by
      apply List.ext_getElem (by simp [zerosL])
      intro i h1 h2
      simp [zerosL, acc_zero]]
    exact OW2
  clear OW2 hsz
  go_loopw [19] (fun i wr => ∃ j : Nat, j ≤ m ∧ i = .int .i64 j ∧ Hid (Inv w wr w.heap.size k p n) ∧ Hid (wr.ownsRow B 3 1 (.slice (some ⟨w.heap.size + 1, 0, none⟩) m m) m (ints ((List.range m).map fun c => accC m om X Y j 0 c % p)))) (fun i _ => m - (intOf i).toNat)
  case atStart => exact ⟨0, by omega, rfl, HV2, OW3⟩
  case round =>
    clear HV2 OW3
    obtain ⟨i, hi, rfl, HV, HO⟩ := hrel
    by_cases hlt : i < m
    · obtain ⟨a, e1, X1⟩ := ints_cell L1.out HX.out hlt
      have d1 : wr.cell? ⟨bx, ox + i, none⟩ = some (.int .i64 a) := (HV.out.1.cell (p := ⟨bx, ox + i, none⟩) hbx2).trans e1
      have wa : 0 ≤ a ∧ a ≤ 1048576 := by have := BX.out i; rw [XX.out, getD_of X1.out] at this; exact this
      clear e1
      go_wp2
      go_loopw [26] (fun q wr => ∃ j : Nat, j ≤ m ∧ q = .int .i64 j ∧ Hid (Inv w wr w.heap.size k p n) ∧ Hid (wr.ownsRow B 3 1 (.slice (some ⟨w.heap.size + 1, 0, none⟩) m m) m (ints ((List.range m).map fun c => accC m om X Y i j c % p)))) (fun q _ => m - (intOf q).toNat)
      case atStart => exact ⟨0, by omega, rfl, HV, HO⟩
      case round =>
        clear HV HO d1
        obtain ⟨j, hj, rfl, HV, HO⟩ := hrel
        by_cases hlj : j < m
        · obtain ⟨b, e2, Y1⟩ := ints_cell L2.out HY.out hlj
          have wb : 0 ≤ b ∧ b ≤ 1048576 := by have := BY.out j; rw [YY.out, getD_of Y1.out] at this; exact this
          have d2 : wr.cell? ⟨by', oy + j, none⟩ = some (.int .i64 b) := (HV.out.1.cell (p := ⟨by', oy + j, none⟩) hby2).trans e2
          obtain ⟨c0, c1, c2⟩ := HV.out.cells
          obtain ⟨ab, hab⟩ : ∃ ab, ab = a * b := ⟨_, rfl⟩
          have hbd : 0 ≤ ab ∧ ab ≤ 1099511627776 := by rw [hab]; exact mul_small wa.1 wa.2 wb.1 wb.2
          have hmul : IntKind.i64.wrap (a * b) = ab := by rw [← hab]; exact IntWalk.i64_in _ (by omega)
          have HAB : Hid (ab = X i * Y j) := Lib.hid (by rw [hab, XX.out, YY.out, getD_of X1.out, getD_of Y1.out])
          clear e2 hab
          by_cases hsum : i + j < m
          · obtain ⟨x0, hx0, c3⟩ := row_slot (j := i + j) HO (by simpa using hsum)
            have f3 := HO.out.frozenAt (i + j)
            have hx1 : x0 = accC m om X Y i j (i + j) % p := by simpa [hsum] using hx0.symm
            have hb3 : 0 ≤ x0 ∧ x0 < p := by rw [hx1]; exact ⟨Int.emod_nonneg _ (by omega), Int.emod_lt_of_pos _ (by omega)⟩
            have hpz : ¬ p = 0 := by omega
            have hw1 : IntKind.i64.wrap (x0 + ab) = x0 + ab := IntWalk.i64_in _ (by omega)
            have hm2 : (x0 + ab).tmod p = (x0 + ab) % p := Int.tmod_eq_emod_of_nonneg (by omega)
            have hr0 := Int.emod_nonneg (x0 + ab) (show p ≠ 0 by omega)
            have hr1 := Int.emod_lt_of_pos (x0 + ab) (show 0 < p by omega)
            have hw4 : IntKind.i64.wrap ((x0 + ab) % p) = (x0 + ab) % p := IntWalk.i64_in _ (by omega)
            have hij : IntKind.i64.wrap ((i : Int) + (j : Int)) = (i : Int) + (j : Int) := IntWalk.i64_in _ (by omega)
            have hnn : 0 ≤ (i : Int) + (j : Int) := by omega
            have htn : ((i : Int) + (j : Int)).toNat = i + j := by omega
            have hlm : (i : Int) + (j : Int) < (m : Int) := by omega
            have HS : Hid ((wr.setCell ⟨w.heap.size + 1, i + j, none⟩ (.int .i64 ((x0 + ab) % p))).drew.ownsRow B 3 1 (.slice (some ⟨w.heap.size + 1, 0, none⟩) m m) m (ints ((List.range m).map fun c => accC m om X Y i (j + 1) c % p))) := by
              have h := (HO.out.stored (i + j) (.int .i64 ((x0 + ab) % p))).1
              rw [← ints_set, hx1, HAB.out, red_set_at hsum, ← HAB.out, ← hx1] at h
              exact h
            clear hx0 hx1
            go_wp2
            go_still_tail 18, (by kernel_rfl)
            change wpList _ _ _ _ _ wr.drew
            go_wp2
            go_roundw
            case rel => exact ⟨j + 1, by omega, by go_num, Lib.hid (HV.out.set (q := ⟨w.heap.size + 1, i + j, none⟩) (by simp) (by simp) _).drew, HS⟩
            case measure => simp [intOf]; omega
          · have hge : decide (((i : Int) + (j : Int)) < (m : Int)) = false := by simp; omega
            obtain ⟨q, hq⟩ : ∃ q, q = i + j - m := ⟨_, rfl⟩
            have hq2 : q < m := by omega
            have HQ : Hid (i + j = q + m) := Lib.hid (by omega)
            have hqi : (i : Int) + (j : Int) - (m : Int) = (q : Int) := by omega
            have HQ2 := Lib.hid hq
            clear hq
            cases om with
            | true =>
              have hk : (k == 8) = true := HK.out
              have H44 : Hid (m = 4) := Lib.hid (H4.out rfl)
              have hnn : 0 ≤ (i : Int) + (j : Int) := by omega
              have hq0 : (q : Int) < (m : Int) := by omega
              have hwq : IntKind.i64.wrap (q : Int) = (q : Int) := IntWalk.i64_in _ (by omega)
              obtain ⟨x0, hx0, c3⟩ := row_slot (j := q) HO (by simpa using hq2)
              have f3 := HO.out.frozenAt q
              have hx1 : x0 = accC m true X Y i j q % p := by simpa [hq2] using hx0.symm
              have hb3 : 0 ≤ x0 ∧ x0 < p := by rw [hx1]; exact ⟨Int.emod_nonneg _ (by omega), Int.emod_lt_of_pos _ (by omega)⟩
              have hpz : ¬ p = 0 := by omega
              have hpa : a ≤ p := by have := PX.out i; rw [XX.out, getD_of X1.out] at this; exact this
              obtain ⟨pb, hpb⟩ : ∃ pb, pb = (p - a) * b := ⟨_, rfl⟩
              have hpd : 0 ≤ pb ∧ pb ≤ 1099511627776 := by rw [hpb]; exact mul_small (by omega) (by omega) wb.1 wb.2
              have hw0 : IntKind.i64.wrap (p - a) = p - a := IntWalk.i64_in _ (by omega)
              have hmulp : IntKind.i64.wrap ((p - a) * b) = pb := by rw [← hpb]; exact IntWalk.i64_in _ (by omega)
              have hw1 : IntKind.i64.wrap (x0 + pb) = x0 + pb := IntWalk.i64_in _ (by omega)
              have hm2 : (x0 + pb).tmod p = (x0 + pb) % p := Int.tmod_eq_emod_of_nonneg (by omega)
              have hr0 := Int.emod_nonneg (x0 + pb) (show p ≠ 0 by omega)
              have hr1 := Int.emod_lt_of_pos (x0 + pb) (show 0 < p by omega)
              have hw4 : IntKind.i64.wrap ((x0 + pb) % p) = (x0 + pb) % p := IntWalk.i64_in _ (by omega)
              have hij : IntKind.i64.wrap ((i : Int) + (j : Int)) = (i : Int) + (j : Int) := IntWalk.i64_in _ (by omega)
              have hqi4 : (i : Int) + (j : Int) - 4 = (q : Int) := by have e4 := H44.out; omega
              have hqw : IntKind.i64.wrap ((i : Int) + (j : Int) - 4) = (q : Int) := by rw [hqi4]; exact IntWalk.i64_in _ (by omega)
              have HPB : Hid (pb = (p - X i) * Y j) := Lib.hid (by rw [hpb, XX.out, YY.out, getD_of X1.out, getD_of Y1.out])
              have HS : Hid ((wr.setCell ⟨w.heap.size + 1, q, none⟩ (.int .i64 ((x0 + pb) % p))).drew.ownsRow B 3 1 (.slice (some ⟨w.heap.size + 1, 0, none⟩) m m) m (ints ((List.range m).map fun c => accC m true X Y i (j + 1) c % p))) := by
                have h := (HO.out.stored q (.int .i64 ((x0 + pb) % p))).1
                have h2 := red_set_wrap (w := m) (i := i) (j := j) (X := X) (Y := Y) (p := p) (by omega) (by omega)
                rw [← HQ2.out] at h2
                rw [← ints_set, hx1, HPB.out, h2, ← HPB.out, ← hx1] at h
                exact h
              clear hx0 hx1 hpb
              go_wp2
              go_still_tail 23, (by kernel_rfl)
              change wpList _ _ _ _ _ wr.drew
              go_wp2
              go_roundw
              case rel => exact ⟨j + 1, by omega, by go_num, Lib.hid (HV.out.set (q := ⟨w.heap.size + 1, q, none⟩) (by simp) (by simp) _).drew, HS⟩
              case measure => simp [intOf]; omega
            | false =>
              have hk : (k == 8) = false := HK.out
              have HS : Hid (wr.ownsRow B 3 1 (.slice (some ⟨w.heap.size + 1, 0, none⟩) m m) m (ints ((List.range m).map fun c => accC m false X Y i (j + 1) c % p))) := by
                have h := HO.out
                rw [red_set_none (by omega)] at h
                exact h
              go_wp2
              go_roundw
              case rel => exact ⟨j + 1, by omega, by go_num, HV, HS⟩
              case measure => simp [intOf]; omega
        · obtain rfl : j = m := by omega
          have HS : Hid (wr.ownsRow B 3 1 (.slice (some ⟨w.heap.size + 1, 0, none⟩) j j) j (ints ((List.range j).map fun c => accC j om X Y (i + 1) 0 c % p))) := by
            have h := HO.out
            rw [show (fun c => accC j om X Y i j c % p) = (fun c => accC j om X Y (i + 1) 0 c % p) from funext fun c => by rw [acc_row]] at h
            exact h
          go_wp2
          go_roundw
          case rel => exact ⟨i + 1, by omega, by go_num, HV, HS⟩
          case measure => simp [intOf]; omega
    · obtain rfl : i = m := by omega
      go_wp2
      go_ret
      refine ⟨_, rfl, Own.of (n := i) ?_ (by simp), HV.out.1⟩
      have h := HO.out
      rw [HB.out, mapRange_congr (g := fun c => convC i om (fun i => xs.getD i 0) (fun i => ys.getD i 0) c % p) (fun d hd => by rw [acc_end, FX.out, FY.out])] at h
      exact h
end Go.Proofs.Ytdheakjjnaifkaa
namespace Go.Proofs.Ytdheakjjnaifkaa
set_option maxRecDepth 20000
open Go.RowKit

noncomputable def twoOk (k p n : Int) (xs ys : List Int) : Bool := ringB k p n && (elemB k p n xs && elemB k p n ys)
noncomputable def addElemL (k p n : Int) (xs ys : List Int) : List Int := if twoOk k p n xs ys = true then plusL k p xs ys else []
theorem twoOk_parts {k p n : Int} {xs ys : List Int} (h : twoOk k p n xs ys = true) : ringB k p n = true ∧ ElemV k p n xs ∧ ElemV k p n ys := by
  unfold twoOk at h
  rw [Bool.and_eq_true, Bool.and_eq_true] at h
  exact ⟨h.1, elemB_true.1 h.2.1, elemB_true.1 h.2.2⟩
theorem addElem_len (k p n : Int) (xs ys : List Int) : (addElemL k p n xs ys).length ≤ 6 := by
  unfold addElemL
  by_cases h : twoOk k p n xs ys = true
  · rw [if_pos h]
    have h1 := twoOk_parts h
    have h2 := ring_width h1.1
    have h3 := h1.2.1.1
    simp [plusL]; omega
  · rw [if_neg h]; simp

end Go.Proofs.Ytdheakjjnaifkaa
namespace Go.Proofs.Ytdheakjjnaifkaa
set_option maxRecDepth 20000
open Go.RowKit

theorem mul_spec {B : Nat} {vx vy : Value} {k p n : Int} {xs ys : List Int} {w : World} (hr : ringB k p n = true) (hx : Rd B w vx (ints xs)) (hy : Rd B w vy (ints ys)) (hB : B ≤ w.heap.size) (ex : ElemV k p n xs) (ey : ElemV k p n ys) :
    Calls Try.prog 89 #[ringV k p n, vx, vy] w (NewRow w (timesL k p xs ys)) := by
  have h2 := ring_top hr
  have hc := ring_cases hr
  have l1 := ex.1
  have l2 := ey.1
  have h1 := ring_width hr
  have hl : ys.length = xs.length := by omega
  by_cases hk : k = 7 ∨ k = 8
  · have q1 : 1 ≤ xs.length := by omega
    have q2 : xs.length ≤ 6 := by omega
    have q3 : 2 ≤ p := by omega
    have q4 : p ≤ 1000003 := by omega
    have htop : topI k p n ≤ p := by unfold topI; rw [if_neg (by omega), if_neg (by omega), if_pos (by omega)]; omega
    have q5 : Within p xs := fun x hx => by have := ex.2 x hx; omega
    have q6 : Within p ys := fun x hx => by have := ey.2 x hx; omega
    have g1 : (k == 1) = false := by simp; omega
    have g2 : (k == 2) = false := by simp; omega
    have g3 : (k == 3) = false := by simp; omega
    have g4 : (k == 4) = false := by simp; omega
    have g5 : (k == 5) = false := by simp; omega
    have g6 : (k == 6) = false := by simp; omega
    have g8 : (k == 8) = true → xs.length = 4 := fun h => by
      have h8 : k = 8 := by simpa using h
      have hw : widthI k n = 4 := by rw [h8]; rfl
      omega
    have e : timesL k p xs ys = (List.range xs.length).map fun c => convC xs.length (k == 8) (fun i => xs.getD i 0) (fun i => ys.getD i 0) c % p := by
      unfold timesL
      rw [if_neg (by omega), if_neg (by omega), if_neg (by omega), if_neg (by omega)]
    rw [e]
    obtain ⟨ax, cx, rfl, hax⟩ := ints_form hx
    obtain ⟨ay, cy, rfl, hay⟩ := ints_form hy
    rw [hl]
    exact poly_spec_full ax ay cx cy xs.length B k p n xs ys w rfl hl q1 q2 hB q5 q6 (k == 8) rfl g1 g2 g3 g4 g5 g6 g8 q3 q4 hax (fun h => hay (hl ▸ h))
  have hwd : widthI k n = 1 := by unfold widthI; rw [if_neg (by omega), if_neg (by omega)]
  have q1 : xs.length = 1 := by omega
  have q2 : ys.length = 1 := by omega
  have hrp := ring_p hr
  obtain ⟨bx, ox, cx, rfl, hbx, hcx⟩ := rd_one hx q1 hB
  obtain ⟨by_, oy, cy, rfl, hby, hcy⟩ := rd_one hy q2 hB
  have g1 := ex.2.getD (by omega) 0
  have g2 := ey.2.getD (by omega) 0
  have ec : ∀ q : Int, (List.range xs.length).map (fun c => convC xs.length ((2 : Int) == 8) (fun i => xs.getD i 0) (fun i => ys.getD i 0) c % q) = [xs.getD 0 0 * ys.getD 0 0 % q] := fun q => by
    rw [q1]
    simp [convC, sumN, dC, List.range_succ]
  unfold timesL
  rcases hc with ⟨rfl, g⟩ | ⟨rfl, g⟩ | ⟨rfl, g⟩ | ⟨rfl, g⟩ | ⟨rfl, g⟩ | ⟨rfl, g⟩ | ⟨rfl, g⟩ | ⟨rfl, g⟩
  · exact mul_k1 bx ox by_ oy cx cy p n _ _ w hbx hby hcx hcy
  · rw [if_neg (by omega), if_neg (by omega), if_neg (by omega), if_neg (by omega)]
    have e2 := ec p
    generalize xs.getD 0 0 = a at *
    generalize ys.getD 0 0 = b at *
    rw [e2]
    exact mul_k2 bx ox by_ oy cx cy p n a b w hbx hby hcx hcy g1.1 (by omega) g2.1 (by omega) (a * b) rfl (by omega) (by omega)
  all_goals
    clear ec
    generalize xs.getD 0 0 = a at *
    generalize ys.getD 0 0 = b at *
  · rw [if_neg (by omega), if_pos rfl]
    by_cases hq : p < a * b
    · rw [show min (a * b) p = p from by omega]
      exact mul_k3a bx ox by_ oy cx cy p n a b w hbx hby hcx hcy g1.1 (by omega) g2.1 (by omega) (a * b) rfl hq
    · rw [show min (a * b) p = a * b from by omega]
      exact mul_k3b bx ox by_ oy cx cy p n a b w hbx hby hcx hcy g1.1 (by omega) g2.1 (by omega) (a * b) rfl (by omega)
  · rw [if_neg (by omega), if_neg (by omega), if_pos rfl]
    by_cases hq : p < a + b
    · rw [show min (a + b) p = p from by omega]
      exact mul_k4a bx ox by_ oy cx cy p n a b w hbx hby hcx hcy g1.1 (by omega) g2.1 (by omega) hq
    · rw [show min (a + b) p = a + b from by omega]
      exact mul_k4b bx ox by_ oy cx cy p n a b w hbx hby hcx hcy g1.1 (by omega) g2.1 (by omega) (by omega)
  · rw [if_neg (by omega), if_neg (by omega), if_neg (by omega), if_pos rfl]
    by_cases hq : b < a
    · rw [show min a b = b from by omega]
      exact mul_k5a bx ox by_ oy cx cy p n a b w hbx hby hcx hcy hq
    · rw [show min a b = a from by omega]
      exact mul_k5b bx ox by_ oy cx cy p n a b w hbx hby hcx hcy (by omega)
  · exact mul_k6 bx ox by_ oy cx cy p n a b w hbx hby hcx hcy
  · exact absurd (.inl rfl) hk
  · exact absurd (.inr rfl) hk

noncomputable def mulElemL (k p n : Int) (xs ys : List Int) : List Int := if twoOk k p n xs ys = true then timesL k p xs ys else []
theorem mulElem_len (k p n : Int) (xs ys : List Int) : (mulElemL k p n xs ys).length ≤ 6 := by
  unfold mulElemL
  by_cases h : twoOk k p n xs ys = true
  · rw [if_pos h]
    have h1 := twoOk_parts h
    have h2 := ring_width h1.1
    have h3 := h1.2.1.1
    have h5 : xs.length ≤ 6 := by omega
    unfold timesL
    split
    · simp
    · split
      · simp
      · split
        · simp
        · split
          · simp
          · simpa using h5
  · rw [if_neg h]; simp

end Go.Proofs.Ytdheakjjnaifkaa
