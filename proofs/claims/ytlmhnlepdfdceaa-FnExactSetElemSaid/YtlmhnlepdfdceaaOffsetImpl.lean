
/- impl.offsetIn, impl.OffsetOf, (Tensor).find. -/
import Derived.Test.YtlmhnlepdfdceaaOffset
import Derived.Test.YtlmhnlepdfdceaaTenOkImpl
namespace Go.Proofs.Ytlmhnlepdfdceaa
set_option maxRecDepth 20000
set_option maxRecDepth 20000
open Go.RowKit

open Classical in
/-- How many indices are before a list that may be an index; else -1. -/
noncomputable def offInI (D ix : List Int) : Int := if InIx D ix then offI D ix else -1
open Classical in
theorem offInI_no {D ix : List Int} (h : ¬ InIx D ix) : offInI D ix = -1 := if_neg h
open Classical in
theorem offInI_yes {D ix : List Int} (h : InIx D ix) : offInI D ix = offI D ix := if_pos h
theorem offsetI_in {L D ix : List Int} (h : 0 ≤ sizeI L D) : offsetI L D ix = offInI D ix := by
  by_cases hi : InIx D ix
  · rw [offsetI_yes ⟨h, hi⟩, offInI_yes hi]
  · rw [offsetI_no (fun h => hi h.2), offInI_no hi]
theorem offP_to {D ix : List Int} (hD : ∀ d ∈ D, 1 ≤ d) : ∀ j, j ≤ D.length → InTo D ix j → 0 ≤ offP D ix j ∧ offP D ix j < prodL (D.take j) := by
  intro j
  induction j with
  | zero => intro _ _; simp [offP, prodL]
  | succ j ih =>
    intro hj hi
    obtain ⟨h1, h2⟩ := ih (by omega) (fun i hij => hi i (by omega))
    obtain ⟨h3, h4⟩ := hi j (by omega)
    rw [offP_succ, prodL_take_succ D j (by omega)]
    have hd : 1 ≤ D.getD j 0 := by
      rw [getD_at (List.getElem?_eq_getElem (show j < D.length by omega))]
      exact hD _ (List.getElem_mem _)
    have e1 := Int.mul_nonneg h1 (by omega : 0 ≤ D.getD j 0)
    have e2 : (offP D ix j + 1) * D.getD j 0 ≤ prodL (D.take j) * D.getD j 0 := Int.mul_le_mul_of_nonneg_right (by omega) (by omega)
    rw [Int.add_mul, Int.one_mul] at e2
    omega

set_option maxHeartbeats 1600000 in
theorem offset_in_full (a : Option Addr) (cap m : Nat) (a2 : Option Addr) (cap2 m2 B : Nat) (D ix : List Int) (w : World) (h1 : D.length = m) (h2 : ix.length = m2) (hm : m ≤ 281474976710656) (hm2 : m2 ≤ 281474976710656) (hD : ∀ d ∈ D, 1 ≤ d ∧ d ≤ 8) (hP : prodL D ≤ 4096)
    (hd : Rd B w (.slice a m cap) (ints D)) (hx : Rd B w (.slice a2 m2 cap2) (ints ix)) :
    Calls Try.prog 49 #[.slice a m cap, .slice a2 m2 cap2] w fun e w' => e = .returned (.int .i64 (offInI D ix)) ∧ w = w' := by
  have L1 := Lib.hid h1
  have L2 := Lib.hid h2
  have RD := Lib.hid hd
  have RX := Lib.hid hx
  have HD := Lib.hid hD
  have HP := Lib.hid hP
  obtain ⟨r, hr⟩ : ∃ r, r = offInI D ix := ⟨_, rfl⟩
  rw [← hr]
  have HR := Lib.hid hr
  clear h1 h2 hd hx hD hP hr
  by_cases hne : m2 = m
  case neg =>
    have HF : Hid (r = -1) := by show r = -1; rw [HR.out]; exact offInI_no (fun h => hne (by rw [← L1.out, ← L2.out]; exact h.1))
    have q2 : ((m2 : Int) != (m : Int)) = true := by simp; omega
    go_enter Try.func49, Try.ntmps49
    go_wp2
    go_ret
    exact ⟨by rw [HF.out]; rfl, rfl⟩
  subst hne
  go_enter Try.func49, Try.ntmps49
  go_wp2
  go_loop [5, 15] (fun p i => ∃ (j : Nat) (c : Int), j ≤ m2 ∧ i = .int .i64 j ∧ p = .int .i64 c ∧ 0 ≤ c ∧ c ≤ 4096 ∧ Hid (offP D ix j = c) ∧ Hid (InTo D ix j)) (fun _ i => m2 - (intOf i).toNat)
  case atStart => exact ⟨0, 0, by omega, rfl, rfl, by omega, by omega, rfl, fun i hi => by omega⟩
  case round =>
    obtain ⟨j, c, hj, rfl, rfl, hc1, hc2, HC, HI⟩ := hrel
    by_cases hlt : j < m2
    · obtain ⟨d, D1⟩ : ∃ d, Hid (D[j]? = some d) := ⟨_, List.getElem?_eq_getElem (by rw [L1.out]; exact hlt)⟩
      obtain ⟨x, X1⟩ : ∃ x, Hid (ix[j]? = some x) := ⟨_, List.getElem?_eq_getElem (by rw [L2.out]; exact hlt)⟩
      obtain ⟨b, off, rfl, -, e1⟩ := RD.out.cellAt D1.out
      obtain ⟨b2, off2, rfl, -, e2⟩ := RX.out.cellAt X1.out
      by_cases hx0 : x < 0
      · have HF : Hid (r = -1) := by
          show r = -1
          rw [HR.out]
          refine offInI_no (fun h => ?_)
          have h2 := h.2 j (by rw [L1.out]; exact hlt)
          rw [getD_at D1.out, getD_at X1.out] at h2
          omega
        go_wp2
        go_ret
        exact ⟨by rw [HF.out]; rfl, rfl⟩
      · by_cases hxd : d ≤ x
        · have HF : Hid (r = -1) := by
            show r = -1
            rw [HR.out]
            refine offInI_no (fun h => ?_)
            have h2 := h.2 j (by rw [L1.out]; exact hlt)
            rw [getD_at D1.out, getD_at X1.out] at h2
            omega
          have q3 : decide (d ≤ x) = true := by simpa using hxd
          go_wp2
          go_ret
          exact ⟨by rw [HF.out]; rfl, rfl⟩
        · have q3 : decide (d ≤ x) = false := by simpa using hxd
          have hd := HD.out d (List.mem_of_getElem? D1.out)
          have hd1 := hd.1
          have hd2 := hd.2
          have HS2 : Hid (InTo D ix (j + 1)) := by
            intro i hi
            by_cases hij : i < j
            · exact HI.out i hij
            · obtain rfl : i = j := by omega
              rw [getD_at D1.out, getD_at X1.out]
              omega
          have hr := offP_to (fun d hd => (HD.out d hd).1) (j + 1) (by rw [L1.out]; omega) HS2.out
          have hpl := prodL_take_le (fun d hd => (HD.out d hd).1) (j + 1)
          have hpp := HP.out
          have hs : offP D ix (j + 1) = c * d + x := by rw [offP_succ, getD_at D1.out, getD_at X1.out, HC.out]
          have hm2 := mul_in (c := c) (d := d) (by omega) (by omega) (by omega) (by omega)
          have hw : IntKind.i64.wrap (c * d) = c * d := IntWalk.i64_in _ (by omega)
          have hw2 : IntKind.i64.wrap (c * d + x) = c * d + x := IntWalk.i64_in _ (by omega)
          have hb1 : 0 ≤ c * d + x := by omega
          have hb2 : c * d + x ≤ 4096 := by omega
          have HS := Lib.hid hs
          clear hs hr hpl hpp hd
          go_wp2
          go_round
          case rel => exact ⟨j + 1, c * d + x, by omega, by go_num, rfl, hb1, hb2, HS, HS2⟩
          case measure => simp [intOf]; omega
    · have hnlt : ¬ (j : Int) < (m2 : Int) := by omega
      have HF : Hid (r = c) := by
        show _ = _
        have e : j = D.length := by rw [L1.out]; omega
        rw [HR.out, offInI_yes ⟨by rw [L1.out, L2.out], fun i hi => HI.out i (by omega)⟩, offI_is, ← e]
        exact HC.out
      go_wp2
      go_ret
      exact ⟨by rw [HF.out]; rfl, rfl⟩
theorem offset_in {B : Nat} {dv iv : Value} {D ix : List Int} {w : World} (hd : Rd B w dv (ints D)) (hx : Rd B w iv (ints ix)) (hm : D.length ≤ 281474976710656) (hm2 : ix.length ≤ 281474976710656) (hD : ∀ d ∈ D, 1 ≤ d ∧ d ≤ 8) (hP : prodL D ≤ 4096) :
    Calls Try.prog 49 #[dv, iv] w fun e w' => e = .returned (.int .i64 (offInI D ix)) ∧ w = w' := by
  obtain ⟨a, cap, rfl, -⟩ := ints_form hd
  obtain ⟨a2, cap2, rfl, -⟩ := ints_form hx
  exact offset_in_full a cap _ a2 cap2 _ B D ix w rfl rfl hm hm2 hD hP hd hx
theorem sizeI_parts {L D : List Int} (h : 0 ≤ sizeI L D) : AxesV L D ∧ prodL D ≤ 4096 := by
  rcases sizeI_cases L D with ⟨h1, h2⟩ | ⟨h1, h2, h3, h4⟩
  · omega
  · exact ⟨h2, h4⟩

set_option maxHeartbeats 1600000 in
theorem offset_of_impl {B : Nat} {lv dv xv iv : Value} {L D X ix : List Int} {w : World} (h : RdT B w lv dv xv L D X) (hi : Rd B w iv (ints ix)) (hB : B ≤ w.heap.size) (hn : LenT L D X) (hni : ix.length ≤ 281474976710656) (hI : allI L) :
    Calls Try.prog 21 #[tenV lv dv xv, iv] w fun e w' => e = .returned (.int .i64 (offsetI L D ix)) ∧ Below w.heap.size w w' := by
  have H0 := Lib.hid ((Held.refl w).box3 lv dv xv 27)
  have HT := Lib.hid (h.below H0.out.1 hB)
  have hBB := Nat.le_trans hB H0.out.1.size
  have HN := Lib.hid hn
  have HIX := Lib.hid hi
  have HD0 := Lib.hid h.d
  have HB0 := Lib.hid hB
  have HNI := Lib.hid hni
  obtain ⟨al, cl, rfl, -⟩ := ints_form h.l
  obtain ⟨ad, cd, rfl, -⟩ := ints_form h.d
  obtain ⟨ax, cx, rfl, -⟩ := ints_form h.x
  obtain ⟨ai, ci, rfl, -⟩ := ints_form hi
  have HSZ := Lib.hid (size_impl HT.out hBB HN.out hI)
  obtain ⟨r, hr⟩ : ∃ r, r = offsetI L D ix := ⟨_, rfl⟩
  rw [← hr]
  have HR := Lib.hid hr
  obtain ⟨s, hs⟩ : ∃ s, s = sizeI L D := ⟨_, rfl⟩
  rw [← hs] at HSZ
  have HS := Lib.hid hs
  clear h hi hB hBB hn hr hs hI hni
  by_cases hs0 : s < 0
  · have HF : Hid (r = -1) := by show r = -1; rw [HR.out]; exact offsetI_no (fun h => by rw [← HS.out] at h; omega)
    have q0 : decide (s < 0) = true := by simpa using hs0
    go_enter Try.func21, Try.ntmps21
    go_wp2_with fail
    refine (Held.call H0 HSZ.out).mono ?_
    rintro e w1 ⟨rfl, H1, c0, c1, c2, -⟩
    go_wp2
    go_ret
    exact ⟨by rw [HF.out]; rfl, H1.out.1⟩
  · have q0 : decide (s < 0) = false := by simpa using hs0
    have HPT := Lib.hid (sizeI_parts (L := L) (D := D) (by rw [← HS.out]; omega))
    have HF : Hid (offInI D ix = r) := by show _ = r; rw [HR.out]; exact (offsetI_in (by rw [← HS.out]; omega)).symm
    go_enter Try.func21, Try.ntmps21
    go_wp2_with fail
    refine (Held.call H0 HSZ.out).mono ?_
    rintro e w1 ⟨rfl, H1, c0, c1, c2, -⟩
    go_wp2_with fail
    refine (offset_in (HD0.out.below H1.out.1 HB0.out) (HIX.out.below H1.out.1 HB0.out) HN.out.d HNI.out HPT.out.1.2.2.2.1 HPT.out.2).mono ?_
    rw [HF.out]
    rintro e w2 ⟨rfl, rfl⟩
    go_wp2
    go_ret
    exact ⟨rfl, H1.out.1⟩

/-- Where the element is, or -1. -/
noncomputable def findT (k p n : Int) (L D X ix : List Int) : Int := if tensorB k p n L D X = true then offInI D ix else -1
set_option maxHeartbeats 1600000 in
theorem find_impl {B : Nat} {lv dv xv iv : Value} {k p n : Int} {L D X ix : List Int} {w : World} (h : RdT B w lv dv xv L D X) (hi : Rd B w iv (ints ix)) (hB : B ≤ w.heap.size) (hn : LenT L D X) (hni : ix.length ≤ 281474976710656) (hI : allI L) :
    Calls Try.prog 53 #[tenV lv dv xv, ringV k p n, iv] w fun e w' => e = .returned (.int .i64 (findT k p n L D X ix)) ∧ Below w.heap.size w w' := by
  have H0 : Hid (Held w ((w.alloc (.cells #[lv, dv, xv] 27)).alloc (.cells #[.int .i64 k, .int .i64 p, .int .i64 n] 34)) (ringTen (w.heap.size + 1) w.heap.size k p n lv dv xv)) := by
    have h := ((Held.refl w).box3 lv dv xv 27).box3 (.int .i64 k) (.int .i64 p) (.int .i64 n) 34
    simp only [World.size_alloc] at h
    exact h
  have HT := Lib.hid (h.below H0.out.1 hB)
  have hBB := Nat.le_trans hB H0.out.1.size
  have HN := Lib.hid hn
  have HIX := Lib.hid hi
  have HD0 := Lib.hid h.d
  have HB0 := Lib.hid hB
  have HNI := Lib.hid hni
  obtain ⟨al, cl, rfl, -⟩ := ints_form h.l
  obtain ⟨ad, cd, rfl, -⟩ := ints_form h.d
  obtain ⟨ax, cx, rfl, -⟩ := ints_form h.x
  obtain ⟨ai, ci, rfl, -⟩ := ints_form hi
  have HOK := Lib.hid (tensor_ok_impl (k := k) (p := p) (n := n) HT.out hBB HN.out hI)
  obtain ⟨r, hr⟩ : ∃ r, r = findT k p n L D X ix := ⟨_, rfl⟩
  rw [← hr]
  have HR := Lib.hid hr
  clear h hi hB hBB hn hr hI hni
  cases hok : tensorB k p n L D X with
  | false =>
    have HF : Hid (r = -1) := by show r = -1; rw [HR.out]; exact if_neg (by rw [hok]; simp)
    rw [hok] at HOK
    clear hok
    go_enter Try.func53, Try.ntmps53
    go_wp2_with fail
    refine (Held.call H0 HOK.out).mono ?_
    rintro e w1 ⟨rfl, H1, c0, c1, c2, d0, d1, d2, -⟩
    go_wp2
    go_ret
    exact ⟨by rw [HF.out]; rfl, H1.out.1⟩
  | true =>
    have HPT := Lib.hid (sizeI_parts (L := L) (D := D) (tensorB_inv hok).2.1)
    have HF : Hid (offInI D ix = r) := by show _ = r; rw [HR.out]; exact (if_pos hok).symm
    rw [hok] at HOK
    clear hok
    go_enter Try.func53, Try.ntmps53
    go_wp2_with fail
    refine (Held.call H0 HOK.out).mono ?_
    rintro e w1 ⟨rfl, H1, c0, c1, c2, d0, d1, d2, -⟩
    go_wp2_with fail
    refine (offset_in (HD0.out.below H1.out.1 HB0.out) (HIX.out.below H1.out.1 HB0.out) HN.out.d HNI.out HPT.out.1.2.2.2.1 HPT.out.2).mono ?_
    rw [HF.out]
    rintro e w2 ⟨rfl, rfl⟩
    go_wp2
    go_ret
    exact ⟨rfl, H1.out.1⟩
end Go.Proofs.Ytlmhnlepdfdceaa
