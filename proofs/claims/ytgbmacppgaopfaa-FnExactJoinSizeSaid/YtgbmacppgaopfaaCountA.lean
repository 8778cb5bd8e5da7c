
/- impl.indexCount. -/
import Derived.Test.YtgbmacppgaopfaaAxes
import Derived.Test.YtgbmacppgaopfaaAlong
namespace Go.Proofs.Ytgbmacppgaopfaa
set_option maxRecDepth 20000
open Go.RowKit

set_option maxHeartbeats 1600000 in
theorem count_full {B m ca : Nat} {p : Option Addr} {AX : List AxE} {w : World} (hm : AX.length = m) (hm2 : m ≤ 1024) (hd : ∀ d ∈ dimsA AX, 1 ≤ d ∧ d ≤ 8) (hP : prodL (dimsA AX) ≤ 1073741824) (ha : RdA B w (.slice p m ca) AX) (hB : B ≤ w.heap.size) :
    Calls Try.prog 89 #[.slice p m ca] w fun e w' => e = .returned (.int .i64 (prodL (dimsA AX))) ∧ Below w.heap.size w w' := by
  have L1 := Lib.hid hm
  have HD := Lib.hid hd
  have HP := Lib.hid hP
  have HA := Lib.hid ha
  have HB := Lib.hid hB
  obtain ⟨r, hr⟩ : ∃ r, r = prodL (dimsA AX) := ⟨_, rfl⟩
  rw [← hr]
  have HR := Lib.hid hr
  clear hm hd hP ha hB hr
  go_enter Try.func89, Try.ntmps89
  go_wp2
  go_loopw [3, 8] (fun u i wr => ∃ (j : Nat) (c : Int), j ≤ m ∧ i = .int .i64 j ∧ u = .int .i64 c ∧ Hid (c = prodL ((dimsA AX).take j)) ∧ Hid (Below w.heap.size w wr)) (fun _ i _ => m - (intOf i).toNat)
  case atStart => exact ⟨0, 1, by omega, rfl, rfl, Lib.hid rfl, Lib.hid (Below.refl _ _)⟩
  case round =>
    obtain ⟨j, c, hj, rfl, rfl, HC, HBL⟩ := hrel
    by_cases hlt : j < m
    · obtain ⟨⟨n, d, s⟩, X1⟩ : ∃ a, Hid (AX[j]? = some a) := ⟨_, List.getElem?_eq_getElem (by rw [L1.out]; exact hlt)⟩
      obtain ⟨b, off, rfl, hbl, e1, e2, e3⟩ := (HA.out.below HBL.out HB.out).at X1.out
      dsimp only at e1 e2 e3
      have hdj : (dimsA AX)[j]? = some d := by unfold dimsA; rw [List.getElem?_map, X1.out]; rfl
      have h1 := prod_prefix (fun d hd => (HD.out d hd).1) (j + 1)
      have h2 := HP.out
      have hs : prodL ((dimsA AX).take (j + 1)) = c * d := by
        rw [List.take_add_one, hdj, Option.toList_some, prodL_app, HC.out]
        simp [prodL]
      rw [hs] at h1
      have hw : wrap64 (c * d) = c * d := by unfold wrap64; omega
      have HC2 : Hid (wrap64 (c * d) = prodL ((dimsA AX).take (j + 1))) := Lib.hid (by rw [hs, hw])
      have HB2 := Lib.hid (HBL.out.alloc HBL.out.size (.cells #[.int .i64 n, .int .i64 d, .int .i64 s] 116))
      clear h1 h2 hs hw hdj
      go_wp2
      go_roundw
      case rel => exact ⟨j + 1, _, by omega, by go_num, rfl, HC2, HB2⟩
      case measure => simp [intOf]; omega
    · obtain rfl : j = m := by omega
      have HE : Hid (c = r) := Lib.hid (by
        rw [HC.out, HR.out, List.take_of_length_le (by rw [dimsA_len, L1.out]; exact Nat.le_refl _)])
      go_wp2
      go_ret
      exact ⟨by rw [← HE.out]; rfl, HBL.out⟩
theorem count_impl {B : Nat} {v : Value} {AX : List AxE} {w : World} (hm2 : AX.length ≤ 1024) (hd : ∀ d ∈ dimsA AX, 1 ≤ d ∧ d ≤ 8) (hP : prodL (dimsA AX) ≤ 1073741824) (ha : RdA B w v AX) (hB : B ≤ w.heap.size) :
    Calls Try.prog 89 #[v] w fun e w' => e = .returned (.int .i64 (prodL (dimsA AX))) ∧ Below w.heap.size w w' := by
  obtain ⟨p, ca, rfl⟩ := ha.form
  exact count_full rfl hm2 hd hP ha hB
end Go.Proofs.Ytgbmacppgaopfaa
