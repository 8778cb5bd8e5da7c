
/- spec.l05Product up to the work of a contraction. -/
import Derived.Test.YtfdjlahaiogabaaTensorOk
import Derived.Test.YtfdjlahaiogabaaJoinMath
import Derived.Test.YtfdjlahaiogabaaPermSpec
import Derived.Deep.RegionHeld3
namespace Go.Proofs.Ytfdjlahaiogabaa
set_option maxRecDepth 20000
open Go.RowKit

def capW (D : List Int) : Int := D.foldl (fun n d => min (n * d) 65537) 1
theorem capW_snoc (D : List Int) (d : Int) : capW (D ++ [d]) = min (capW D * d) 65537 := by simp [capW, List.foldl_append]
theorem capW_fold {D : List Int} (h : ∀ d ∈ D, 1 ≤ d) : ∀ a : Int, 1 ≤ a → a ≤ 65537 → D.foldl (fun n d => min (n * d) 65537) a = min (a * prodL D) 65537 := by
  induction D with
  | nil => intro a h1 h2; rw [prodL_nil, Int.mul_one]; show a = _; omega
  | cons d r ih =>
    intro a h1 h2
    have hd := h d (by simp)
    have hp := prodL_pos (D := r) (fun x hx => h x (by simp [hx]))
    have e1 : a ≤ a * d := by
      have := Int.mul_le_mul_of_nonneg_left hd (by omega : 0 ≤ a)
      omega
    show r.foldl (fun n d => min (n * d) 65537) (min (a * d) 65537) = _
    rw [ih (fun x hx => h x (by simp [hx])) _ (by omega) (by omega), prodL_cons, ← Int.mul_assoc]
    by_cases hc : a * d ≤ 65537
    · rw [show min (a * d) 65537 = a * d by omega]
    · rw [show min (a * d) 65537 = 65537 by omega]
      have e2 : 65537 ≤ 65537 * prodL r := by
        have := Int.mul_le_mul_of_nonneg_left hp (by omega : (0 : Int) ≤ 65537)
        omega
      have e3 : a * d ≤ a * d * prodL r := by
        have := Int.mul_le_mul_of_nonneg_left hp (by omega : 0 ≤ a * d)
        omega
      omega
theorem capW_is {D : List Int} (h : ∀ d ∈ D, 1 ≤ d) : capW D = min (prodL D) 65537 ∧ 1 ≤ capW D ∧ capW D ≤ 65537 := by
  have e : capW D = min (1 * prodL D) 65537 := capW_fold h 1 (by omega) (by omega)
  have hp := prodL_pos h
  rw [Int.one_mul] at e
  omega
set_option maxHeartbeats 800000 in
theorem product_work_full (a : Option Addr) (cap m B : Nat) (D : List Int) (w : World) (hx : D.length = m) (hn : m ≤ 281474976710656) (hD : ∀ d ∈ D, 1 ≤ d ∧ d ≤ 8) (hr : Rd B w (.slice a m cap) (ints D)) :
    Calls Try.prog 66 #[.slice a m cap, .int .i64 65536] w fun e w' => e = .returned (.int .i64 (capW D)) ∧ w = w' := by
  have L1 := Lib.hid hx
  have HR := Lib.hid hr
  have HD := Lib.hid hD
  clear hx hr hD
  go_enter Try.func66, Try.ntmps66
  go_wp2
  go_loop [5, 10] (fun p i => ∃ (j : Nat) (c : Int), j ≤ m ∧ i = .int .i64 j ∧ p = .int .i64 c ∧ 1 ≤ c ∧ c ≤ 65537 ∧ Hid (capW (D.take j) = c)) (fun _ i => m - (intOf i).toNat)
  case atStart => exact ⟨0, 1, by omega, rfl, rfl, by omega, by omega, rfl⟩
  case round =>
    obtain ⟨j, c, hj, rfl, rfl, hc1, hc2, HC⟩ := hrel
    by_cases hlt : j < m
    · obtain ⟨d, D1⟩ : ∃ d, Hid (D[j]? = some d) := ⟨_, List.getElem?_eq_getElem (by rw [L1.out]; exact hlt)⟩
      obtain ⟨b, off, rfl, e1⟩ : ∃ b off, a = some ⟨b, off, none⟩ ∧ w.cell? ⟨b, off + j, none⟩ = some (.int .i64 d) := by
        rcases HR.out.ints_cases with ⟨h, -⟩ | ⟨b, off, ca, e, hb, -, hc⟩
        · have := L1.out; rw [h] at this; simp at this; omega
        · cases e
          refine ⟨b, off, rfl, ?_⟩
          rw [hc j (by rw [L1.out]; exact hlt)]
          rw [(List.getElem?_eq_some_iff.1 D1.out).2]
      have hd := HD.out d (List.mem_of_getElem? D1.out)
      have hd1 := hd.1
      have hd2 := hd.2
      have hm := mul_inT (c := c) (d := d) (by omega) (by omega) (by omega) (by omega)
      have hlow : 1 ≤ c * d := by
        have := Int.mul_le_mul hc1 hd1 (by omega) (by omega)
        omega
      have hw : IntKind.i64.wrap (c * d) = c * d := IntWalk.i64_in _ (by omega)
      have hstep : capW (D.take (j + 1)) = min (c * d) 65537 := by rw [List.take_add_one, D1.out, Option.toList_some, capW_snoc, HC.out]
      by_cases hgt : 65537 < c * d
      · have HS : Hid (capW (D.take (j + 1)) = 65537) := by show _ = _; rw [hstep]; omega
        have q1 : decide ((65537 : Int) < c * d) = true := by simpa using hgt
        clear hstep hd
        go_wp2
        go_round
        case rel => exact ⟨j + 1, 65537, by omega, by go_num, rfl, by omega, by omega, HS⟩
        case measure => simp [intOf]; omega
      · have HS : Hid (capW (D.take (j + 1)) = c * d) := by show _ = _; rw [hstep]; omega
        have q1 : decide ((65537 : Int) < c * d) = false := by simpa using hgt
        clear hstep hd
        go_wp2
        go_round
        case rel => exact ⟨j + 1, c * d, by omega, by go_num, rfl, by omega, by omega, HS⟩
        case measure => simp [intOf]; omega
    · obtain rfl : j = m := by omega
      have HF : Hid (capW D = c) := by
        have h := HC.out
        rw [List.take_of_length_le (by rw [L1.out]; omega)] at h
        exact h
      go_wp2
      go_ret
      exact ⟨by rw [HF.out]; rfl, rfl⟩
theorem product_work {B : Nat} {v : Value} {D : List Int} {w : World} (h : Rd B w v (ints D)) (hn : D.length ≤ 281474976710656) (hD : ∀ d ∈ D, 1 ≤ d ∧ d ≤ 8) :
    Calls Try.prog 66 #[v, .int .i64 65536] w fun e w' => e = .returned (.int .i64 (capW D)) ∧ w = w' := by
  obtain ⟨a, cap, rfl, -⟩ := ints_form h
  exact product_work_full a cap _ B D w rfl hn hD h
end Go.Proofs.Ytfdjlahaiogabaa
namespace Go.Proofs.Ytfdjlahaiogabaa
set_option maxRecDepth 20000
open Go.RowKit

/-- Two new rows and whether they count. -/
def NewRow2B (w : World) (xs ys : List Int) (b : Bool) (e : Ending) (w' : World) : Prop := ∃ u v, e = .returned (.tuple #[u, v, .bool b]) ∧ OwnG w' w.heap.size w'.heap.size [(u, xs), (v, ys)] ∧ Below w.heap.size w w'
theorem FitV.no {L D L' D' : List Int} {j : Nat} {n d : Int} {q : Nat} (hj : L'[j]? = some n) (hd : D'[j]? = some d) (hn : n ∈ L) (hq : L.idxOf n = q) (hne : D.getD q 0 ≠ d) : fitV L D L' D' = false := fitV_false fun h => by
  have h1 := h j n (List.getElem?_eq_some_iff.1 hj).1 hj hn
  rw [hq, getD_at hd] at h1
  exact hne h1
end Go.Proofs.Ytfdjlahaiogabaa
namespace Go.Proofs.Ytfdjlahaiogabaa
set_option maxRecDepth 20000
open Go.RowKit

end Go.Proofs.Ytfdjlahaiogabaa
