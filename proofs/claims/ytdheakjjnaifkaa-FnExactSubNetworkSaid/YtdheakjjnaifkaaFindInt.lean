
/- slices.Index, slices.Equal and slices.Contains at integers that are only read. -/
import Derived.Test.YtdheakjjnaifkaaShelfFind
import Derived.Test.YtdheakjjnaifkaaTensorOk
namespace Go.Proofs.Ytdheakjjnaifkaa
set_option maxRecDepth 20000
open Go.RowKit

theorem idxOf_find (L : List Int) (x : Int) : Lib.idxOf (L.take L.length) x = findI L x := by
  unfold findI
  split
  · rename_i hm
    have hlt := List.idxOf_lt_length_iff.2 hm
    refine Lib.idxOf_hit L L.length (L.idxOf x) x hlt (Nat.le_refl _) ?_ (fun j hj => ?_)
    · rw [List.getD_eq_getElem?_getD, List.getElem?_eq_getElem hlt]
      exact List.getElem_idxOf hlt
    · rw [List.getD_eq_getElem?_getD, List.getElem?_eq_getElem (by omega)]
      intro e
      have h1 : L.idxOf x ≤ j := by
        have h2 := List.not_of_lt_findIdx (p := (· == x)) (xs := L) hj
        simp at h2
        exact absurd e h2
      omega
  · rename_i hm
    refine Lib.idxOf_miss L L.length x (fun j hj e => hm ?_)
    rw [List.getD_eq_getElem?_getD, List.getElem?_eq_getElem hj] at e
    have e2 : L[j] = x := e
    exact e2 ▸ List.getElem_mem hj
theorem index_any {B : Nat} {v : Value} {L : List Int} {w : World} (x : Int) (h : Rd B w v (ints L)) (hn : L.length ≤ 281474976710656) :
    Calls Try.prog 87 #[v, .int .i64 x] w fun e w' => e = .returned (.int .i64 (findI L x)) ∧ w = w' := by
  rcases h.ints_cases with ⟨rfl, a, cap, rfl⟩ | ⟨b, off, cap, rfl, -, -, hc⟩
  · exact (Try.slices_Index_int_empty a cap x w).mono fun e w' h => ⟨h.1, h.2.symm⟩
  · have h1 := Try.slices_Index_int b off L.length cap L x w (Nat.le_refl _) (by omega) (fun j hj => by rw [hc j hj, List.getD_eq_getElem?_getD, List.getElem?_eq_getElem hj]; rfl)
    rw [idxOf_find] at h1
    exact h1.mono fun e w' h => ⟨h.1, h.2.symm⟩
/-- slices.Contains at integers. -/
theorem contains_any {B : Nat} {v : Value} {L : List Int} {w : World} (x : Int) (h : Rd B w v (ints L)) (hn : L.length ≤ 281474976710656) :
    Calls Try.prog 58 #[v, .int .i64 x] w fun e w' => e = .returned (.bool (decide (x ∈ L))) ∧ w' = w := by
  obtain ⟨a, c, rfl, -⟩ := ints_form h
  have HI := Lib.hid (index_any x h hn)
  obtain ⟨z, hz⟩ : ∃ z, z = findI L x := ⟨_, rfl⟩
  rw [← hz] at HI
  have hq : decide ((0 : Int) ≤ z) = decide (x ∈ L) := by
    rw [hz]
    by_cases hm : x ∈ L
    · rw [decide_eq_true hm]; exact decide_eq_true (Int.not_lt.1 (fun h => (findI_neg.1 h) hm))
    · rw [decide_eq_false hm]; exact decide_eq_false (Int.not_le.2 (findI_neg.2 hm))
  rw [← hq]
  generalize L.length = m at HI ⊢
  clear hz hq h
  go_enter Try.func58, Try.ntmps58
  go_wp2_with fail
  refine HI.out.mono ?_
  rintro e w' ⟨rfl, rfl⟩
  go_wp2
  all_goals
    go_ret
    exact ⟨rfl, rfl⟩
end Go.Proofs.Ytdheakjjnaifkaa
