
/- How long the answers of DiagonalTensor are. -/
import Derived.Test.YtgbmacppgaopfaaDiagSpec
namespace Go.Proofs.Ytgbmacppgaopfaa
set_option maxRecDepth 20000
open Go.RowKit

theorem diag_parts {k p q : Int} {L D X : List Int} {a b : Int} (h : diagB k p q L D X a b = true) : tensorB k p q L D X = true ∧ 0 ≤ findI L a ∧ 0 ≤ findI L b ∧ findI L a ≠ findI L b ∧ D.getD (L.idxOf a) 0 = D.getD (L.idxOf b) 0 := by
  unfold diagB at h
  simp only [Bool.and_eq_true, decide_eq_true_eq] at h
  exact h
theorem diag_len_L (k p q : Int) (L D X : List Int) (a b : Int) : (if diagB k p q L D X a b = true then exL L b else []).length ≤ 12 := by
  split
  · rename_i h; exact Nat.le_trans (ex_len L b) (ten_lens (diag_parts h).1).1
  · simp
theorem diag_len_D (k p q : Int) (L D X : List Int) (a b : Int) : (if diagB k p q L D X a b = true then exD L D b else []).length ≤ 12 := by
  split
  · rename_i h; rw [exD_len]; exact Nat.le_trans (ex_len L b) (ten_lens (diag_parts h).1).1
  · simp
theorem find_mem {L : List Int} {a : Int} (h : 0 ≤ findI L a) : a ∈ L := by
  by_cases hm : a ∈ L
  · exact hm
  · have := findI_neg.2 hm; omega
theorem diag_len_X (k p q : Int) (L D X : List Int) (a b : Int) : (if diagB k p q L D X a b = true then diagL k q L D X a b else []).length ≤ 24576 := by
  split
  · rename_i h
    obtain ⟨h1, h2, h3, h4, h5⟩ := diag_parts h
    have hrb := (tensorB_inv h1).1
    obtain ⟨wd, hw, -, hw6⟩ := width_posD hrb
    have hf := TenF.of h1 hw
    have hia := at_idxOf (find_mem h2)
    have hjb := at_idxOf (find_mem h3)
    have hne : L.idxOf a ≠ L.idxOf b := fun e => h4 (by unfold findI; rw [if_pos (find_mem h2), if_pos (find_mem h3), e])
    have hp2 := prodL_subD (ex_sub (b := b) hf.ax.2.2.2.2 hf.ax.2.1) hf.dim
    unfold diagL
    rw [hw, Int.toNat_natCast, gather_len (wd := wd) _ (fun n _ => getL_len (by
      have h6 := (diag_lt hf.ax.2.2.2.2 hf.ax.2.1 hia hjb hne h5 hf.dim n).2.2
      have h7 := hf.pr
      have h8 := Nat.mul_le_mul_right wd (show diagF L D b (L.idxOf a) (L.idxOf b) n + 1 ≤ (prodL D).toNat by omega)
      rw [Nat.add_mul, Nat.one_mul] at h8
      rw [hf.lX]; exact h8))]
    have h9 := hf.pr
    have h10 := hf.n1
    exact Nat.le_trans (Nat.mul_le_mul (show _ ≤ 4096 by omega) hw6) (by omega)
  · simp
end Go.Proofs.Ytgbmacppgaopfaa
