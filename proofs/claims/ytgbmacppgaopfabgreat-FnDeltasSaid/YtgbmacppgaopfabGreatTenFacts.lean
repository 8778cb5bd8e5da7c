
/- What a valid tensor is: its width, its size, its elements. -/
import Derived.Test.YtgbmacppgaopfabGreatElemAt
import Derived.Test.YtgbmacppgaopfabGreatTensorOk2
namespace Go.Proofs.YtgbmacppgaopfabGreat
set_option maxRecDepth 20000
open Go.RowKit

/-- What an element of a valid tensor is. -/
theorem getL_elem {k p q : Int} {X : List Int} {wd N i : Nat} (hw : widthI k q = (wd : Int)) (hX : X.length = N * wd) (ht : Within (topI k p q) X) (hi : i < N) : ElemV k p q (getL wd X i) := by
  have h1 := Nat.mul_le_mul_right wd (show i + 1 ≤ N by omega)
  rw [Nat.add_mul, Nat.one_mul] at h1
  refine ⟨?_, fun x hx => ?_⟩
  · rw [getL_len (by omega), hw]
  · unfold getL at hx
    exact ht x (List.mem_of_mem_drop (List.mem_of_mem_take hx))
structure TF (k p q : Int) (L D X : List Int) (wd N : Nat) : Prop where
  rg : ringB k p q = true
  ax : AxesV L D
  pr : prodL D = (N : Int)
  n1 : 1 ≤ N ∧ N ≤ 4096
  hw : widthI k q = (wd : Int)
  w6 : 1 ≤ wd ∧ wd ≤ 6
  lX : X.length = N * wd
  wX : Within (topI k p q) X
theorem TF.of {k p q : Int} {L D X : List Int} (ht : tensorB k p q L D X = true) : TF k p q L D X (widthI k q).toNat (prodL D).toNat := by
  obtain ⟨hrb, hs0, hxl, hwi⟩ := tensorB_inv ht
  have hwd := ring_width hrb
  rcases sizeI_cases L D with ⟨h, -⟩ | ⟨h1, h2, h3, h4⟩
  · omega
  · refine ⟨hrb, h2, by omega, by omega, by omega, by omega, ?_, hwi⟩
    have e1 : (((prodL D).toNat * (widthI k q).toNat : Nat) : Int) = prodL D * widthI k q := by
      rw [Int.natCast_mul, Int.toNat_of_nonneg (by omega), Int.toNat_of_nonneg (by omega)]
    rw [h1, ← e1] at hxl
    exact_mod_cast hxl
/-- What a function answers that makes a tensor and says whether. -/
def NewTen2 (w : World) (L D X : List Int) (b : Bool) (e : Ending) (w' : World) : Prop := ∃ lv dv xv, e = .returned (.tuple #[tenV lv dv xv, .bool b]) ∧ OwnG w' w.heap.size w'.heap.size [(lv, L), (dv, D), (xv, X)] ∧ Below w.heap.size w w'
theorem NewTen2.nils {w w' : World} {b : Bool} (h : Below w.heap.size w w') : NewTen2 w [] [] [] b (.returned (.tuple #[tenV nilV nilV nilV, .bool b])) w' :=
  ⟨_, _, _, rfl, OwnG.three (Own.nils h.size) (Own.nils (Nat.le_refl _)) (Own.nils (Nat.le_refl _)) (Nat.le_refl _) h.size (Nat.le_refl _), h⟩
end Go.Proofs.YtgbmacppgaopfabGreat
