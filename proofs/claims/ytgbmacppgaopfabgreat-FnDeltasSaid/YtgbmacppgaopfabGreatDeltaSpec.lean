
/- spec.DeltaTensor, and what a delta tensor holds. -/
import Derived.Test.YtgbmacppgaopfabGreatPermSpec
import Derived.Test.YtgbmacppgaopfabGreatSliceMath
import Derived.Test.YtgbmacppgaopfabGreatZeroImpl
import Derived.Deep.RegionHeld3
namespace Go.Proofs.YtgbmacppgaopfabGreat
set_option maxRecDepth 20000
open Go.RowKit

/-- The offset of the index with the same value for all labels. -/
def diagO (D : List Int) (i : Nat) : Nat := (offI D (List.replicate D.length (i : Int))).toNat
/-- Ones are put at the first j of these offsets. -/
def deltaTo (wd : Nat) (D one Z : List Int) (j : Nat) : List Int := (List.range j).foldl (fun X i => putL X (diagO D i * wd) one) Z
noncomputable def deltaL (k p q : Int) (m : Nat) (d : Int) : List Int := deltaTo (widthI k q).toNat (List.replicate m d) (oneL k p q) (zeroTenL k p q (List.replicate m d)) d.toNat
noncomputable def deltaB (k p q : Int) (L : List Int) (d : Int) : Bool := ringB k p q && (decide (1 ≤ d ∧ d ≤ 8) && decide (0 ≤ sizeI L (List.replicate L.length d)))
theorem deltaTo_zero (wd : Nat) (D one Z : List Int) : deltaTo wd D one Z 0 = Z := rfl
theorem deltaTo_succ (wd : Nat) (D one Z : List Int) (j : Nat) : deltaTo wd D one Z (j + 1) = putL (deltaTo wd D one Z j) (diagO D j * wd) one := by unfold deltaTo; rw [List.range_succ, List.foldl_append]; rfl
theorem rep_in {m i : Nat} {d : Int} (h : (i : Int) < d) : InIx (List.replicate m d) (List.replicate m (i : Int)) := by
  refine ⟨by simp, fun j hj => ?_⟩
  rw [List.length_replicate] at hj
  rw [List.getD_eq_getElem?_getD, List.getD_eq_getElem?_getD, List.getElem?_replicate, List.getElem?_replicate, if_pos hj, if_pos hj]
  exact ⟨by simp, by simpa using h⟩
theorem rep_dims {m : Nat} {d : Int} (h : 1 ≤ d ∧ d ≤ 8) : ∀ x ∈ List.replicate m d, 1 ≤ x ∧ x ≤ 8 := fun x hx => by
  rw [(List.mem_replicate.1 hx).2]; exact h
theorem diagO_is {m i : Nat} {d : Int} (hd : 1 ≤ d ∧ d ≤ 8) (h : (i : Int) < d) : offI (List.replicate m d) (List.replicate m (i : Int)) = (diagO (List.replicate m d) i : Int) ∧ (diagO (List.replicate m d) i : Int) < prodL (List.replicate m d) := by
  have hr := offP_range (fun x hx => (rep_dims hd x hx).1) (rep_in (m := m) h) (List.replicate m d).length (Nat.le_refl _)
  rw [← offI_is, List.take_of_length_le (Nat.le_refl _)] at hr
  unfold diagO
  rw [List.length_replicate]
  omega
theorem putL_lens {X x : List Int} {s : Nat} (h : s + x.length ≤ X.length) : (putL X s x).length = X.length := by
  unfold putL; simp only [List.length_append, List.length_take, List.length_drop]; omega
/-- What is known of a delta tensor that is made. -/
structure DF (k p q : Int) (L : List Int) (d : Int) (m wd N : Nat) (D : List Int) : Prop where
  rg : ringB k p q = true
  d8 : 1 ≤ d ∧ d ≤ 8
  lL : L.length = m
  eD : D = List.replicate m d
  ax : AxesV L D
  pr : prodL D = (N : Int)
  n1 : 1 ≤ N ∧ N ≤ 4096
  hw : widthI k q = (wd : Int)
  w6 : 1 ≤ wd ∧ wd ≤ 6
theorem DF.of {k p q : Int} {L : List Int} {d : Int} (h : deltaB k p q L d = true) : DF k p q L d L.length (widthI k q).toNat (prodL (List.replicate L.length d)).toNat (List.replicate L.length d) := by
  unfold deltaB at h
  simp only [Bool.and_eq_true, decide_eq_true_eq] at h
  obtain ⟨hr, hd, hs⟩ := h
  have hwd := ring_width hr
  rcases sizeI_cases L (List.replicate L.length d) with ⟨h, -⟩ | ⟨h1, h2, h3, h4⟩
  · omega
  · exact ⟨hr, hd, rfl, rfl, h2, by omega, by omega, by omega, by omega⟩
theorem DF.cap {k p q : Int} {L : List Int} {d : Int} {m wd N : Nat} {D : List Int} (h : DF k p q L d m wd N D) : capI D = (N : Int) := by
  have h1 := (capI_is (fun x hx => (h.ax.2.2.2.1 x hx).1)).1
  have h2 := h.pr
  have h3 := h.n1
  omega
theorem DF.off {k p q : Int} {L : List Int} {d : Int} {m wd N : Nat} {D : List Int} (h : DF k p q L d m wd N D) {i : Nat} (hi : (i : Int) < d) : offI D (List.replicate m (i : Int)) = (diagO D i : Int) ∧ diagO D i < N ∧ diagO D i * wd + wd ≤ N * wd := by
  have h1 := diagO_is (m := m) h.d8 hi
  rw [← h.eD, h.pr] at h1
  have h2 : diagO D i < N := by omega
  refine ⟨h1.1, h2, ?_⟩
  have h3 := Nat.mul_le_mul_right wd (show diagO D i + 1 ≤ N by omega)
  rw [Nat.add_mul, Nat.one_mul] at h3
  exact h3
theorem DF.one {k p q : Int} {L : List Int} {d : Int} {m wd N : Nat} {D : List Int} (h : DF k p q L d m wd N D) : (oneL k p q).length = wd := by
  have h1 := h.hw
  unfold oneL; simp [h1]
theorem DF.len {k p q : Int} {L : List Int} {d : Int} {m wd N : Nat} {D : List Int} (h : DF k p q L d m wd N D) : ∀ j : Nat, (j : Int) ≤ d → (deltaTo wd D (oneL k p q) (repL (zeroL k p q) N) j).length = N * wd := by
  intro j
  induction j with
  | zero => intro _; rw [deltaTo_zero, repL_len]; have h1 := h.hw; unfold zeroL; simp [h1]
  | succ j ih =>
    intro hj
    have h1 := ih (by omega)
    rw [deltaTo_succ, putL_lens (by rw [h1, h.one]; exact (h.off (by omega)).2.2), h1]
theorem rep_snoc (j : Nat) (x : Int) : List.replicate j x ++ [x] = List.replicate (j + 1) x := by rw [List.replicate_succ']

end Go.Proofs.YtgbmacppgaopfabGreat
