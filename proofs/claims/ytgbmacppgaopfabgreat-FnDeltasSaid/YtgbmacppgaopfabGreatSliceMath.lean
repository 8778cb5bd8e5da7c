
/- Slices: some labels have given values; the elements that are left, in their order. -/
import Derived.Test.YtgbmacppgaopfabGreatTensorOk
import Derived.Test.YtgbmacppgaopfabGreatTenFacts
import Derived.Test.YtgbmacppgaopfabGreatJoinMath
import Derived.Test.YtgbmacppgaopfabGreatTensorOk2
import Derived.Test.YtgbmacppgaopfabGreatElemAt
namespace Go.Proofs.YtgbmacppgaopfabGreat
set_option maxRecDepth 20000

/-- What is given is in range. -/
def OkC (C : List (Option Int)) (D : List Int) : Prop := C.length = D.length ∧ ∀ (i : Nat) (v d : Int), C[i]? = some (some v) → D[i]? = some d → 0 ≤ v ∧ v < d

theorem OkC.snoc {C : List (Option Int)} {D : List Int} {o : Option Int} {d : Int} (h : OkC (C ++ [o]) (D ++ [d])) (hl : C.length = D.length) : OkC C D ∧ ∀ v, o = some v → 0 ≤ v ∧ v < d := by
  refine ⟨⟨hl, fun i v e h1 h2 => ?_⟩, fun v hv => ?_⟩
  · have i1 := (List.getElem?_eq_some_iff.1 h1).1
    exact h.2 i v e (by rw [List.getElem?_append_left i1]; exact h1) (by rw [List.getElem?_append_left (by omega)]; exact h2)
  · subst hv
    exact h.2 C.length v d (by simp) (by rw [hl]; simp)
/-- What the lists fix a label to: of equal labels the first one counts. -/
def cK (K V : List Int) (n : Int) : Option Int := if n ∈ K then some (V.getD (K.idxOf n) 0) else none
theorem cK_none {K V : List Int} {n : Int} (h : n ∉ K) : cK K V n = none := if_neg h
theorem cK_some {K V : List Int} {n : Int} (h : n ∈ K) : cK K V n = some (V.getD (K.idxOf n) 0) := if_pos h
end Go.Proofs.YtgbmacppgaopfabGreat
namespace Go.Proofs.YtgbmacppgaopfabGreat
set_option maxRecDepth 20000

section
variable {k p q : Int} {L D X : List Int} {wd N : Nat}
theorem TF.dim (h : TF k p q L D X wd N) : ∀ d ∈ D, 1 ≤ d := fun d hd => (h.ax.2.2.2.1 d hd).1
theorem TF.room (h : TF k p q L D X wd N) (o : Nat) (ho : (o : Int) < prodL D) : o * wd + wd ≤ X.length := by
  have h1 := h.pr
  have h3 := Nat.mul_le_mul_right wd (show o + 1 ≤ N by omega)
  rw [Nat.add_mul, Nat.one_mul] at h3
  rw [h.lX]; exact h3
theorem TF.x (h : TF k p q L D X wd N) : X.length ≤ 24576 := by
  rw [h.lX]; exact Nat.le_trans (Nat.mul_le_mul h.n1.2 h.w6.2) (by omega)
theorem TF.yes (h : TF k p q L D X wd N) : tensorB k p q L D X = true := by
  have hs : sizeI L D = prodL D := by
    rcases sizeI_cases L D with ⟨-, h1⟩ | ⟨h1, -⟩
    · exact absurd ⟨axesB_true.2 h.ax, by have := h.pr; have := h.n1; omega⟩ h1
    · exact h1
  have := h.pr
  have := h.n1
  exact tensorB_yes h.rg (by omega) (by rw [hs, h.pr, h.hw, h.lX, Int.natCast_mul]) h.wX
end
end Go.Proofs.YtgbmacppgaopfabGreat
namespace Go.Proofs.YtgbmacppgaopfabGreat
set_option maxRecDepth 20000

end Go.Proofs.YtgbmacppgaopfabGreat
