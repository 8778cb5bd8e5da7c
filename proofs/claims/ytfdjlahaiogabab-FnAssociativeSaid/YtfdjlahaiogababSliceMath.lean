
/- Slices: some labels have given values; the elements that are left, in their order. -/
import Derived.Test.YtfdjlahaiogababTensorOk
import Derived.Test.YtfdjlahaiogababJoinMath
import Derived.Test.YtfdjlahaiogababTensorOk2
import Derived.Test.YtfdjlahaiogababElemAt
namespace Go.Proofs.Ytfdjlahaiogabab
set_option maxRecDepth 20000

/-- What is given is in range. -/
def OkC (C : List (Option Int)) (D : List Int) : Prop := C.length = D.length ∧ ∀ (i : Nat) (v d : Int), C[i]? = some (some v) → D[i]? = some d → 0 ≤ v ∧ v < d

theorem OkC.snoc {C : List (Option Int)} {D : List Int} {o : Option Int} {d : Int} (h : OkC (C ++ [o]) (D ++ [d])) (hl : C.length = D.length) : OkC C D ∧ ∀ v, o = some v → 0 ≤ v ∧ v < d := by
  refine ⟨⟨hl, fun i v e h1 h2 => ?_⟩, fun v hv => ?_⟩
  · have i1 := (List.getElem?_eq_some_iff.1 h1).1
    exact h.2 i v e (by rw [List.getElem?_append_left i1]; exact h1) (by rw [List.getElem?_append_left (by omega)]; exact h2)
  · subst hv
    exact h.2 C.length v d (by simp) (by rw [hl]; simp)
end Go.Proofs.Ytfdjlahaiogabab
namespace Go.Proofs.Ytfdjlahaiogabab
set_option maxRecDepth 20000

structure TF (k p q : Int) (L D X : List Int) (wd N : Nat) : Prop where
  rg : ringB k p q = true
  ax : AxesV L D
  pr : prodL D = (N : Int)
  n1 : 1 ≤ N ∧ N ≤ 4096
  hw : widthI k q = (wd : Int)
  w6 : 1 ≤ wd ∧ wd ≤ 6
  lX : X.length = N * wd
  wX : Within (topI k p q) X
theorem TF.of {k p q : Int} {L D X : List Int} (ht : tensorB k p q L D X = true) : TF k p q L D X (widthI k q).toNat (prodL D).toNat := by
  obtain ⟨hrb, hs0, hxl, hwi⟩ := tensorB_inv ht
  have hwd := ring_width hrb
  rcases sizeI_cases L D with ⟨h, -⟩ | ⟨h1, h2, h3, h4⟩
  · omega
  · refine ⟨hrb, h2, by omega, by omega, by omega, by omega, ?_, hwi⟩
    have e1 : (((prodL D).toNat * (widthI k q).toNat : Nat) : Int) = prodL D * widthI k q := by
      rw [Int.natCast_mul, Int.toNat_of_nonneg (by omega), Int.toNat_of_nonneg (by omega)]
    rw [h1, ← e1] at hxl
    exact_mod_cast hxl
section
variable {k p q : Int} {L D X : List Int} {wd N : Nat}
theorem TF.dim (h : TF k p q L D X wd N) : ∀ d ∈ D, 1 ≤ d := fun d hd => (h.ax.2.2.2.1 d hd).1
theorem TF.room (h : TF k p q L D X wd N) (o : Nat) (ho : (o : Int) < prodL D) : o * wd + wd ≤ X.length := by
  have h1 := h.pr
  have h3 := Nat.mul_le_mul_right wd (show o + 1 ≤ N by omega)
  rw [Nat.add_mul, Nat.one_mul] at h3
  rw [h.lX]; exact h3
theorem TF.x (h : TF k p q L D X wd N) : X.length ≤ 24576 := by
  rw [h.lX]; exact Nat.le_trans (Nat.mul_le_mul h.n1.2 h.w6.2) (by omega)
end
end Go.Proofs.Ytfdjlahaiogabab
namespace Go.Proofs.Ytfdjlahaiogabab
set_option maxRecDepth 20000

end Go.Proofs.Ytfdjlahaiogabab
