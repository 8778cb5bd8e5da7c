
/- What a valid tensor is: its width, its size, its elements. -/
import Derived.Test.YtdheakjjnaifkaaElemAt
import Derived.Test.YtdheakjjnaifkaaTensorOk2
namespace Go.Proofs.Ytdheakjjnaifkaa
set_option maxRecDepth 20000
open Go.RowKit

/-- What an element of a valid tensor is. -/
theorem getL_elem {k p q : Int} {X : List Int} {wd N i : Nat} (hw : widthI k q = (wd : Int)) (hX : X.length = N * wd) (ht : Within (topI k p q) X) (hi : i < N) : ElemV k p q (getL wd X i) := by
  have h1 := Nat.mul_le_mul_right wd (show i + 1 ≤ N by omega)
  rw [Nat.add_mul, Nat.one_mul] at h1
  refine ⟨?_, fun x hx => ?_⟩
  · rw [getL_len (by omega), hw]
  · unfold getL at hx
    exact ht x (List.mem_of_mem_drop (List.mem_of_mem_take hx))
structure TF (k p q : Int) (L D X : List Int) (wd N : Nat) : Prop where
  rg : ringB k p q = true
  ax : AxesV L D
  pr : prodL D = (N : Int)
  n1 : 1 ≤ N ∧ N ≤ 4096
  hw : widthI k q = (wd : Int)
  w6 : 1 ≤ wd ∧ wd ≤ 6
  lX : X.length = N * wd
  wX : Within (topI k p q) X
theorem TF.of {k p q : Int} {L D X : List Int} (ht : tensorB k p q L D X = true) : TF k p q L D X (widthI k q).toNat (prodL D).toNat := by
  obtain ⟨hrb, hs0, hxl, hwi⟩ := tensorB_inv ht
  have hwd := ring_width hrb
  rcases sizeI_cases L D with ⟨h, -⟩ | ⟨h1, h2, h3, h4⟩
  · omega
  · refine ⟨hrb, h2, by omega, by omega, by omega, by omega, ?_, hwi⟩
    have e1 : (((prodL D).toNat * (widthI k q).toNat : Nat) : Int) = prodL D * widthI k q := by
      rw [Int.natCast_mul, Int.toNat_of_nonneg (by omega), Int.toNat_of_nonneg (by omega)]
    rw [h1, ← e1] at hxl
    exact_mod_cast hxl
/-- What a function answers that makes a tensor and says whether. -/
def NewTen2 (w : World) (L D X : List Int) (b : Bool) (e : Ending) (w' : World) : Prop := ∃ lv dv xv, e = .returned (.tuple #[tenV lv dv xv, .bool b]) ∧ OwnG w' w.heap.size w'.heap.size [(lv, L), (dv, D), (xv, X)] ∧ Below w.heap.size w w'
theorem NewTen2.nils {w w' : World} {b : Bool} (h : Below w.heap.size w w') : NewTen2 w [] [] [] b (.returned (.tuple #[tenV nilV nilV nilV, .bool b])) w' :=
  ⟨_, _, _, rfl, OwnG.three (Own.nils h.size) (Own.nils (Nat.le_refl _)) (Own.nils (Nat.le_refl _)) (Nat.le_refl _) h.size (Nat.le_refl _), h⟩
/-- Two rows more, out of a call. -/
theorem Rs.new2 {w0 wr w' : World} {bs : List BxE} {rows : List RowE} {a b : Value} {x y : List Int} (h : Rs w0 wr bs rows) (hb : Below wr.heap.size wr w') (ho : OwnG w' wr.heap.size w'.heap.size [(a, x), (b, y)]) : Rs w0 w' bs ((a, x) :: (b, y) :: rows) := by
  have h1 := h.step hb
  have hlo : ∀ r ∈ [(a, x), (b, y)], ∀ g, r.1.ownBlock = some g → wr.heap.size ≤ g := fun r hr g hg => (ho.1 r hr).lo g hg
  have e : (a, x) :: (b, y) :: rows = [(a, x), (b, y)] ++ rows := rfl
  rw [e]
  refine ⟨h1.bel, fun r hr => ?_, List.pairwise_append.2 ⟨ho.2, h.apart, fun r hr s hs g hg e => ?_⟩, h1.bx, fun b hm r hr => ?_, h.dis⟩
  · rcases List.mem_append.1 hr with hr | hr
    · have hq := ho.1 r hr
      exact ⟨hq.1.1, hq.1.2.imp id (fun ⟨g, cap, cur, e, hb, q⟩ => ⟨g, cap, cur, e, Nat.le_trans h.bel.size hb, q⟩)⟩
    · exact h1.own r hr
  · have h2 := hlo r hr g hg
    have h3 := ((h.own s hs).lt g e).2
    omega
  · rcases List.mem_append.1 hr with hr | hr
    · intro e
      have h2 := hlo r hr _ e
      have h3 := (h.bx b hm).lt
      omega
    · exact h.far b hm r hr
end Go.Proofs.Ytdheakjjnaifkaa
