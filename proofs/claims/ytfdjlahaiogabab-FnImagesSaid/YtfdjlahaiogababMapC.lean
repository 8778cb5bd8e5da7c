
/- Two rings, a homomorphism, a tensor and a box for the answer, one after the other; the images of the elements. -/
import Derived.Test.YtfdjlahaiogababPermSpec
import Derived.Test.YtfdjlahaiogababHomMath
namespace Go.Proofs.Ytfdjlahaiogabab
set_option maxRecDepth 20000
open Go.RowKit

/-- Two rings, a homomorphism, a tensor and a box for the answer, one after the other. -/
structure MapC (w W : World) (fk fp fn tk tp tn hk ha : Int) (x y z : Value) : Prop where
  lt : w.heap.size + 5 ≤ W.heap.size
  f0 : W.cell? ⟨w.heap.size, 0, none⟩ = some (.int .i64 fk)
  f1 : W.cell? ⟨w.heap.size, 1, none⟩ = some (.int .i64 fp)
  f2 : W.cell? ⟨w.heap.size, 2, none⟩ = some (.int .i64 fn)
  g0 : W.cell? ⟨w.heap.size + 1, 0, none⟩ = some (.int .i64 tk)
  g1 : W.cell? ⟨w.heap.size + 1, 1, none⟩ = some (.int .i64 tp)
  g2 : W.cell? ⟨w.heap.size + 1, 2, none⟩ = some (.int .i64 tn)
  h0 : W.cell? ⟨w.heap.size + 1 + 1, 0, none⟩ = some (.int .i64 hk)
  h1 : W.cell? ⟨w.heap.size + 1 + 1, 1, none⟩ = some (.int .i64 ha)
  t0 : W.cell? ⟨w.heap.size + 1 + 1 + 1, 0, none⟩ = some x
  t1 : W.cell? ⟨w.heap.size + 1 + 1 + 1, 1, none⟩ = some y
  t2 : W.cell? ⟨w.heap.size + 1 + 1 + 1, 2, none⟩ = some z
  n0 : W.cell? ⟨w.heap.size + 1 + 1 + 1 + 1, 0, none⟩ = some nilV
  n1 : W.cell? ⟨w.heap.size + 1 + 1 + 1 + 1, 1, none⟩ = some nilV
  n2 : W.cell? ⟨w.heap.size + 1 + 1 + 1 + 1, 2, none⟩ = some nilV
  fr : ∀ i, W.frozen? ⟨w.heap.size + 1 + 1 + 1 + 1, i, none⟩ = false
theorem MapC.step {w W W' : World} {fk fp fn tk tp tn hk ha : Int} {x y z : Value} (h : MapC w W fk fp fn tk tp tn hk ha x y z) (hb : Below W.heap.size W W') : MapC w W' fk fp fn tk tp tn hk ha x y z := by
  have l := h.lt
  have c : ∀ {b i : Nat} {v : Value}, b < w.heap.size + 5 → W.cell? ⟨b, i, none⟩ = some v → W'.cell? ⟨b, i, none⟩ = some v := fun hlt hc => (hb.cell (p := ⟨_, _, none⟩) (Nat.lt_of_lt_of_le hlt l)).trans hc
  exact ⟨Nat.le_trans l hb.size, c (by omega) h.f0, c (by omega) h.f1, c (by omega) h.f2, c (by omega) h.g0, c (by omega) h.g1, c (by omega) h.g2, c (by omega) h.h0, c (by omega) h.h1, c (by omega) h.t0, c (by omega) h.t1, c (by omega) h.t2, c (by omega) h.n0, c (by omega) h.n1, c (by omega) h.n2, fun i => (World.frozen?_of_block (hb.block _ (Nat.lt_of_lt_of_le (Nat.lt_succ_self _) l))).trans (h.fr i)⟩
theorem MapC.start (w : World) (fk fp fn tk tp tn hk ha : Int) (x y z : Value) (T1 T2 T3 T4 T5 : TypeId) : MapC w (((((w.alloc (.cells #[.int .i64 fk, .int .i64 fp, .int .i64 fn] T1)).alloc (.cells #[.int .i64 tk, .int .i64 tp, .int .i64 tn] T2)).alloc (.cells #[.int .i64 hk, .int .i64 ha] T3)).alloc (.cells #[x, y, z] T4)).alloc (.cells #[nilV, nilV, nilV] T5)) fk fp fn tk tp tn hk ha x y z := by
  have a1 := Below.refl w.heap.size w
  have e0 := Bx.new a1 (.int .i64 fk) (.int .i64 fp) (.int .i64 fn) T1
  have b1 := a1.alloc (Nat.le_refl _) (.cells #[.int .i64 fk, .int .i64 fp, .int .i64 fn] T1)
  have e1 := Bx.new b1 (.int .i64 tk) (.int .i64 tp) (.int .i64 tn) T2
  have b2 := b1.alloc (by simp) (.cells #[.int .i64 tk, .int .i64 tp, .int .i64 tn] T2)
  have b3 := b2.alloc (by simp; omega) (.cells #[.int .i64 hk, .int .i64 ha] T3)
  have e3 := Bx.new b3 x y z T4
  have b4 := b3.alloc (by simp; omega) (.cells #[x, y, z] T4)
  have e4 := Bx.new b4 nilV nilV nilV T5
  simp only [World.size_alloc] at e1 e3 e4
  have al : ∀ (V : World) (o : Obj), Below V.heap.size V (V.alloc o) := fun V o => (Below.refl _ _).alloc (Nat.le_refl _) o
  have k0 := (((e0.step (al _ (.cells #[.int .i64 tk, .int .i64 tp, .int .i64 tn] T2))).step (al _ (.cells #[.int .i64 hk, .int .i64 ha] T3))).step (al _ (.cells #[x, y, z] T4))).step (al _ (.cells #[nilV, nilV, nilV] T5))
  have k1 := ((e1.step (al _ (.cells #[.int .i64 hk, .int .i64 ha] T3))).step (al _ (.cells #[x, y, z] T4))).step (al _ (.cells #[nilV, nilV, nilV] T5))
  have k3 := e3.step (al _ (.cells #[nilV, nilV, nilV] T5))
  have hh : ∀ i v, (#[Value.int .i64 hk, .int .i64 ha] : Array Value)[i]? = some v → (((((w.alloc (.cells #[.int .i64 fk, .int .i64 fp, .int .i64 fn] T1)).alloc (.cells #[.int .i64 tk, .int .i64 tp, .int .i64 tn] T2)).alloc (.cells #[.int .i64 hk, .int .i64 ha] T3)).alloc (.cells #[x, y, z] T4)).alloc (.cells #[nilV, nilV, nilV] T5)).cell? ⟨w.heap.size + 1 + 1, i, none⟩ = some v := fun i v hv => by
    refine ((al _ (.cells #[nilV, nilV, nilV] T5)).cell (p := ⟨w.heap.size + 1 + 1, i, none⟩) (by simp)).trans (((al _ (.cells #[x, y, z] T4)).cell (p := ⟨w.heap.size + 1 + 1, i, none⟩) (by simp)).trans ?_)
    have := World.cell?_alloc_new ((w.alloc (.cells #[.int .i64 fk, .int .i64 fp, .int .i64 fn] T1)).alloc (.cells #[.int .i64 tk, .int .i64 tp, .int .i64 tn] T2)) #[.int .i64 hk, .int .i64 ha] T3 i
    simp only [World.size_alloc] at this
    rw [this]; exact hv
  exact ⟨by simp, k0.c0, k0.c1, k0.c2, k1.c0, k1.c1, k1.c2, hh 0 _ rfl, hh 1 _ rfl, k3.c0, k3.c1, k3.c2, e4.c0, e4.c1, e4.c2, e4.fr⟩

def mapF (fk tk tp tn hk ha : Int) (wd : Nat) (X : List Int) (i : Nat) : List Int := imageL fk tk tp tn hk ha (getL wd X i)
noncomputable def mapTenL (fk fn tk tp tn hk ha : Int) (D X : List Int) : List Int := gatherL (mapF fk tk tp tn hk ha (widthI fk fn).toNat X) (prodL D).toNat
theorem image_elem {fk fp fn tk tp tn hk ha : Int} {xs : List Int} (hh : homB fk fp fn tk tp tn hk ha = true) (he : ElemV fk fp fn xs) : ElemV tk tp tn (imageL fk tk tp tn hk ha xs) := (hom_any hh).elem xs he
noncomputable def mapB (fk fp fn tk tp tn hk ha : Int) (L D X : List Int) : Bool := homB fk fp fn tk tp tn hk ha && tensorB fk fp fn L D X
theorem mapB_parts {fk fp fn tk tp tn hk ha : Int} {L D X : List Int} (h : mapB fk fp fn tk tp tn hk ha L D X = true) : homB fk fp fn tk tp tn hk ha = true ∧ tensorB fk fp fn L D X = true := by
  unfold mapB at h
  simpa only [Bool.and_eq_true] using h
end Go.Proofs.Ytfdjlahaiogabab
