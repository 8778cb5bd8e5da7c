
/- From how an argument reads to what the walks ask: a homomorphism. -/
import Derived.Test.YtjoddheakjndfaaHomLaw
import Derived.Test.YtjoddheakjndfaaOpenRing
namespace Go.Proofs.Ytjoddheakjndfaa
set_option maxRecDepth 20000
open Go.ChangeShapes Go.WideShapes Go.ChangeAt Go.RowKit Go.Joins

theorem homCells : Try.prog.cellsOf 43 = 2 := by kernel_rfl
theorem open_hom {H : Type} {enc : TypeId × Value → H} {W : World} {base : Nat} {v : Value} {d : DataW H} {ps : List MemPlace} (hok : Value.okWide Try.prog W .any base 43 v) (h : DataW.Trod enc Try.prog W 0 (fun _ => true) true 43 v d ps) :
    ∃ k a : Int, v = homV k a ∧ d = .agg [.lit (.int .i64 k), .lit (.int .i64 a)] ∧ ps = [] ∧ (Lit.int .i64 k).wf = true ∧ (Lit.int .i64 a).wf = true := by
  obtain ⟨c0, c1, y0, y1, m, rfl, rfl, rfl, hy0, hy1⟩ := open_agg2 Try.underlying43 (by kernel_rfl) homCells hok h
  obtain ⟨a, e0, rfl, wa⟩ := DataW.trod_int Try.underlying3 hy0
  obtain ⟨b, e1, rfl, wb⟩ := DataW.trod_int Try.underlying3 hy1
  simp at e0 e1
  subst e0 e1
  exact ⟨a, b, rfl, rfl, rfl, wa, wb⟩
theorem shut_hom {H : Type} {enc : TypeId × Value → H} {W' : World} {sp : Nat → Bool} {k a : Int} (wa : (Lit.int .i64 k).wf = true) (wb : (Lit.int .i64 a).wf = true) :
    DataW.Trod enc Try.prog W' 0 sp true 43 (homV k a) (.agg [.lit (.int .i64 k), .lit (.int .i64 a)]) [] :=
  shut_agg2 (y0 := (.lit (.int .i64 k), [])) (y1 := (.lit (.int .i64 a), [])) Try.underlying43 (by kernel_rfl) homCells ⟨1, by simp [DataW.trod, Try.underlying3, wa]⟩ ⟨1, by simp [DataW.trod, Try.underlying3, wb]⟩
end Go.Proofs.Ytjoddheakjndfaa
