
/- From how an argument reads to what the walks ask: a ring. -/
import Derived.Test.YtdheakjjnaifkaaRing
import Derived.Test.YtdheakjjnaifkaaOpen
import Derived.Lib.SmallJoins
namespace Go.Proofs.Ytdheakjjnaifkaa
set_option maxRecDepth 20000
open Go.ChangeShapes Go.WideShapes Go.ChangeAt Go.RowKit Go.Joins

theorem ringCells : Try.prog.cellsOf 23 = 3 := by kernel_rfl
theorem open_ring {H : Type} {enc : TypeId × Value → H} {W : World} {base : Nat} {v : Value} {d : DataW H} {ps : List MemPlace} (hok : Value.okWide Try.prog W .any base 23 v) (h : DataW.Trod enc Try.prog W 0 (fun _ => true) true 23 v d ps) :
    ∃ k p n : Int, v = ringV k p n ∧ d = .agg [.lit (.int .i64 k), .lit (.int .i64 p), .lit (.int .i64 n)] ∧ ps = [] ∧ (Lit.int .i64 k).wf = true ∧ (Lit.int .i64 p).wf = true ∧ (Lit.int .i64 n).wf = true := by
  obtain ⟨c0, c1, c2, y0, y1, y2, m, rfl, rfl, rfl, hy0, hy1, hy2⟩ := open_agg3 Try.underlying23 (by kernel_rfl) ringCells hok h
  obtain ⟨a, e0, rfl, wa⟩ := DataW.trod_int Try.underlying3 hy0
  obtain ⟨b, e1, rfl, wb⟩ := DataW.trod_int Try.underlying3 hy1
  obtain ⟨c, e2, rfl, wc⟩ := DataW.trod_int Try.underlying3 hy2
  simp at e0 e1 e2
  subst e0 e1 e2
  exact ⟨a, b, c, rfl, rfl, rfl, wa, wb, wc⟩
theorem shut_ring {H : Type} {enc : TypeId × Value → H} {W' : World} {sp : Nat → Bool} {k p n : Int} (wa : (Lit.int .i64 k).wf = true) (wb : (Lit.int .i64 p).wf = true) (wc : (Lit.int .i64 n).wf = true) :
    DataW.Trod enc Try.prog W' 0 sp true 23 (ringV k p n) (.agg [.lit (.int .i64 k), .lit (.int .i64 p), .lit (.int .i64 n)]) [] :=
  shut_agg3 (y0 := (.lit (.int .i64 k), [])) (y1 := (.lit (.int .i64 p), [])) (y2 := (.lit (.int .i64 n), [])) Try.underlying23 (by kernel_rfl) ringCells ⟨1, by simp [DataW.trod, Try.underlying3, wa]⟩ ⟨1, by simp [DataW.trod, Try.underlying3, wb]⟩ ⟨1, by simp [DataW.trod, Try.underlying3, wc]⟩
end Go.Proofs.Ytdheakjjnaifkaa
