
/- From how an argument reads to what the walks ask: a tensor. -/
import Derived.Test.YtdheakjjnaifkaaOpen
import Derived.Test.YtdheakjjnaifkaaTensorOk
import Derived.Lib.SmallJoins
namespace Go.Proofs.Ytdheakjjnaifkaa
set_option maxRecDepth 20000
open Go.ChangeShapes Go.WideShapes Go.ChangeAt Go.WideMaps Go.WideElems Go.RowKit Go.Joins

/-- A list of integers in a field. -/
theorem open_ints_cell {H : Type} {enc : TypeId × Value → H} {W : World} {m : Nat} {c : Value} {y : DataW H × List MemPlace} (hf : DataW.trod enc Try.prog W 0 (fun _ => true) true m 25 [c] = some y) (hlt : ∀ x ∈ y.2, x.block < W.heap.size) :
    ∃ xs, Rd W.heap.size W c (ints xs) ∧ allI xs ∧ (xs = [] ∨ ∃ spare, y.1 = .slice (lits .i64 xs) spare) := by
  rcases open_ints Try.underlying25 Try.underlying3 (by kernel_rfl) hf with ⟨hcs, hx⟩ | ⟨a, len', cap', zs, hcs, _, hl, hm, hz, hx, hcell, hwz⟩
  · simp at hcs
    subst hcs
    exact ⟨[], .inl ⟨rfl, _, _, rfl⟩, (fun z hz => by simp at hz), .inl rfl⟩
  · simp at hcs
    subst hcs
    subst hx
    simp only [if_true] at hz
    have hI : allI (zs.take len') := fun z hz' => by
      have e1 : IntKind.i64.min = -9223372036854775808 := rfl
      have e2 : IntKind.i64.max = 9223372036854775807 := rfl
      have := hwz z (List.mem_of_mem_take hz')
      simp [Lit.wf, e1, e2] at this
      exact this
    refine ⟨zs.take len', ?_, hI, .inr ⟨_, rfl⟩⟩
    have hlen : (zs.take len').length = len' := by rw [List.length_take]; omega
    by_cases h0 : len' = 0
    · subst h0; exact .inl ⟨by simp [ints], _, _, rfl⟩
    · obtain ⟨b, off, rfl⟩ : ∃ b off, a = ⟨b, off, none⟩ := by
        have := hcell 0 (by omega)
        have e : a.add 0 = a := by unfold Addr.add; split <;> simp_all
        rw [e] at this
        exact addr_of this
      refine .inr ⟨b, off, cap', by rw [ints_len, hlen], hlt (.cell b off) (MemPlace.mem_row.2 ⟨0, by omega, by simp⟩), by rw [ints_len, hlen]; exact hl, fun i u hi => ?_⟩
      have hi' : i < len' := by
        have := (List.getElem?_eq_some_iff.1 hi).1
        rw [ints_len, hlen] at this; exact this
      have hc := hcell i (by omega)
      have e : (⟨b, off, none⟩ : Addr).add i = ⟨b, off + i, none⟩ := by unfold Addr.add; split <;> simp_all
      rw [e] at hc
      rw [hc, ← hi]
      simp [ints, hi', List.getD, List.getElem?_eq_getElem (show i < zs.length by omega)]
theorem tenCells : Try.prog.cellsOf 98 = 3 := by kernel_rfl
def ListData {H : Type} (d : DataW H) (xs : List Int) : Prop := xs = [] ∨ ∃ spare, d = .slice (lits .i64 xs) spare
theorem open_ten {H : Type} {enc : TypeId × Value → H} {W : World} {base : Nat} {v : Value} {d : DataW H} {ps : List MemPlace} (hok : Value.okWide Try.prog W .any base 98 v) (h : DataW.Trod enc Try.prog W 0 (fun _ => true) true 98 v d ps) (hlt : ∀ x ∈ ps, x.block < W.heap.size) :
    ∃ lv dv xv L D X d0 d1 d2, v = tenV lv dv xv ∧ d = .agg [d0, d1, d2] ∧ Rd W.heap.size W lv (ints L) ∧ Rd W.heap.size W dv (ints D) ∧ Rd W.heap.size W xv (ints X) ∧ ListData d0 L ∧ ListData d1 D ∧ ListData d2 X ∧ allI L ∧ allI D ∧ allI X := by
  obtain ⟨c0, c1, c2, y0, y1, y2, m, rfl, rfl, rfl, hy0, hy1, hy2⟩ := open_agg3 Try.underlying98 (by kernel_rfl) tenCells hok h
  obtain ⟨L, r0, i0, s0⟩ := open_ints_cell hy0 (fun x hx => hlt x (by simp [hx]))
  obtain ⟨D, r1, i1, s1⟩ := open_ints_cell hy1 (fun x hx => hlt x (by simp [hx]))
  obtain ⟨X, r2, i2, s2⟩ := open_ints_cell hy2 (fun x hx => hlt x (by simp [hx]))
  exact ⟨c0, c1, c2, L, D, X, y0.1, y1.1, y2.1, rfl, rfl, r0, r1, r2, s0, s1, s2, i0, i1, i2⟩
theorem ten_bound {H : Type} {ts : List TypeId} {ds : List (DataW H)} {j : Nat} {d0 d1 d2 : DataW H} {L D X : List Int} (h : (DataW.weightsEach Try.prog ts ds).all (· ≤ reachBytes) = true) (ht : ts[j]? = some 98) (hd : ds[j]? = some (.agg [d0, d1, d2])) (h0 : ListData d0 L) (h1 : ListData d1 D) (h2 : ListData d2 X) :
    L.length ≤ 17592186044416 ∧ D.length ≤ 17592186044416 ∧ X.length ≤ 17592186044416 := by
  have h' : (DataW.weightsEach Try.prog [25, 25, 25] [d0, d1, d2]).all (· ≤ reachBytes) = true := by
    refine List.all_eq_true.2 fun n hn => List.all_eq_true.1 h n (DataW.weights_mem_each ht hd n ?_)
    rw [DataW.weights, Try.underlying98]
    exact hn
  exact ⟨ints_bound h' (j := 0) rfl rfl h0, ints_bound h' (j := 1) rfl rfl h1, ints_bound h' (j := 2) rfl rfl h2⟩
end Go.Proofs.Ytdheakjjnaifkaa
