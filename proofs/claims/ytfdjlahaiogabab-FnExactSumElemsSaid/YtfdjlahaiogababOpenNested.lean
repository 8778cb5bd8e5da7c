
/- From how an argument reads to what the walks ask: a slice of slices of integers. -/
import Derived.Test.YtfdjlahaiogababNested2
import Derived.Test.YtfdjlahaiogababOpen
import Derived.Deep.Matrix
namespace Go.Proofs.Ytfdjlahaiogabab
set_option maxRecDepth 20000
open Go.ChangeShapes Go.WideShapes Go.ChangeAt Go.WideMaps Go.WideElems Go.RowKit

theorem addr_zero {a : Addr} {w : World} {v : Value} (h : w.cell? (a.add 0) = some v) : ∃ b off, a = ⟨b, off, none⟩ := by
  have e : a.add 0 = a := by unfold Addr.add; split <;> simp_all
  rw [e] at h
  exact addr_of h
/-- Every row of the datum is a slice of so many. -/
def RowData {H : Type} (d : DataW H) (rows : List (List Int)) : Prop := rows = [] ∨ ∃ elems spare, d = .slice elems spare ∧ elems.length = rows.length ∧ ∀ i (h : i < rows.length), rows[i] = [] ∨ ∃ e s, elems[i]? = some (.slice e s) ∧ e.length = (rows[i]).length
theorem open_nested {H : Type} {enc : TypeId × Value → H} {W : World} {base : Nat} {v : Value} {d : DataW H} {ps : List MemPlace} (hok : Value.okWide Try.prog W .any base 72 v) (h : DataW.Trod enc Try.prog W 0 (fun _ => true) true 72 v d ps) (hlt : ∀ x ∈ ps, x.block < W.heap.size) :
    ∃ rows, RdRows W.heap.size W v rows ∧ RowData d rows := by
  obtain ⟨a0, len, cap, rfl⟩ := okWide_slice Try.underlying72 hok
  obtain ⟨fuel, hf⟩ := h
  rcases Deep.open_int_rows Try.underlying72 Try.underlying24 Try.underlying3 (by kernel_rfl) (by kernel_rfl) hf with ⟨hcs, hx⟩ | ⟨a, len', cap', A, L, C, Z, hcs, _, hl, hmx, hx, hrow⟩
  · simp [Value.cells] at hcs
    obtain ⟨rfl, rfl, rfl⟩ := hcs
    exact ⟨[], ⟨[], .inl ⟨rfl, _, _, rfl⟩, rfl, fun i hi => by simp at hi⟩, .inl rfl⟩
  · simp [Value.cells] at hcs
    obtain ⟨rfl, rfl, rfl⟩ := hcs
    simp only [Prod.mk.injEq] at hx
    obtain ⟨rfl, rfl⟩ := hx
    refine ⟨(List.range len).map fun r => (Z r).take (L r), ?_, .inr ⟨_, _, rfl, by simp, fun i hi => ?_⟩⟩
    · refine ⟨(List.range len).map fun r => .slice (A r) (L r) (C r), ?_, by simp, fun i hi => ?_⟩
      · by_cases h0 : len = 0
        · subst h0; exact .inl ⟨by simp, _, _, rfl⟩
        · obtain ⟨b, off, rfl⟩ := addr_zero (hrow 0 (by omega)).1
          refine .inr ⟨b, off, cap, by simp, hlt (.cell b off) (List.mem_append.2 (.inl (MemPlace.mem_row.2 ⟨0, by omega, by simp⟩))), by simpa using hl, fun i u hi => ?_⟩
          have hi' : i < len := by
            have := (List.getElem?_eq_some_iff.1 hi).1
            simpa using this
          have hc := (hrow i (by omega)).1
          rw [show (⟨b, off, none⟩ : Addr).add i = ⟨b, off + i, none⟩ from by unfold Addr.add; split <;> simp_all] at hc
          rw [hc, ← hi]
          simp [hi']
      · have hi' : i < len := by simpa using hi
        obtain ⟨r1, r2, r3, r4, r5, r6, r7⟩ := hrow i (by omega)
        refine ⟨.slice (A i) (L i) (C i), by simp [hi'], ?_⟩
        have hzl : ((Z i).take (L i)).length = L i := by rw [List.length_take]; omega
        simp only [List.getElem_map, List.getElem_range]
        by_cases h0 : L i = 0
        · exact .inl ⟨by simp [ints, h0], _, _, by rw [h0]⟩
        · cases hA : A i with
          | none => have := r6 hA; omega
          | some a' =>
            obtain ⟨_, hcell⟩ := r7 a' hA
            obtain ⟨b', off', rfl⟩ := addr_zero (hcell 0 (by omega))
            have hb' : b' < W.heap.size := hlt (.cell b' off') (List.mem_append.2 (.inr (List.mem_flatMap.2 ⟨i, List.mem_range.2 (by omega), by
              rw [hA]
              unfold Deep.intRowPlaces
              first
                | exact MemPlace.mem_row.2 ⟨0, by omega, by simp⟩
                | (simp only []; exact MemPlace.mem_row.2 ⟨0, by omega, by simp⟩)⟩)))
            refine .inr ⟨b', off', C i, by rw [ints_len, hzl], hb', by rw [ints_len, hzl]; exact r2, fun q u hq => ?_⟩
            have hq' : q < L i := by
              have := (List.getElem?_eq_some_iff.1 hq).1
              rw [ints_len, hzl] at this; exact this
            have hc := hcell q (by omega)
            rw [show (⟨b', off', none⟩ : Addr).add q = ⟨b', off' + q, none⟩ from by unfold Addr.add; split <;> simp_all] at hc
            rw [hc, ← hq]
            simp [ints, hq', List.getD, List.getElem?_eq_getElem (show q < (Z i).length by omega)]
    · have hi' : i < len := by simpa using hi
      obtain ⟨r1, r2, r3, r4, r5, r6, r7⟩ := hrow i (by omega)
      simp only [List.getElem_map, List.getElem_range]
      cases hA : A i with
      | none =>
        have := r6 hA
        exact .inl (by rw [show L i = 0 from by omega]; simp)
      | some a' =>
        refine .inr ⟨lits .i64 ((Z i).take (L i)), lits .i64 ((Z i).drop (L i)), by simp [hi', Deep.intRow, hA], by simp [lits]⟩
theorem weights_all {H : Type} {P : Program} {e : TypeId} : ∀ {ds : List (DataW H)} {i : Nat} {d : DataW H}, ds[i]? = some d → ∀ n ∈ d.weights P e, n ∈ DataW.weightsAll P e ds
  | d0 :: ds, 0, d, hd, n, hn => by
    simp only [List.getElem?_cons_zero, Option.some.injEq] at hd
    subst hd
    simp only [DataW.weightsAll, List.mem_append]
    exact .inl hn
  | d0 :: ds, i + 1, d, hd, n, hn => by
    simp only [List.getElem?_cons_succ] at hd
    simp only [DataW.weightsAll, List.mem_append]
    exact .inr (weights_all hd n hn)
  | [], _, _, hd, _, _ => by simp at hd
theorem nested_bound {H : Type} {ts : List TypeId} {ds : List (DataW H)} {j : Nat} {d : DataW H} {rows : List (List Int)} (h : (DataW.weightsEach Try.prog ts ds).all (· ≤ reachBytes) = true) (ht : ts[j]? = some 72) (hd : ds[j]? = some d) (hx : RowData d rows) : rows.length ≤ 281474976710656 ∧ ∀ xs ∈ rows, xs.length ≤ 281474976710656 := by
  rcases hx with rfl | ⟨elems, spare, rfl, hl, hr⟩
  · exact ⟨by simp, fun xs hx => by simp at hx⟩
  · have k2 := reachBytes_lt
    have k5 : (2 : Nat) ^ 47 = 140737488355328 := by decide
    constructor
    · have k1 := sized_slice h ht hd Try.underlying72
      have k3 : Try.prog.bytesOf 24 = 24 := by kernel_rfl
      rw [k3] at k1
      omega
    · intro xs hx
      obtain ⟨i, hi⟩ := List.getElem?_of_mem hx
      have hi2 := (List.getElem?_eq_some_iff.1 hi).1
      have hi3 := (List.getElem?_eq_some_iff.1 hi).2
      rcases hr i hi2 with he | ⟨e, s, he, hel⟩
      · rw [hi3] at he; rw [he]; simp
      · rw [hi3] at hel
        have k3 : Try.prog.bytesOf 3 = 8 := by kernel_rfl
        have k1 := List.all_eq_true.1 h _ (DataW.weights_mem_each ht hd ((e.length + s.length) * 8) (by
          rw [DataW.weights, Try.underlying72]
          refine List.mem_cons_of_mem _ (List.mem_append.2 (.inl (weights_all he _ ?_)))
          rw [DataW.weights, Try.underlying24]
          simp [k3]))
        simp at k1
        omega
end Go.Proofs.Ytfdjlahaiogabab
