
/- From how an argument reads to what the walks ask: slices of integers and of texts. -/
import Derived.Test.YtghhlknfeogadaaDoorParseNum
import Derived.Test.YtghhlknfeogadaaDoorSl
import Derived.Test.YtghhlknfeogadaaDoorProg
import Derived.ProofKit
import Derived.SizedLaws
import Derived.OpenShut
import Derived.SliceStrings
namespace Go.Proofs.YtghhlknfeogadaaDoor
set_option maxRecDepth 20000
open Go.ChangeShapes Go.WideShapes Go.ChangeAt Go.WideMaps Go.WideElems Go.RowKit

theorem laidOut : laidOutB Tryd.prog = true := by kernel_rfl
theorem addr_of {w : World} {a : Addr} {v : Value} (h : w.cell? a = some v) : ∃ b off, a = ⟨b, off, none⟩ := by
  have := World.cell?_spot h
  obtain ⟨b, off, sp⟩ := a
  simp only at this
  subst this
  exact ⟨b, off, rfl⟩
theorem open_ints_rd {H : Type} {enc : TypeId × Value → H} {W : World} {base : Nat} {v : Value} {d : DataW H} {ps : List MemPlace} (hok : Value.okWide Tryd.prog W .any base 22 v) (h : DataW.Trod enc Tryd.prog W 0 (fun _ => true) true 22 v d ps) (hlt : ∀ x ∈ ps, x.block < W.heap.size) :
    ∃ xs, Rd W.heap.size W v (ints xs) ∧ allI xs ∧ (xs = [] ∨ ∃ spare, d = .slice (lits .i64 xs) spare) := by
  obtain ⟨a0, len, cap, rfl⟩ := okWide_slice Tryd.underlying22 hok
  obtain ⟨fuel, hf⟩ := h
  rcases open_ints Tryd.underlying22 Tryd.underlying3 (by kernel_rfl) hf with ⟨hcs, hx⟩ | ⟨a, len', cap', zs, hcs, _, hl, hm, hz, hx, hcell, hwz⟩
  · simp [Value.cells] at hcs
    obtain ⟨rfl, rfl, rfl⟩ := hcs
    exact ⟨[], .inl ⟨rfl, _, _, rfl⟩, fun z hz => by simp at hz, .inl rfl⟩
  · simp [Value.cells] at hcs
    obtain ⟨rfl, rfl, rfl⟩ := hcs
    simp only [Prod.mk.injEq] at hx
    obtain ⟨rfl, rfl⟩ := hx
    simp only [if_true] at hz
    have hI : allI (zs.take len) := fun z hz' => by
      have e1 : IntKind.i64.min = -9223372036854775808 := rfl
      have e2 : IntKind.i64.max = 9223372036854775807 := rfl
      have := hwz z (List.mem_of_mem_take hz')
      simp [Lit.wf, e1, e2] at this
      exact this
    refine ⟨zs.take len, ?_, hI, .inr ⟨_, rfl⟩⟩
    have hlen : (zs.take len).length = len := by rw [List.length_take]; omega
    by_cases h0 : len = 0
    · subst h0; exact .inl ⟨by simp [ints], _, _, rfl⟩
    · obtain ⟨b, off, rfl⟩ : ∃ b off, a = ⟨b, off, none⟩ := by
        have := hcell 0 (by omega)
        have e : a.add 0 = a := by unfold Addr.add; split <;> simp_all
        rw [e] at this
        exact addr_of this
      refine .inr ⟨b, off, cap, by rw [ints_len, hlen], hlt (.cell b off) (MemPlace.mem_row.2 ⟨0, by omega, by simp⟩), by rw [ints_len, hlen]; exact hl, fun i u hi => ?_⟩
      have hi' : i < len := by
        have := (List.getElem?_eq_some_iff.1 hi).1
        rw [ints_len, hlen] at this; exact this
      have hc := hcell i (by omega)
      have e : (⟨b, off, none⟩ : Addr).add i = ⟨b, off + i, none⟩ := by unfold Addr.add; split <;> simp_all
      rw [e] at hc
      rw [hc, ← hi]
      simp [ints, hi', List.getD, List.getElem?_eq_getElem (show i < zs.length by omega)]
theorem ints_bound {H : Type} {ts : List TypeId} {ds : List (DataW H)} {j : Nat} {d : DataW H} {xs : List Int} (h : (DataW.weightsEach Tryd.prog ts ds).all (· ≤ reachBytes) = true) (ht : ts[j]? = some 22) (hd : ds[j]? = some d) (hx : xs = [] ∨ ∃ spare, d = .slice (lits .i64 xs) spare) : xs.length ≤ 17592186044416 := by
  rcases hx with rfl | ⟨spare, rfl⟩
  · simp
  · have k1 := sized_slice h ht hd Tryd.underlying22
    have k2 := reachBytes_lt
    have k3 : Tryd.prog.bytesOf 3 = 8 := by kernel_rfl
    have k5 : (2 : Nat) ^ 47 = 140737488355328 := by decide
    have k6 : (lits (H := H) .i64 xs).length = xs.length := by simp [lits]
    rw [k3, k6] at k1
    omega
theorem open_strs_rd {H : Type} {enc : TypeId × Value → H} {W : World} {base : Nat} {v : Value} {d : DataW H} {ps : List MemPlace} (hok : Value.okWide Tryd.prog W .any base 44 v) (h : DataW.Trod enc Tryd.prog W 0 (fun _ => true) true 44 v d ps) (hlt : ∀ x ∈ ps, x.block < W.heap.size) :
    ∃ xs : List ByteArray, Rd W.heap.size W v (strs xs) ∧ (∀ s ∈ xs, s.size ≤ maxLen) ∧ (xs = [] ∨ ∃ spare, d = .slice (ChangeShapes.strs xs) spare) := by
  obtain ⟨a0, len, cap, rfl⟩ := okWide_slice Tryd.underlying44 hok
  obtain ⟨fuel, hf⟩ := h
  rcases open_strings Tryd.underlying44 Tryd.underlying9 (by kernel_rfl) hf with ⟨hcs, hx⟩ | ⟨a, len', cap', zs, hcs, _, hl, hm, hz, hx, hcell, hwz⟩
  · simp [Value.cells] at hcs
    obtain ⟨rfl, rfl, rfl⟩ := hcs
    exact ⟨[], .inl ⟨rfl, _, _, rfl⟩, fun z hz => by simp at hz, .inl rfl⟩
  · simp [Value.cells] at hcs
    obtain ⟨rfl, rfl, rfl⟩ := hcs
    simp only [Prod.mk.injEq] at hx
    obtain ⟨rfl, rfl⟩ := hx
    simp only [if_true] at hz
    have hI : ∀ s ∈ zs.take len, s.size ≤ maxLen := fun z hz' => hwz z (List.mem_of_mem_take hz')
    refine ⟨zs.take len, ?_, hI, .inr ⟨_, rfl⟩⟩
    have hlen : (zs.take len).length = len := by rw [List.length_take]; omega
    by_cases h0 : len = 0
    · subst h0; exact .inl ⟨by simp [strs], _, _, rfl⟩
    · obtain ⟨b, off, rfl⟩ : ∃ b off, a = ⟨b, off, none⟩ := by
        have := hcell 0 (by omega)
        have e : a.add 0 = a := by unfold Addr.add; split <;> simp_all
        rw [e] at this
        exact addr_of this
      refine .inr ⟨b, off, cap, by rw [strs_len, hlen], hlt (.cell b off) (MemPlace.mem_row.2 ⟨0, by omega, by simp⟩), by rw [strs_len, hlen]; exact hl, fun i u hi => ?_⟩
      have hi' : i < len := by
        have := (List.getElem?_eq_some_iff.1 hi).1
        rw [strs_len, hlen] at this; exact this
      have hc := hcell i (by omega)
      have e : (⟨b, off, none⟩ : Addr).add i = ⟨b, off + i, none⟩ := by unfold Addr.add; split <;> simp_all
      rw [e] at hc
      rw [hc, ← hi]
      simp [strs, hi', List.getD, List.getElem?_eq_getElem (show i < zs.length by omega)]
theorem strs_bound {H : Type} {ts : List TypeId} {ds : List (DataW H)} {j : Nat} {d : DataW H} {xs : List ByteArray} (h : (DataW.weightsEach Tryd.prog ts ds).all (· ≤ reachBytes) = true) (ht : ts[j]? = some 44) (hd : ds[j]? = some d) (hx : xs = [] ∨ ∃ spare, d = .slice (ChangeShapes.strs xs) spare) : xs.length ≤ 8796093022208 := by
  rcases hx with rfl | ⟨spare, rfl⟩
  · simp
  · have k1 := sized_slice h ht hd Tryd.underlying44
    have k2 := reachBytes_lt
    have k3 : Tryd.prog.bytesOf 9 = 16 := by kernel_rfl
    have k5 : (2 : Nat) ^ 47 = 140737488355328 := by decide
    have k6 : (ChangeShapes.strs (H := H) xs).length = xs.length := by simp [ChangeShapes.strs]
    rw [k3, k6] at k1
    omega
end Go.Proofs.YtghhlknfeogadaaDoor
