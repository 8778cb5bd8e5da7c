
/- From how an argument reads to what the walks ask: slices of integers and of texts. -/
import Derived.Test.YtfcobkkpkppodaaParseNum
import Derived.Test.YtfcobkkpkppodaaSl
import Derived.Test.YtfcobkkpkppodaaProg
import Derived.ProofKit
import Derived.SizedLaws
import Derived.OpenShut
import Derived.SliceStrings
namespace Go.Proofs.Ytfcobkkpkppodaa
set_option maxRecDepth 20000
open Go.ChangeShapes Go.WideShapes Go.ChangeAt Go.WideMaps Go.WideElems Go.RowKit

theorem laidOut : laidOutB Try.prog = true := by kernel_rfl
theorem addr_of {w : World} {a : Addr} {v : Value} (h : w.cell? a = some v) : ∃ b off, a = ⟨b, off, none⟩ := by
  have := World.cell?_spot h
  obtain ⟨b, off, sp⟩ := a
  simp only at this
  subst this
  exact ⟨b, off, rfl⟩
theorem open_ints_rd {H : Type} {enc : TypeId × Value → H} {W : World} {base : Nat} {v : Value} {d : DataW H} {ps : List MemPlace} (hok : Value.okWide Try.prog W .any base 24 v) (h : DataW.Trod enc Try.prog W 0 (fun _ => true) true 24 v d ps) (hlt : ∀ x ∈ ps, x.block < W.heap.size) :
    ∃ xs, Rd W.heap.size W v (ints xs) ∧ allI xs ∧ (xs = [] ∨ ∃ spare, d = .slice (lits .i64 xs) spare) := by
  obtain ⟨a0, len, cap, rfl⟩ := okWide_slice Try.underlying24 hok
  obtain ⟨fuel, hf⟩ := h
  rcases open_ints Try.underlying24 Try.underlying3 (by kernel_rfl) hf with ⟨hcs, hx⟩ | ⟨a, len', cap', zs, hcs, _, hl, hm, hz, hx, hcell, hwz⟩
  · simp [Value.cells] at hcs
    obtain ⟨rfl, rfl, rfl⟩ := hcs
    exact ⟨[], .inl ⟨rfl, _, _, rfl⟩, fun z hz => by simp at hz, .inl rfl⟩
  · simp [Value.cells] at hcs
    obtain ⟨rfl, rfl, rfl⟩ := hcs
    simp only [Prod.mk.injEq] at hx
    obtain ⟨rfl, rfl⟩ := hx
    simp only [if_true] at hz
    have hI : allI (zs.take len) := fun z hz' => by
      have e1 : IntKind.i64.min = -9223372036854775808 := rfl
      have e2 : IntKind.i64.max = 9223372036854775807 := rfl
      have := hwz z (List.mem_of_mem_take hz')
      simp [Lit.wf, e1, e2] at this
      exact this
    refine ⟨zs.take len, ?_, hI, .inr ⟨_, rfl⟩⟩
    have hlen : (zs.take len).length = len := by rw [List.length_take]; omega
    by_cases h0 : len = 0
    · subst h0; exact .inl ⟨by simp [ints], _, _, rfl⟩
    · obtain ⟨b, off, rfl⟩ : ∃ b off, a = ⟨b, off, none⟩ := by
        have := hcell 0 (by omega)
        have e : a.add 0 = a := by unfold Addr.add; split <;> simp_all
        rw [e] at this
        exact addr_of this
      refine .inr ⟨b, off, cap, by rw [ints_len, hlen], hlt (.cell b off) (MemPlace.mem_row.2 ⟨0, by omega, by simp⟩), by rw [ints_len, hlen]; exact hl, fun i u hi => ?_⟩
      have hi' : i < len := by
        have := (List.getElem?_eq_some_iff.1 hi).1
        rw [ints_len, hlen] at this; exact this
      have hc := hcell i (by omega)
      have e : (⟨b, off, none⟩ : Addr).add i = ⟨b, off + i, none⟩ := by unfold Addr.add; split <;> simp_all
      rw [e] at hc
      rw [hc, ← hi]
      simp [ints, hi', List.getD, List.getElem?_eq_getElem (show i < zs.length by omega)]
theorem ints_bound {H : Type} {ts : List TypeId} {ds : List (DataW H)} {j : Nat} {d : DataW H} {xs : List Int} (h : (DataW.weightsEach Try.prog ts ds).all (· ≤ reachBytes) = true) (ht : ts[j]? = some 24) (hd : ds[j]? = some d) (hx : xs = [] ∨ ∃ spare, d = .slice (lits .i64 xs) spare) : xs.length ≤ 17592186044416 := by
  rcases hx with rfl | ⟨spare, rfl⟩
  · simp
  · have k1 := sized_slice h ht hd Try.underlying24
    have k2 := reachBytes_lt
    have k3 : Try.prog.bytesOf 3 = 8 := by kernel_rfl
    have k5 : (2 : Nat) ^ 47 = 140737488355328 := by decide
    have k6 : (lits (H := H) .i64 xs).length = xs.length := by simp [lits]
    rw [k3, k6] at k1
    omega
end Go.Proofs.Ytfcobkkpkppodaa
