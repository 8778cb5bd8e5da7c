
/- From how an argument reads to what the walks ask: a slice of bytes. -/
import Derived.Test.YtceidekfcnmeaaaGreatDrawn
import Derived.Test.YtceidekfcnmeaaaGreatOpen
namespace Go.Proofs.YtceidekfcnmeaaaGreat
set_option maxRecDepth 20000
open Go.ChangeShapes Go.WideShapes Go.ChangeAt Go.WideMaps Go.WideElems Go.RowKit

def ofBytes (zs : List Int) : List UInt8 := zs.map fun z => UInt8.ofNat z.toNat
theorem ofBytes_cell {z : Int} (h : 0 ≤ z ∧ z ≤ 255) : (((UInt8.ofNat z.toNat).toNat : Nat) : Int) = z := by
  rw [UInt8.toNat_ofNat']; omega
theorem open_bytes_rd {H : Type} {enc : TypeId × Value → H} {W : World} {base : Nat} {v : Value} {d : DataW H} {ps : List MemPlace} (hok : Value.okWide Tryz.prog W .any base 22 v) (h : DataW.Trod enc Tryz.prog W 0 (fun _ => true) true 22 v d ps) (hlt : ∀ x ∈ ps, x.block < W.heap.size) :
    ∃ bs : List UInt8, Rd W.heap.size W v (bytes8 bs) ∧ (bs = [] ∨ ∃ elems spare, d = .slice elems spare ∧ elems.length = bs.length) := by
  obtain ⟨a0, len, cap, rfl⟩ := okWide_slice Tryz.underlying22 hok
  obtain ⟨fuel, hf⟩ := h
  rcases open_ints Tryz.underlying22 Tryz.underlying5 (by kernel_rfl) hf with ⟨hcs, hx⟩ | ⟨a, len', cap', zs, hcs, _, hl, hm, hz, hx, hcell, hwz⟩
  · simp [Value.cells] at hcs
    obtain ⟨rfl, rfl, rfl⟩ := hcs
    exact ⟨[], .inl ⟨rfl, _, _, rfl⟩, .inl rfl⟩
  · simp [Value.cells] at hcs
    obtain ⟨rfl, rfl, rfl⟩ := hcs
    simp only [Prod.mk.injEq] at hx
    obtain ⟨rfl, rfl⟩ := hx
    simp only [if_true] at hz
    have hI : ∀ z ∈ zs, 0 ≤ z ∧ z ≤ 255 := fun z hz' => by
      have e1 : IntKind.u8.min = 0 := rfl
      have e2 : IntKind.u8.max = 255 := rfl
      have := hwz z hz'
      simp [Lit.wf, e1, e2] at this
      exact this
    have hlen : (ofBytes (zs.take len)).length = len := by simp [ofBytes]; omega
    refine ⟨ofBytes (zs.take len), ?_, .inr ⟨_, _, rfl, by simp [lits, ofBytes]⟩⟩
    by_cases h0 : len = 0
    · subst h0; exact .inl ⟨by simp [bytes8, ofBytes], _, _, rfl⟩
    · obtain ⟨b, off, rfl⟩ : ∃ b off, a = ⟨b, off, none⟩ := by
        have := hcell 0 (by omega)
        have e : a.add 0 = a := by unfold Addr.add; split <;> simp_all
        rw [e] at this
        exact addr_of this
      refine .inr ⟨b, off, cap, by rw [bytes8_len, hlen], hlt (.cell b off) (MemPlace.mem_row.2 ⟨0, by omega, by simp⟩), by rw [bytes8_len, hlen]; exact hl, fun i u hi => ?_⟩
      have hi' : i < len := by
        have := (List.getElem?_eq_some_iff.1 hi).1
        rw [bytes8_len, hlen] at this; exact this
      have hc := hcell i (by omega)
      have e : (⟨b, off, none⟩ : Addr).add i = ⟨b, off + i, none⟩ := by unfold Addr.add; split <;> simp_all
      rw [e] at hc
      rw [hc, ← hi]
      have hzi : i < zs.length := by omega
      have := ofBytes_cell (hI zs[i] (List.getElem_mem hzi))
      simp only [bytes8, ofBytes, List.getElem?_map, List.getElem?_take, hi', if_true, List.getElem?_eq_getElem hzi, Option.map_some, List.getD_eq_getElem?_getD, Option.getD_some, this]
theorem bytes_bound {H : Type} {ts : List TypeId} {ds : List (DataW H)} {j : Nat} {d : DataW H} {bs : List UInt8} (h : (DataW.weightsEach Tryz.prog ts ds).all (· ≤ reachBytes) = true) (ht : ts[j]? = some 22) (hd : ds[j]? = some d) (hx : bs = [] ∨ ∃ elems spare, d = .slice elems spare ∧ elems.length = bs.length) : bs.length ≤ 281474976710656 := by
  rcases hx with rfl | ⟨elems, spare, rfl, hl⟩
  · simp
  · have k1 := sized_slice h ht hd Tryz.underlying22
    have k2 := reachBytes_lt
    have k3 : Tryz.prog.bytesOf 5 = 1 := by kernel_rfl
    have k5 : (2 : Nat) ^ 47 = 140737488355328 := by decide
    rw [k3] at k1
    omega
end Go.Proofs.YtceidekfcnmeaaaGreat
