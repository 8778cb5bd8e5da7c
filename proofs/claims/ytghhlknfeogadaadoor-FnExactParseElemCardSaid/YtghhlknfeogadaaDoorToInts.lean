
/- laws.toIntS copies a slice of integers into memory of its own. -/
import Derived.Test.YtghhlknfeogadaaDoorInfo
import Derived.Test.YtghhlknfeogadaaDoorSl
import Derived.Lib.Hide
import Derived.Laws.OwnMore
namespace Go.Proofs.YtghhlknfeogadaaDoor
set_option maxRecDepth 20000
open Go.RowKit


set_option maxHeartbeats 400000 in
theorem to_ints_full (a : Option Addr) (cap n : Nat) (xs : List Int) (w : World) (hn : n ≤ 17592186044416) (hx : xs.length = n)
    (ha : 0 < n → ∃ b off, a = some ⟨b, off, none⟩ ∧ b < w.heap.size ∧ ∀ i (h : i < xs.length), w.cell? ⟨b, off + i, none⟩ = some (.int .i64 xs[i])) :
    Calls Tryd.prog 10 #[.slice a n cap] w fun e w' => ∃ r, e = .returned r ∧ w'.ownsRow w.heap.size 3 1 r n (ints xs) ∧ Below w.heap.size w w' := by
  have HA := Lib.hid ha
  have L1 := Lib.hid hx
  clear ha hx
  obtain ⟨i0, hi, hz0, hz1, hz2⟩ := info_parts infoInt
  go_enter Tryd.func10, Tryd.ntmps10
  go_wp2_with (at_make; refine wpList_make_full _ rfl _ _ 22 rfl w.heap.size 3 i0 (.int .i64 0) 1 Tryd.underlying22 hi hz0 hz1 .i64 .i64 _ _ n rfl rfl rfl rfl (by rw [hz2]; omega) (by unfold maxLen; omega) (by simp) ?_; intro w1 hown hgrow)
  have OW := Lib.hid hown
  have hb1 := (Below.refl w.heap.size w).grown hgrow (Nat.le_refl _) (fun j hj => by cases hj)
  have hz := hb1.size
  have HB := Lib.hid hb1
  clear hown hgrow hb1 hi hz0 hz1 hz2
  go_loopw [4] (fun i wr => ∃ (k : Nat) (cs : List Value), k ≤ n ∧ i = .int .i64 k ∧ Hid (wr.ownsRow w.heap.size 3 1 (.slice (some ⟨w.heap.size, 0, none⟩) n n) n cs) ∧ Hid (∀ j, j < k → cs[j]? = (ints xs)[j]?) ∧ Hid (Below w.heap.size w wr)) (fun i _ => n - (intOf i).toNat)
  case atStart => exact ⟨0, _, by omega, rfl, OW, fun j hj => by omega, HB⟩
  case round =>
    obtain ⟨k, cs, hk, rfl, HO, HC, HBW⟩ := hrel
    by_cases hlt : k < n
    · obtain ⟨b, off, rfl, hbw, hcell⟩ := HA.out (by omega)
      obtain ⟨x, c1, X1⟩ := ints_cell L1.out hcell hlt
      have c2 : wr.cell? ⟨b, off + k, none⟩ = some (.int .i64 x) := (HBW.out.cell (p := ⟨b, off + k, none⟩) hbw).trans c1
      have clen : cs.length = n := by have := HO.out.1; omega
      have c3 : wr.cell? ⟨w.heap.size, k, none⟩ = some (cs[k]'(by omega)) := by
        rw [HO.out.cellAt k (by omega)]; exact List.getElem?_eq_getElem _
      have f3 := HO.out.frozenAt k
      have st := HO.out.stored k (.int .i64 x)
      have ST := Lib.hid st
      clear hcell c1 st
      go_wp2
      go_roundw
      case rel =>
        refine ⟨k + 1, cs.set k (.int .i64 x), by omega, by go_num, ST.out.1, ?_, HBW.out.setCell (Nat.le_refl _) _⟩
        intro j hj
        by_cases e : j = k
        · subst e
          rw [List.getElem?_set_self (by omega)]
          have := X1.out
          simp [ints, this]
        · rw [List.getElem?_set_ne (by omega)]
          exact HC.out j (by omega)
      case measure => simp [intOf]; omega
    · obtain rfl : k = n := by omega
      go_wp2
      go_ret
      refine ⟨_, rfl, ?_, HBW.out⟩
      have e : cs = ints xs := by
        apply List.ext_getElem?
        intro j
        by_cases hj : j < k
        · exact HC.out j hj
        · have clen : cs.length = k := by have := HO.out.1; omega
          rw [List.getElem?_eq_none (by omega), List.getElem?_eq_none (by rw [ints_len, L1.out]; omega)]
      exact e ▸ HO.out

/-- laws.toIntS, at any slice of integers. -/
theorem to_ints {B : Nat} {v : Value} {xs : List Int} {w : World} (h : Rd B w v (ints xs)) (hB : B ≤ w.heap.size) (hn : xs.length ≤ 17592186044416) :
    Calls Tryd.prog 10 #[v] w fun e w' => ∃ r, e = .returned r ∧ w'.ownsRow w.heap.size 3 1 r xs.length (ints xs) ∧ Below w.heap.size w w' := by
  rcases h.ints_cases with ⟨rfl, a, ca, rfl⟩ | ⟨b, off, ca, rfl, hlt, -, hc⟩
  · exact to_ints_full a ca 0 [] w (by omega) rfl (fun h => by omega)
  · exact to_ints_full _ ca xs.length xs w hn rfl (fun _ => ⟨b, off, rfl, by omega, hc⟩)
end Go.Proofs.YtghhlknfeogadaaDoor
