
/- slices.Clone of a row that is there; bitElem, l03Bit. -/
import Derived.Test.YtfcobkkpkppodaaZero
import Derived.Deep.DeepMust
import Derived.Maps.AppendAt
namespace Go.Proofs.Ytfcobkkpkppodaa
set_option maxRecDepth 20000
open Go.RowKit

theorem one_cells (xs : List Int) : ∀ u ∈ ints xs, u.oneCell' = true := by
  intro u hu
  obtain ⟨x, -, rfl⟩ := List.mem_map.1 hu
  rfl
theorem news_at {w : World} {b off : Nat} {xs : List Int} (hc : ∀ i (h : i < xs.length), w.cell? ⟨b, off + i, none⟩ = some (.int .i64 xs[i])) : ∀ j u, (ints xs)[j]? = some u → w.cell? ((⟨b, off, none⟩ : Addr).add j) = some u := by
  intro j u hj
  have hlt : j < xs.length := by
    have := (List.getElem?_eq_some_iff.1 hj).1
    rwa [ints_len] at this
  rw [ints_at xs j hlt] at hj
  rw [Addr.add_lit, hc j hlt]
  exact hj
set_option maxHeartbeats 800000 in
theorem clone_row (b off cap m : Nat) (xs : List Int) (w : World) (hm : xs.length = m) (hn : m ≤ 1099511627776) (hb : b < w.heap.size) (hc : ∀ i (h : i < xs.length), w.cell? ⟨b, off + i, none⟩ = some (.int .i64 xs[i])) :
    Calls Try.prog 89 #[.slice (some ⟨b, off, none⟩) m cap] w (NewRow w xs) := by
  obtain ⟨i0, hi, hz0, hz1, hz2⟩ := info_parts infoInt
  have J0 := Lib.hid hi
  have J1 := Lib.hid hz0
  have J2 := Lib.hid hz1
  have J3 := Lib.hid hz2
  have HM := Lib.hid hm
  have HC : Hid (∀ j u, (ints xs)[j]? = some u → (w.alloc (.cells #[] 3)).cell? ((⟨b, off, none⟩ : Addr).add j) = some u) := Lib.hid fun j u hj => by
    rw [← news_at hc j u hj, Addr.add_lit]
    exact ((Below.refl w.heap.size w).alloc (Nat.le_refl _) _).cell (p := ⟨b, off + j, none⟩) hb
  have HL := Lib.hid (World.ownsRow_lit (base := w.heap.size) (e := 3) (size := 1) w #[] 0 (Nat.le_refl _) (by unfold maxLen; omega) rfl)
  clear hi hz0 hz1 hz2 hm hc
  have hnil := fun wx : World => Lib.run_eql_slice_nil (P := Try.prog) wx 24 3 (some ⟨b, off, none⟩) m cap 0 0 Try.underlying24
  go_enter Try.func89, Try.ntmps89
  go_wp2_with (at_builtin; go_must (refine wpList_append_own _ rfl _ _ 24 rfl w.heap.size 3 i0 (.int .i64 0) 1 8 Try.underlying24 J0.out J1.out J2.out J3.out rfl (by decide) _ _ _ rfl HL.out ⟨b, off, none⟩ m cap (ints xs) rfl ?c1 HC.out (one_cells xs) ?c2 ?c3 (by simp) ?_))
  case c1 => rw [ints_len, HM.out]
  case c2 => unfold maxLen; omega
  case c3 => omega
  intro v' w2 hown hg _
  have RES : Hid (NewRow w xs (.returned v') w2) := Lib.hid ⟨v', rfl, Own.of (n := 0 + m) (by simpa using hown) (by rw [HM.out]; omega), by
    have := ((Below.refl w.heap.size w).alloc (Nat.le_refl _) (.cells #[] 3)).grown hg (by simp) (fun j hj => by cases hj; exact Nat.le_refl _)
    exact this⟩
  clear hown hg
  go_wp2
  go_ret
  exact RES.out
end Go.Proofs.Ytfcobkkpkppodaa
