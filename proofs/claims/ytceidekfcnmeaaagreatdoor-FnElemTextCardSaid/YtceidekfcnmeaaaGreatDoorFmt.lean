
/- spec.FormatInt: for every int it returns the decimal numeral Lib.itoa n. -/
import Derived.Test.YtceidekfcnmeaaaGreatDoorProg
import Derived.Test.YtceidekfcnmeaaaGreatDoorOpen
import Derived.WalkKit
import Derived.WalkSpells
import Derived.WalkLawsBesides
import Derived.Deep.LoopGhost
import Derived.Lib.Hide
import Derived.IntWalk
import Derived.Deep.RegionWith
namespace Go.Proofs.YtceidekfcnmeaaaGreatDoor
set_option maxRecDepth 20000
open Go.RowKit

theorem conv_at {w : World} {b : Nat} {v : Int} (h : w.cell? ⟨b, 0, none⟩ = some (.int .u8 v)) : (convert 22 9 (.slice (some ⟨b, 0, none⟩) 1 1)).run Tryz.prog w = .ok (.string (one v)) w := by
  have hcell : ∀ i, i < 1 → w.cell? ⟨b, 0 + i, none⟩ = some (.int .u8 ([v].getD i 0)) := by
    intro i hi
    obtain rfl : i = 0 := by omega
    exact h
  rw [run_convert_bytes_arg w 22 5 Tryz.underlying22 Tryz.underlying5 b 0 1 1 [v] rfl hcell 9 Tryz.underlying9]
  rfl
theorem conv_byte (w : World) (v : Int) : (convert 22 9 (.slice (some ⟨w.heap.size, 0, none⟩) 1 1)).run Tryz.prog (w.alloc (.cells #[.int .u8 v] 5)) = .ok (.string (one v)) (w.alloc (.cells #[.int .u8 v] 5)) :=
  conv_at (cell_one_new w (.int .u8 v) 5 0 _ rfl)
theorem conv_oned (w : World) (v : Int) : (convert 22 9 (.slice (some ⟨w.heap.size, 0, none⟩) 1 1)).run Tryz.prog (w.alloc (.cells #[.int .u8 v] 5)).drew = .ok (.string (one v)) (w.alloc (.cells #[.int .u8 v] 5)).drew :=
  conv_at (cell_one_new w (.int .u8 v) 5 0 _ rfl)
theorem bel_a {w w1 : World} (o : Obj) (hb : Below w.drew.heap.size w.drew w1) : Below w.heap.size w (w1.alloc o) :=
  (((Below.refl _ w).drew).trans hb).alloc hb.size _
theorem bel_b {w w1 : World} {o : Obj} (hb : Below (w.alloc o).drew.heap.size (w.alloc o).drew w1) : Below w.heap.size w w1 :=
  (((Below.refl w.heap.size w).alloc (Nat.le_refl _) o).drew).trans (hb.mono (by simp))
theorem conv_drew {w w1 : World} {v : Int} (hb : Below (w.alloc (.cells #[.int .u8 v] 5)).drew.heap.size (w.alloc (.cells #[.int .u8 v] 5)).drew w1) : (convert 22 9 (.slice (some ⟨w.heap.size, 0, none⟩) 1 1)).run Tryz.prog w1 = .ok (.string (one v)) w1 :=
  conv_at ((hb.cell (p := ⟨w.heap.size, 0, none⟩) (by simp)).trans (cell_one_new w (.int .u8 v) 5 0 _ rfl))

end Go.Proofs.YtceidekfcnmeaaaGreatDoor
