
/- MakeRing. -/
import Derived.Test.YtfcobkkpkppodaaMakeElem
namespace Go.Proofs.Ytfcobkkpkppodaa
set_option maxRecDepth 20000
open Go.RowKit

set_option maxHeartbeats 800000 in
/-- MakeRing. -/
theorem make_ring {v : Value} {bs : List UInt8} {w : World} (n : Nat) (hn : n ≤ 1000) (hr : Rd w.heap.size w v (bytes8 bs)) (hl : bs.length ≤ 1048576) :
    Calls Try.prog 46 #[v, .int .i64 n] w fun e w' => ∃ k p q, e = .returned (ringV k p q) ∧ ringB k p q = true ∧ Below w.heap.size w w' := by
  have HR := Lib.hid hr
  have HL := Lib.hid hl
  clear hr hl
  go_enter Try.func46, Try.ntmps46
  go_wp2_with fail
  have HR1 := Lib.hid (HR.out.below ((Below.refl w.heap.size w).alloc (Nat.le_refl _) (.cells #[.int .i64 0, .int .i64 0, .int .i64 0] 26)) (Nat.le_refl _))
  have hz1 : w.heap.size ≤ (w.alloc (.cells #[.int .i64 0, .int .i64 0, .int .i64 0] 26)).heap.size := by simp
  refine (cur_at n hn (HR1.out.mono hz1) HL.out).mono ?_
  rintro e w1 ⟨cb, rfl, hc, hb1⟩
  have HC1 := Lib.hid hc
  have HB1 := Lib.hid (((Below.refl w.heap.size w).alloc (Nat.le_refl _) _).trans (hb1.mono hz1))
  have BX := Lib.hid ((BoxAt.new w 0 0 0 26).below hb1 (by simp))
  have hcb := hc.lo
  have FR : Hid (∀ o, w1.frozen? ⟨w.heap.size, o, none⟩ = false) := Lib.hid (fun o => (hb1.frozen (p := ⟨w.heap.size, o, none⟩) (by simp)).trans (by simp))
  have hlt : w.heap.size < cb := by have := hcb.1; simp at this; omega
  clear hc hb1
  go_wp2_with fail
  refine (draw_ring HC1.out).mono ?_
  rintro e w2 ⟨k, p, q, rfl, hk, hc2, hko⟩
  have hb2 := hko.below (Below.refl _ w1) hcb.1 (Nat.le_trans hcb.1 (Nat.le_of_lt hcb.2))
  have BX2 := Lib.hid (BX.out.below hb2 (by simp))
  have HB2 := Lib.hid (HB1.out.trans (hb2.mono hz1))
  have f0 := (hb2.frozen (p := ⟨w.heap.size, 0, none⟩) (by simp)).trans (FR.out 0)
  have f1 := (hb2.frozen (p := ⟨w.heap.size, 1, none⟩) (by simp)).trans (FR.out 1)
  have f2 := (hb2.frozen (p := ⟨w.heap.size, 2, none⟩) (by simp)).trans (FR.out 2)
  obtain ⟨c0, c1, c2⟩ := BX2.out
  have HK := Lib.hid hk
  clear hk hc2 hb2 hko
  go_wp2
  refine bodyPost_ret (v := ringV k p q) (by simp [results, Try.results46, go_sem, c0, c1, c2]) rfl ?_
  exact ⟨k, p, q, rfl, HK.out, ((HB2.out.setCell (Nat.le_refl _) _).setCell (Nat.le_refl _) _).setCell (Nat.le_refl _) _⟩
end Go.Proofs.Ytfcobkkpkppodaa
