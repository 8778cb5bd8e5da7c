
/- spec.FormatInt: for every int it returns the decimal numeral Lib.itoa n. -/
import Derived.Test.YtceidekfcnmeaaaDoorProg
import Derived.Test.YtceidekfcnmeaaaDoorOpen
import Derived.WalkKit
import Derived.WalkSpells
import Derived.WalkLawsBesides
import Derived.Deep.LoopGhost
import Derived.Lib.Hide
import Derived.IntWalk
import Derived.Deep.RegionWith
namespace Go.Proofs.YtceidekfcnmeaaaDoor
set_option maxRecDepth 20000
open Go.RowKit

theorem conv_at {w : World} {b : Nat} {v : Int} (h : w.cell? ⟨b, 0, none⟩ = some (.int .u8 v)) : (convert 65 9 (.slice (some ⟨b, 0, none⟩) 1 1)).run Tryd.prog w = .ok (.string (one v)) w := by
  have hcell : ∀ i, i < 1 → w.cell? ⟨b, 0 + i, none⟩ = some (.int .u8 ([v].getD i 0)) := by
    intro i hi
    obtain rfl : i = 0 := by omega
    exact h
  rw [run_convert_bytes_arg w 65 5 Tryd.underlying65 Tryd.underlying5 b 0 1 1 [v] rfl hcell 9 Tryd.underlying9]
  rfl
theorem conv_one (w : World) (v : Int) : (convert 65 9 (.slice (some ⟨w.heap.size, 0, none⟩) 1 1)).run Tryd.prog (w.alloc (.cells #[.int .u8 v] 5)) = .ok (.string (one v)) (w.alloc (.cells #[.int .u8 v] 5)) :=
  conv_at (cell_one_new w (.int .u8 v) 5 0 _ rfl)
theorem conv_oned (w : World) (v : Int) : (convert 65 9 (.slice (some ⟨w.heap.size, 0, none⟩) 1 1)).run Tryd.prog (w.alloc (.cells #[.int .u8 v] 5)).drew = .ok (.string (one v)) (w.alloc (.cells #[.int .u8 v] 5)).drew :=
  conv_at (cell_one_new w (.int .u8 v) 5 0 _ rfl)
theorem bel_a {w w1 : World} (o : Obj) (hb : Below w.drew.heap.size w.drew w1) : Below w.heap.size w (w1.alloc o) :=
  (((Below.refl _ w).drew).trans hb).alloc hb.size _
theorem bel_b {w w1 : World} {o : Obj} (hb : Below (w.alloc o).drew.heap.size (w.alloc o).drew w1) : Below w.heap.size w w1 :=
  (((Below.refl w.heap.size w).alloc (Nat.le_refl _) o).drew).trans (hb.mono (by simp))
theorem conv_drew {w w1 : World} {v : Int} (hb : Below (w.alloc (.cells #[.int .u8 v] 5)).drew.heap.size (w.alloc (.cells #[.int .u8 v] 5)).drew w1) : (convert 65 9 (.slice (some ⟨w.heap.size, 0, none⟩) 1 1)).run Tryd.prog w1 = .ok (.string (one v)) w1 :=
  conv_at ((hb.cell (p := ⟨w.heap.size, 0, none⟩) (by simp)).trans (cell_one_new w (.int .u8 v) 5 0 _ rfl))

set_option maxHeartbeats 400000 in
theorem fmt_pos (m : Nat) (w : World) (hm : m ≤ 9223372036854775807) :
    Calls Tryd.prog 21 #[.int .i64 m] w fun e w' => e = .returned (.string ⟨(Lib.itoa m).toArray⟩) ∧ Below w.heap.size w w' := by
  have hneg : decide ((m : Int) < 0) = false := by simp
  have kc := conv_one
  go_enter Tryd.func21, Tryd.ntmps21
  go_wp2
  go_loopw [0, 3] (fun n s wr => ∃ (k : Nat) (acc : List UInt8), k ≤ 9223372036854775807 ∧ n = .int .i64 k ∧ s = .string ⟨acc.toArray⟩ ∧ Lib.decDigits m = Lib.decDigits k ++ acc ∧ Below w.heap.size w wr) (fun n _ _ => (intOf n).toNat)
  case atStart => exact ⟨m, [], hm, rfl, rfl, by simp, Below.refl _ _⟩
  case round =>
    obtain ⟨k, acc, hk, rfl, rfl, hd, hb⟩ := hrel
    have hl := dec_rest hd
    have HD := Lib.hid hd
    clear hd
    have hz := hb.size
    have hs1 := one_size
    by_cases h9 : 9 < k
    · go_wp2
      go_roundw
      case rel => exact ⟨k / 10, UInt8.ofNat (48 + k % 10) :: acc, by omega, by go_num, by rw [one_add, dig_mod], by rw [HD.out, dec_big (by omega)]; simp, hb.alloc hz _⟩
      case measure => simp [intOf]; omega
    · go_wp2
      go_ret
      exact ⟨by rw [one_add, dig_of, itoa_pos, HD.out, dec_small (by omega)]; rfl, hb.alloc hz _⟩

set_option maxHeartbeats 400000 in
theorem fmt_neg_small (n : Int) (w : World) (h1 : n < 0) (h2 : -10 < n) :
    Calls Tryd.prog 21 #[.int .i64 n] w fun e w' => e = .returned (.string ⟨(Lib.itoa n).toArray⟩) ∧ Below w.heap.size w w' := by
  have kc := conv_one
  have hs1 := one_size
  have hq : n.tdiv 10 = 0 := by rw [tdiv10 h1]; omega
  go_enter Tryd.func21, Tryd.ntmps21
  go_wp2
  go_ret
  exact ⟨by rw [show (⟨#[45]⟩ : ByteArray) = ⟨[45].toArray⟩ from rfl, add_one, dig_neg_small h1, itoa_neg_small h1 h2]; rfl, (Below.refl _ _).alloc (Nat.le_refl _) _⟩

set_option maxHeartbeats 400000 in
theorem fmt_neg (k : Nat) : ∀ (n : Int) (w : World), n.natAbs ≤ k → n < 0 → -9223372036854775808 ≤ n →
    Calls Tryd.prog 21 #[.int .i64 n] w fun e w' => e = .returned (.string ⟨(Lib.itoa n).toArray⟩) ∧ Below w.heap.size w w' := by
  induction k with
  | zero => intro n w h1 h2; omega
  | succ k ih =>
    intro n w h1 h2 h3
    by_cases hs : -10 < n
    · exact fmt_neg_small n w h2 hs
    have kc := conv_one
    have hs1 := one_size
    have hi := itoa_neg_big (n := n) (by omega)
    have HI := Lib.hid hi
    clear hi
    have hq : n.tdiv 10 ≤ -1 := by rw [tdiv10 h2]; omega
    have hq1 : -9223372036854775808 ≤ n.tdiv 10 := by rw [tdiv10 h2]; omega
    have hq2 : (n.tdiv 10).natAbs ≤ k := by rw [tdiv10 h2]; omega
    have hr : -9 ≤ n.tmod 10 ∧ n.tmod 10 ≤ 0 := by rw [tmod10 h2]; omega
    have hlen := itoa_len (n.tdiv 10)
    have IH := Lib.hid ih
    clear ih
    go_enter Tryd.func21, Tryd.ntmps21
    go_wp2_with fail
    have hw1 : IntKind.i64.wrap (n.tdiv 10) = n.tdiv 10 := IntWalk.i64_in _ (by omega)
    have hw2 : IntKind.i64.wrap (n.tmod 10) = n.tmod 10 := IntWalk.i64_in _ (by omega)
    have hw3 : IntKind.i64.wrap (48 - n.tmod 10) = 48 - n.tmod 10 := IntWalk.i64_in _ (by omega)
    have hw4 : IntKind.u8.wrap (48 - n.tmod 10) = 48 - n.tmod 10 := by simp only [IntKind.wrap_u8]; omega
    have kd := conv_oned
    go_region_with (go_at_call 21; refine (IH.out _ _ hq2 (by omega) hq1).mono ?_; rintro e w1 ⟨rfl, hb⟩; first | have kc2 := conv_drew hb | skip)
    all_goals
      go_wp2
      go_ret
      exact ⟨by rw [add_one, dig_neg h2, HI.out]; rfl, by first | exact bel_a _ hb | exact bel_b hb⟩

/-- spec.FormatInt, at every int. -/
theorem fmt_any (n : Int) (w : World) (h1 : -9223372036854775808 ≤ n) (h2 : n ≤ 9223372036854775807) :
    Calls Tryd.prog 21 #[.int .i64 n] w fun e w' => e = .returned (.string ⟨(Lib.itoa n).toArray⟩) ∧ Below w.heap.size w w' := by
  by_cases h : n < 0
  · exact fmt_neg n.natAbs n w (Nat.le_refl _) h h1
  · obtain ⟨m, rfl⟩ : ∃ m : Nat, n = (m : Int) := ⟨n.toNat, by omega⟩
    exact fmt_pos m w (by omega)
end Go.Proofs.YtceidekfcnmeaaaDoor
