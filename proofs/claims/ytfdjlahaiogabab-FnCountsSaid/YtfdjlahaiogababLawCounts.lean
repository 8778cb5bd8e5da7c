
/- The law FnCounts, walked. -/
import Derived.Test.YtfdjlahaiogababDrawn
import Derived.Test.YtfdjlahaiogababMakeSize
import Derived.Test.YtfdjlahaiogababEnv
import Derived.Test.YtfdjlahaiogababSemiCount
import Derived.Deep.RegionHeld3
namespace Go.Proofs.Ytfdjlahaiogabab
set_option maxRecDepth 20000
open Go.RowKit

set_option maxHeartbeats 400000 in
theorem law_counts_big (a : Option Addr) (n c : Nat) (w : World) (hb : 1048576 < n) (hc : n ≤ 281474976710656) :
    Calls Try.prog 15 #[.slice a n c] w fun e w' => e = .returned (.bool true) ∧ Below w.heap.size w w' := by
  go_enter Try.func15, Try.ntmps15
  go_wp2
  go_ret
  exact ⟨rfl, Below.refl _ _⟩

set_option maxHeartbeats 6400000 in
set_option maxRecDepth 100000 in
theorem law_counts_small (a : Option Addr) (n c : Nat) (bs : List UInt8) (w : World) (hn : bs.length = n) (hs : n ≤ 1048576) (hr : Rd w.heap.size w (.slice a n c) (bytes8 bs)) :
    Calls Try.prog 15 #[.slice a n c] w fun e w' => e = .returned (.bool true) ∧ Below w.heap.size w w' := by
  have HR := Lib.hid hr
  have HN := Lib.hid (show bs.length ≤ 1048576 by omega)
  clear hr hn
  go_enter Try.func15, Try.ntmps15
  go_wp2_with fail
  refine (make_ring 0 (by omega) HR.out HN.out).mono ?_
  rintro e w1 ⟨k, p, q, rfl, hk, hb1⟩
  have HK := Lib.hid hk
  have HB1 := Lib.hid hb1
  have HR1 := Lib.hid ((HR.out.below hb1 (Nat.le_refl _)).mono hb1.size)
  clear hk hb1
  have EN := Lib.hid (show Env w (w1.alloc (.cells #[.int .i64 k, .int .i64 p, .int .i64 q] 31)) w1.heap.size k p q [] from ⟨HB1.out.alloc HB1.out.size _, BoxAt.new w1 k p q _, by simp, HK.out, fun x hx => by simp at hx⟩)
  have HR2 := Lib.hid ((HR1.out.below ((Below.refl w1.heap.size w1).alloc (Nat.le_refl _) (.cells #[.int .i64 k, .int .i64 p, .int .i64 q] 31)) (Nat.le_refl _)).mono (show w1.heap.size ≤ (w1.alloc (.cells #[.int .i64 k, .int .i64 p, .int .i64 q] 31)).heap.size by simp))
  go_wp2_with fail
  refine (make_elem 10 (by omega) HK.out HR2.out HN.out).mono ?_
  rintro e w2 ⟨u, xs, rfl, hel, ho, hb⟩
  have EX := Lib.hid hel
  have EN2 := Lib.hid ((EN.out.step hb).add (ho.rd.mono ho.2.2) hel)
  have HR3 := Lib.hid ((HR2.out.below hb (Nat.le_refl _)).mono hb.size)
  clear hel ho hb EN HR2
  go_wp2_with fail
  refine (make_size 20 0 99 (by omega) (by omega) (by omega) HR3.out HN.out).mono ?_
  rintro e w3 ⟨x, rfl, -, hx, hb⟩
  have EN3 := Lib.hid (EN2.out.step hb)
  have HR4 := Lib.hid ((HR3.out.below hb (Nat.le_refl _)).mono hb.size)
  clear hb EN2 HR3
  go_wp2_with fail
  refine (make_size 22 0 99 (by omega) (by omega) (by omega) HR4.out HN.out).mono ?_
  rintro e w4 ⟨y, rfl, -, hy, hb⟩
  have EN := Lib.hid (EN3.out.step hb).drew
  have E1 := Lib.hid (count_plus HK.out x y).symm
  have E3 := Lib.hid (pow_times HK.out EX.out x y).symm
  have E4 := Lib.hid (pow_one HK.out EX.out)
  have hxy : x * y ≤ 99 * 99 := Nat.mul_le_mul hx hy
  obtain ⟨xy, hxyd⟩ : ∃ xy, xy = x * y := ⟨_, rfl⟩
  have hxb : xy ≤ 9801 := by rw [hxyd]; omega
  have hprod : (x : Int) * (y : Int) = (xy : Int) := by rw [hxyd]; simp
  have hw : IntKind.i64.wrap ((x : Int) * (y : Int)) = (xy : Int) := by rw [hprod]; exact IntWalk.i64_in _ (by omega)
  have hws : IntKind.i64.wrap ((x : Int) + (y : Int)) = (x : Int) + (y : Int) := IntWalk.i64_in _ (by omega)
  have E2 : Hid (countL k p q xy = timesL k p (countL k p q x) (countL k p q y)) := Lib.hid (by rw [hxyd]; exact (count_times HK.out x y).symm)
  clear hprod
  have HXY := Lib.hid hxyd
  clear hb EN3 HR4
  obtain ⟨c0, c1, c2⟩ := EN.out.2.1
  go_wp2
  go_region_held3 (fun w' => w'.cell? ⟨w1.heap.size, 0, none⟩ = some (.int .i64 k) ∧ w'.cell? ⟨w1.heap.size, 1, none⟩ = some (.int .i64 p) ∧ w'.cell? ⟨w1.heap.size, 2, none⟩ = some (.int .i64 q)) (first | exact ⟨c0, c1, c2⟩) (first
    | (go_at_call 64; (first | refine (env_count EN (x + y) (by omega) (by omega)).mono ?_ | refine (env_count EN x (by omega) (by omega)).mono ?_ | refine (env_count EN y (by omega) (by omega)).mono ?_ | refine (env_count EN xy (by omega) (by omega)).mono ?_); rintro e w5 ⟨v, rfl, EN, ⟨c0, c1, c2⟩⟩)
    | (go_at_call 70; (first | refine (env_pow EN (by repeat (first | exact List.Mem.head _ | apply List.Mem.tail)) (x + y) (by omega) (by omega)).mono ?_ | refine (env_pow EN (by repeat (first | exact List.Mem.head _ | apply List.Mem.tail)) x (by omega) (by omega)).mono ?_ | refine (env_pow EN (by repeat (first | exact List.Mem.head _ | apply List.Mem.tail)) y (by omega) (by omega)).mono ?_ | refine (env_pow EN (by repeat (first | exact List.Mem.head _ | apply List.Mem.tail)) 1 (by rfl) (by omega)).mono ?_); rintro e w5 ⟨v, rfl, EN, ⟨c0, c1, c2⟩⟩)
    | (go_at_call 55; refine (env_add EN (by repeat (first | exact List.Mem.head _ | apply List.Mem.tail)) (by repeat (first | exact List.Mem.head _ | apply List.Mem.tail))).mono ?_; rintro e w5 ⟨v, rfl, EN, ⟨c0, c1, c2⟩⟩)
    | (go_at_call 65; refine (env_mul EN (by repeat (first | exact List.Mem.head _ | apply List.Mem.tail)) (by repeat (first | exact List.Mem.head _ | apply List.Mem.tail))).mono ?_; rintro e w5 ⟨v, rfl, EN, ⟨c0, c1, c2⟩⟩)
    | (go_at_call 51; refine (env_ints EN (by repeat (first | exact List.Mem.head _ | apply List.Mem.tail)) (by repeat (first | exact List.Mem.head _ | apply List.Mem.tail)) (by first | exact E1.out | exact E2.out | exact E3.out | exact E4.out)).mono ?_; rintro e w5 ⟨rfl, EN, ⟨c0, c1, c2⟩⟩))
  all_goals
    go_wp2
    go_ret
    exact ⟨rfl, EN.out.1⟩

theorem law_counts {v : Value} {bs : List UInt8} {w : World} (hr : Rd w.heap.size w v (bytes8 bs)) (hl : bs.length ≤ 281474976710656) :
    Calls Try.prog 15 #[v] w fun e w' => e = .returned (.bool true) ∧ Below w.heap.size w w' := by
  obtain ⟨a, cap, rfl, -⟩ := bytes_cell hr
  by_cases hs : bs.length ≤ 1048576
  · exact law_counts_small a _ cap bs w rfl hs hr
  · exact law_counts_big a _ cap w (by omega) hl
end Go.Proofs.Ytfdjlahaiogabab
