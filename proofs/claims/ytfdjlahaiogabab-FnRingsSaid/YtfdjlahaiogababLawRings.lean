
/- The law FnRings, walked. -/
import Derived.Test.YtfdjlahaiogababDrawn
import Derived.Test.YtfdjlahaiogababEnvSum
import Derived.Deep.RegionHeld3
namespace Go.Proofs.Ytfdjlahaiogabab
set_option maxRecDepth 20000
open Go.RowKit

set_option maxHeartbeats 400000 in
theorem law_rings_big (a : Option Addr) (n c : Nat) (w : World) (hb : 1048576 < n) (hc : n ≤ 281474976710656) :
    Calls Try.prog 14 #[.slice a n c] w fun e w' => e = .returned (.bool true) ∧ Below w.heap.size w w' := by
  go_enter Try.func14, Try.ntmps14
  go_wp2
  go_ret
  exact ⟨rfl, Below.refl _ _⟩

set_option maxHeartbeats 100000000 in
set_option maxRecDepth 100000 in
theorem law_rings_small (a : Option Addr) (n c : Nat) (bs : List UInt8) (w : World) (hn : bs.length = n) (hs : n ≤ 1048576) (hr : Rd w.heap.size w (.slice a n c) (bytes8 bs)) :
    Calls Try.prog 14 #[.slice a n c] w fun e w' => e = .returned (.bool true) ∧ Below w.heap.size w w' := by
  have HR := Lib.hid hr
  have HN := Lib.hid (show bs.length ≤ 1048576 by omega)
  clear hr hn
  go_enter Try.func14, Try.ntmps14
  go_wp2_with fail
  refine (make_ring 0 (by omega) HR.out HN.out).mono ?_
  rintro e w1 ⟨k, p, q, rfl, hk, hb1⟩
  have HK := Lib.hid hk
  have HB1 := Lib.hid hb1
  have HR1 := Lib.hid ((HR.out.below hb1 (Nat.le_refl _)).mono hb1.size)
  clear hk hb1
  have EN := Lib.hid (show Env w (w1.alloc (.cells #[.int .i64 k, .int .i64 p, .int .i64 q] 31)) w1.heap.size k p q [] from ⟨HB1.out.alloc HB1.out.size _, BoxAt.new w1 k p q _, by simp, HK.out, fun x hx => by simp at hx⟩)
  have HR2 := Lib.hid ((HR1.out.below ((Below.refl w1.heap.size w1).alloc (Nat.le_refl _) (.cells #[.int .i64 k, .int .i64 p, .int .i64 q] 31)) (Nat.le_refl _)).mono (show w1.heap.size ≤ (w1.alloc (.cells #[.int .i64 k, .int .i64 p, .int .i64 q] 31)).heap.size by simp))
  go_wp2_with fail
  refine (make_elem 10 (by omega) HK.out HR2.out HN.out).mono ?_
  rintro e w2 ⟨u, xs, rfl, hel, ho, hb⟩
  obtain ⟨ax, cx, rfl, -⟩ := ints_form ho.rd
  obtain ⟨lx, hlx⟩ : ∃ l, l = xs.length := ⟨_, rfl⟩
  have HLX := Lib.hid hlx
  have EN2 := Lib.hid ((EN.out.step hb).add (ho.rd.mono ho.2.2) hel)
  rw [← hlx] at EN2 ⊢
  clear hlx
  have EX := Lib.hid hel
  have HR3 := Lib.hid ((HR2.out.below hb (Nat.le_refl _)).mono hb.size)
  clear hel ho hb EN HR2
  obtain ⟨c0, c1, c2⟩ := EN2.out.2.1
  go_wp2_with fail
  refine (make_elem 20 (by omega) HK.out HR3.out HN.out).mono ?_
  rintro e w3 ⟨u, ys, rfl, hel, ho, hb⟩
  obtain ⟨ay, cy, rfl, -⟩ := ints_form ho.rd
  obtain ⟨ly, hly⟩ : ∃ l, l = ys.length := ⟨_, rfl⟩
  have EY := Lib.hid hel
  have EN3 := Lib.hid ((EN2.out.step hb).add (ho.rd.mono ho.2.2) hel)
  have HR4 := Lib.hid ((HR3.out.below hb (Nat.le_refl _)).mono hb.size)
  rw [← hly] at EN3 ⊢
  clear hel ho hb EN2 HR3 hly
  clear c0 c1 c2
  obtain ⟨c0, c1, c2⟩ := EN3.out.2.1
  go_wp2_with fail
  refine (make_elem 30 (by omega) HK.out HR4.out HN.out).mono ?_
  rintro e w4 ⟨u, zs, rfl, hel, ho, hb⟩
  obtain ⟨az, cz, rfl, -⟩ := ints_form ho.rd
  obtain ⟨lz, hlz⟩ : ∃ l, l = zs.length := ⟨_, rfl⟩
  have EZ := Lib.hid hel
  have EN4 := Lib.hid ((EN3.out.step hb).add (ho.rd.mono ho.2.2) hel)
  have HR5 := Lib.hid ((HR4.out.below hb (Nat.le_refl _)).mono hb.size)
  rw [← hlz] at EN4 ⊢
  clear hel ho hb EN3 HR4 hlz
  clear c0 c1 c2
  obtain ⟨c0, c1, c2⟩ := EN4.out.2.1
  have E1 := Lib.hid (plusL_comm HK.out EX.out EY.out)
  have E2 := Lib.hid (times_comm HK.out EX.out EY.out)
  have E3 := Lib.hid (distr HK.out EX.out EY.out EZ.out)
  have E4 := Lib.hid (plusL_assoc HK.out EX.out EY.out EZ.out)
  have E5 := Lib.hid (times_assoc HK.out EX.out EY.out EZ.out)
  have E6 := Lib.hid (plusL_zero HK.out EX.out)
  have E7 := Lib.hid (times_one HK.out EX.out).1
  have E8 := Lib.hid (times_zero HK.out EX.out)
  have HWL : Hid (widthI k q = (lx : Int)) := Lib.hid (by rw [HLX.out]; exact EX.out.1.symm)
  go_wp2_with fail
  refine (env_add EN4 (by repeat (first | exact List.Mem.head _ | apply List.Mem.tail)) (by repeat (first | exact List.Mem.head _ | apply List.Mem.tail))).mono ?_
  rintro e w5 ⟨v, rfl, EN, ⟨g0, g1, g2⟩⟩
  clear c0 c1 c2
  obtain ⟨c0, c1, c2⟩ : Cells w5 w1.heap.size k p q := ⟨g0, g1, g2⟩
  clear g0 g1 g2
  clear EN4
  go_wp2_with fail
  refine (env_mul EN (by repeat (first | exact List.Mem.head _ | apply List.Mem.tail)) (by repeat (first | exact List.Mem.head _ | apply List.Mem.tail))).mono ?_
  rintro e w5 ⟨v, rfl, EN, ⟨g0, g1, g2⟩⟩
  clear c0 c1 c2
  obtain ⟨c0, c1, c2⟩ : Cells w5 w1.heap.size k p q := ⟨g0, g1, g2⟩
  clear g0 g1 g2
  go_wp2_with fail
  refine (env_ok EN (by repeat (first | exact List.Mem.head _ | apply List.Mem.tail))).mono ?_
  rintro e w5 ⟨rfl, EN, ⟨g0, g1, g2⟩⟩
  clear c0 c1 c2
  obtain ⟨c0, c1, c2⟩ : Cells w5 w1.heap.size k p q := ⟨g0, g1, g2⟩
  clear g0 g1 g2
  go_wp2_with fail
  refine (env_ok EN (by repeat (first | exact List.Mem.head _ | apply List.Mem.tail))).mono ?_
  rintro e w5 ⟨rfl, EN, ⟨g0, g1, g2⟩⟩
  clear c0 c1 c2
  obtain ⟨c0, c1, c2⟩ : Cells w5 w1.heap.size k p q := ⟨g0, g1, g2⟩
  clear g0 g1 g2
  go_wp2_with fail
  refine (env_add EN (by repeat (first | exact List.Mem.head _ | apply List.Mem.tail)) (by repeat (first | exact List.Mem.head _ | apply List.Mem.tail))).mono ?_
  rintro e w5 ⟨v, rfl, EN, ⟨g0, g1, g2⟩⟩
  clear c0 c1 c2
  obtain ⟨c0, c1, c2⟩ : Cells w5 w1.heap.size k p q := ⟨g0, g1, g2⟩
  clear g0 g1 g2
  go_wp2_with fail
  refine (env_ints EN (by repeat (first | exact List.Mem.head _ | apply List.Mem.tail)) (by repeat (first | exact List.Mem.head _ | apply List.Mem.tail)) (by first | exact E1.out | exact E2.out | exact E3.out | exact E4.out | exact E5.out | exact E6.out | exact E7.out | exact E8.out | rfl)).mono ?_
  rintro e w5 ⟨rfl, EN, ⟨g0, g1, g2⟩⟩
  clear c0 c1 c2
  obtain ⟨c0, c1, c2⟩ : Cells w5 w1.heap.size k p q := ⟨g0, g1, g2⟩
  clear g0 g1 g2
  go_wp2_with fail
  refine (env_mul EN (by repeat (first | exact List.Mem.head _ | apply List.Mem.tail)) (by repeat (first | exact List.Mem.head _ | apply List.Mem.tail))).mono ?_
  rintro e w5 ⟨v, rfl, EN, ⟨g0, g1, g2⟩⟩
  clear c0 c1 c2
  obtain ⟨c0, c1, c2⟩ : Cells w5 w1.heap.size k p q := ⟨g0, g1, g2⟩
  clear g0 g1 g2
  go_wp2_with fail
  refine (env_ints EN (by repeat (first | exact List.Mem.head _ | apply List.Mem.tail)) (by repeat (first | exact List.Mem.head _ | apply List.Mem.tail)) (by first | exact E1.out | exact E2.out | exact E3.out | exact E4.out | exact E5.out | exact E6.out | exact E7.out | exact E8.out | rfl)).mono ?_
  rintro e w5 ⟨rfl, EN, ⟨g0, g1, g2⟩⟩
  clear c0 c1 c2
  obtain ⟨c0, c1, c2⟩ : Cells w5 w1.heap.size k p q := ⟨g0, g1, g2⟩
  clear g0 g1 g2
  have EN := Lib.hid EN.out.drew
  go_wp2
  go_region_held3 (fun w' => w'.cell? ⟨w1.heap.size, 0, none⟩ = some (.int .i64 k) ∧ w'.cell? ⟨w1.heap.size, 1, none⟩ = some (.int .i64 p) ∧ w'.cell? ⟨w1.heap.size, 2, none⟩ = some (.int .i64 q)) (first | exact ⟨c0, c1, c2⟩ | exact (EN.out.step ((Below.refl _ _).alloc (Nat.le_refl _) _)).2.1 | go_keep) (first
    | (go_at_call 55; refine (env_add EN (by repeat (first | exact List.Mem.head _ | apply List.Mem.tail)) (by repeat (first | exact List.Mem.head _ | apply List.Mem.tail))).mono ?_; rintro e w6 ⟨v, rfl, EN, ⟨c0, c1, c2⟩⟩)
    | (go_at_call 65; refine (env_mul EN (by repeat (first | exact List.Mem.head _ | apply List.Mem.tail)) (by repeat (first | exact List.Mem.head _ | apply List.Mem.tail))).mono ?_; rintro e w6 ⟨v, rfl, EN, ⟨c0, c1, c2⟩⟩)
    | (go_at_call 67; refine (env_zero EN).mono ?_; rintro e w6 ⟨v, rfl, EN, ⟨c0, c1, c2⟩⟩)
    | (go_at_call 68; refine (env_one EN).mono ?_; rintro e w6 ⟨v, rfl, EN, ⟨c0, c1, c2⟩⟩)
    | (go_at_call 60; refine (env_sum EN (by repeat (first | exact List.Mem.head _ | apply List.Mem.tail)) (by repeat (first | exact List.Mem.head _ | apply List.Mem.tail)) (by repeat (first | exact List.Mem.head _ | apply List.Mem.tail))).mono ?_; rintro e w6 ⟨v, rfl, EN, ⟨c0, c1, c2⟩⟩)
    | (go_at_call 69; refine (env_width EN).mono ?_; rw [HWL.out]; rintro e w6 ⟨rfl, EN, ⟨c0, c1, c2⟩⟩)
    | (go_at_call 51; refine (env_ints EN (by repeat (first | exact List.Mem.head _ | apply List.Mem.tail)) (by repeat (first | exact List.Mem.head _ | apply List.Mem.tail)) (by first | exact E1.out | exact E2.out | exact E3.out | exact E4.out | exact E5.out | exact E6.out | exact E7.out | exact E8.out | rfl)).mono ?_; rintro e w6 ⟨rfl, EN, ⟨c0, c1, c2⟩⟩))
  all_goals
    have EN := Lib.hid EN.out.drew
    obtain ⟨c0, c1, c2⟩ := EN.out.2.1
    go_wp2_with fail
    simp only [List.append]
    go_region_held3 (fun w' => w'.cell? ⟨w1.heap.size, 0, none⟩ = some (.int .i64 k) ∧ w'.cell? ⟨w1.heap.size, 1, none⟩ = some (.int .i64 p) ∧ w'.cell? ⟨w1.heap.size, 2, none⟩ = some (.int .i64 q)) (first | exact ⟨c0, c1, c2⟩ | exact (EN.out.step ((Below.refl _ _).alloc (Nat.le_refl _) _)).2.1 | go_keep) (first
      | (go_at_call 55; refine (env_add EN (by repeat (first | exact List.Mem.head _ | apply List.Mem.tail)) (by repeat (first | exact List.Mem.head _ | apply List.Mem.tail))).mono ?_; rintro e w6 ⟨v, rfl, EN, ⟨c0, c1, c2⟩⟩)
      | (go_at_call 65; refine (env_mul EN (by repeat (first | exact List.Mem.head _ | apply List.Mem.tail)) (by repeat (first | exact List.Mem.head _ | apply List.Mem.tail))).mono ?_; rintro e w6 ⟨v, rfl, EN, ⟨c0, c1, c2⟩⟩)
      | (go_at_call 67; refine (env_zero EN).mono ?_; rintro e w6 ⟨v, rfl, EN, ⟨c0, c1, c2⟩⟩)
      | (go_at_call 68; refine (env_one EN).mono ?_; rintro e w6 ⟨v, rfl, EN, ⟨c0, c1, c2⟩⟩)
      | (go_at_call 60; refine (env_sum EN (by repeat (first | exact List.Mem.head _ | apply List.Mem.tail)) (by repeat (first | exact List.Mem.head _ | apply List.Mem.tail)) (by repeat (first | exact List.Mem.head _ | apply List.Mem.tail))).mono ?_; rintro e w6 ⟨v, rfl, EN, ⟨c0, c1, c2⟩⟩)
      | (go_at_call 69; refine (env_width EN).mono ?_; rw [HWL.out]; rintro e w6 ⟨rfl, EN, ⟨c0, c1, c2⟩⟩)
      | (go_at_call 51; refine (env_ints EN (by repeat (first | exact List.Mem.head _ | apply List.Mem.tail)) (by repeat (first | exact List.Mem.head _ | apply List.Mem.tail)) (by first | exact E1.out | exact E2.out | exact E3.out | exact E4.out | exact E5.out | exact E6.out | exact E7.out | exact E8.out | rfl)).mono ?_; rintro e w6 ⟨rfl, EN, ⟨c0, c1, c2⟩⟩))
    all_goals
      go_wp2
      go_ret
      exact ⟨rfl, EN.out.1⟩

theorem law_rings {v : Value} {bs : List UInt8} {w : World} (hr : Rd w.heap.size w v (bytes8 bs)) (hl : bs.length ≤ 281474976710656) :
    Calls Try.prog 14 #[v] w fun e w' => e = .returned (.bool true) ∧ Below w.heap.size w w' := by
  obtain ⟨a, cap, rfl, -⟩ := bytes_cell hr
  by_cases hs : bs.length ≤ 1048576
  · exact law_rings_small a _ cap bs w rfl hs hr
  · exact law_rings_big a _ cap w (by omega) hl
end Go.Proofs.Ytfdjlahaiogabab
