
/- Sets of tensors as bits: has, indices. -/
import Derived.Test.YtdheakjjnaifkaaNetOkSpec
import Derived.Laws.BitsAllLaws
namespace Go.Proofs.Ytdheakjjnaifkaa
set_option maxRecDepth 20000
open Go.RowKit

theorem has_bit (s k : Nat) (hs : s < 18446744073709551616) : (bits BinOp.and IntKind.u64 ((s : Int) / 2 ^ k) 1 == 1) = s.testBit k := by
  have e : ((s : Int) / 2 ^ k) = ((s / 2 ^ k : Nat) : Int) := by simp
  have h1 : s / 2 ^ k < 18446744073709551616 := Nat.lt_of_le_of_lt (Nat.div_le_self _ _) hs
  have h2 := u64_and_nat (s / 2 ^ k) 1 h1 (by decide)
  rw [e]
  rw [show (1 : Int) = ((1 : Nat) : Int) from rfl] at *
  rw [h2, Nat.and_one_is_mod, Nat.testBit_eq_decide_div_mod_eq]
  by_cases h : s / 2 ^ k % 2 = 1
  · rw [h]; rfl
  · rw [decide_eq_false h]
    have h3 : s / 2 ^ k % 2 = 0 := by omega
    rw [h3]; rfl
set_option maxHeartbeats 3200000 in
theorem has_impl (s k : Nat) (w : World) (hs : s < 18446744073709551616) (hk : k < 64) :
    Calls Try.prog 97 #[.int .u64 s, .int .i64 k] w fun e w' => e = .returned (.bool (s.testBit k)) ∧ w = w' := by
  go_enter Try.func97, Try.ntmps97
  go_wp2
  go_ret
  exact ⟨by rw [← has_bit s k hs]; rfl, rfl⟩
/-- The tensors of a set that are below n. -/
def bitsTo (s n : Nat) : List Int := ((List.range n).filter fun i => s.testBit i).map fun i : Nat => (i : Int)
theorem bitsTo_len (s n : Nat) : (bitsTo s n).length ≤ n := by
  unfold bitsTo
  rw [List.length_map]
  exact Nat.le_trans (List.length_filter_le _ _) (by simp)
theorem bitsTo_yes {s n : Nat} (h : s.testBit n = true) : bitsTo s n ++ [(n : Int)] = bitsTo s (n + 1) := by
  unfold bitsTo
  rw [List.range_succ, List.filter_append, List.map_append]
  simp [h]
theorem bitsTo_no {s n : Nat} (h : s.testBit n = false) : bitsTo s n = bitsTo s (n + 1) := by
  unfold bitsTo
  rw [List.range_succ, List.filter_append, List.map_append]
  simp [h]
set_option maxHeartbeats 3200000 in
theorem indices_impl (s : Nat) (w : World) (hs : s < 18446744073709551616) :
    Calls Try.prog 69 #[.int .u64 s] w (NewRow w (bitsTo s 12)) := by
  obtain ⟨i0, hi0, hz0, hz1, hz2⟩ := info_parts infoInt
  have J0 := Lib.hid hi0
  have J1 := Lib.hid hz0
  have J2 := Lib.hid hz1
  have J3 := Lib.hid hz2
  have HS := Lib.hid hs
  have R0 : Hid (Rs w w [] [(.slice none 0 0, bitsTo s 0)]) := Lib.hid ((Rs.start w).nil)
  clear hi0 hz0 hz1 hz2 hs
  go_enter Try.func69, Try.ntmps69
  go_wp2
  go_loopw [3, 5] (fun u i wr => ∃ (j z : Nat) (ga : Option Addr) (ca : Nat), j ≤ 12 ∧ z ≤ j ∧ u = .slice ga z ca ∧ i = .int .i64 j ∧ Hid ((bitsTo s j).length = z) ∧ Hid (Rs w wr [] [(.slice ga z ca, bitsTo s j)])) (fun _ i _ => 12 - (intOf i).toNat)
  case atStart => exact ⟨0, 0, none, 0, by omega, by omega, rfl, rfl, Lib.hid rfl, R0⟩
  case round =>
    clear R0
    obtain ⟨j, z, ga, ca, hj, hzj, rfl, rfl, HZ, HR⟩ := hrel
    by_cases hlt : j < 12
    · have HH := Lib.hid (has_impl s j wr HS.out (by omega))
      cases hb : s.testBit j with
      | true =>
        have HE := Lib.hid (bitsTo_yes hb)
        rw [hb] at HH
        clear hb
        go_wp2_with fail
        refine HH.out.mono ?_
        rintro e w3 ⟨rfl, rfl⟩
        clear HH
        have A5 := Lib.hid (HR.out.alloc (.cells #[.int .i64 (j : Int)] 3))
        have O5 := Lib.hid (A5.out.row (v := .slice ga z ca) (List.mem_cons_self) HZ.out)
        go_wp2_with (at_builtin; go_must (refine wpList_append_lies _ rfl _ _ 25 rfl w.heap.size 3 i0 (.int .i64 0) 1 8 Try.underlying25 J0.out J1.out J2.out J3.out rfl (by decide) _ z (ints (bitsTo s j)) rfl O5.out ⟨wr.heap.size, 0, none⟩ 1 1 [.int .i64 (j : Int)] rfl rfl (cell_one_new _ _ _) ?c2 (by decide) ?c3 ?c4 ?c5 _ rfl ?_))
        case c2 => first | rfl | (intro u hu; simp at hu; subst hu; rfl)
        case c3 => unfold maxLen; omega
        case c4 => omega
        case c5 => exact A5.out.bel.size
        intro g1 cap1 w5 hown hgrow hl1 _
        have hR5 := A5.out.app1 HZ.out hown hgrow (by rw [World.size_alloc]; exact hl1)
        rw [HE.out] at hR5
        have R6 := Lib.hid hR5
        have HZ6 : Hid ((bitsTo s (j + 1)).length = z + 1) := Lib.hid (by rw [← HE.out, List.length_append, HZ.out]; rfl)
        clear hown hgrow hl1 hR5 A5 O5 HR
        go_wp2
        go_roundw
        case rel => exact ⟨j + 1, z + 1, some ⟨g1, 0, none⟩, cap1, by omega, by omega, rfl, by go_num, HZ6, R6⟩
        case measure => simp [intOf]; omega
      | false =>
        have HE := Lib.hid (bitsTo_no hb)
        rw [hb] at HH
        have HZ6 : Hid ((bitsTo s (j + 1)).length = z) := Lib.hid (by rw [← HE.out, HZ.out])
        rw [HE.out] at HR
        clear hb
        go_wp2_with fail
        refine HH.out.mono ?_
        rintro e w3 ⟨rfl, rfl⟩
        clear HH
        go_wp2
        go_roundw
        case rel => exact ⟨j + 1, z, ga, ca, by omega, by omega, rfl, by go_num, HZ6, HR⟩
        case measure => simp [intOf]; omega
    · obtain rfl : j = 12 := by omega
      have RES := Lib.hid (HR.out.own1 (List.mem_cons_self))
      have BB := Lib.hid HR.out.bel
      clear hlt
      go_wp2
      go_ret
      exact ⟨_, rfl, RES.out, BB.out⟩
end Go.Proofs.Ytdheakjjnaifkaa
