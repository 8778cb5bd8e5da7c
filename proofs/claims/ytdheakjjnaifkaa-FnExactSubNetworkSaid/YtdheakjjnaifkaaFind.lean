
/- byLabel: what is found at a label. -/
import Derived.Test.YtdheakjjnaifkaaFindInt
import Derived.Test.YtdheakjjnaifkaaTensorOk
import Derived.Test.YtdheakjjnaifkaaAxes
import Derived.Test.YtdheakjjnaifkaaSliceMath
namespace Go.Proofs.Ytdheakjjnaifkaa
set_option maxRecDepth 20000
open Go.RowKit

theorem pair_yes {a b : Option Addr} {m c d : Nat} (w : World) :
    Calls Try.prog 61 #[.slice a m c, .slice b m d] w fun e w' => e = .returned (.tuple #[.agg #[.slice a m c, .slice b m d], .bool true]) ∧ Below w.heap.size w w' := by
  go_enter Try.func61, Try.ntmps61
  go_wp2
  refine bodyPost_ret (v := .tuple #[.agg #[.slice a m c, .slice b m d], .bool true]) (by simp [results, Try.results61, go_sem]) rfl ?_
  exact ⟨rfl, (Below.refl _ _).alloc (Nat.le_refl _) _⟩
theorem pair_no {a b : Option Addr} {m n c d : Nat} (w : World) (hmn : m ≠ n) :
    Calls Try.prog 61 #[.slice a m c, .slice b n d] w fun e w' => e = .returned (.tuple #[.agg #[nilV, nilV], .bool false]) ∧ Below w.heap.size w w' := by
  have q1 : ((m : Int) == (n : Int)) = false := by simp; omega
  go_enter Try.func61, Try.ntmps61
  go_wp2
  refine bodyPost_ret (v := .tuple #[.agg #[nilV, nilV], .bool false]) (by simp [results, Try.results61, go_sem]) rfl ?_
  exact ⟨rfl, (Below.refl _ _).alloc (Nat.le_refl _) _⟩
theorem find_int {B : Nat} {kv vv : Value} {KL VL : List Int} {w : World} (n : Int) (hk : Rd B w kv (ints KL)) (hv : Rd B w vv (ints VL)) (hB : B ≤ w.heap.size) (hl : KL.length = VL.length) (hm : KL.length ≤ 281474976710656) :
    Calls Try.prog 56 #[.agg #[kv, vv], .int .i64 n] w fun e w' => e = .returned (.tuple #[.int .i64 ((cK KL VL n).getD 0), .bool (cK KL VL n).isSome]) ∧ Below w.heap.size w w' := by
  obtain ⟨ak, ck, rfl, -⟩ := ints_form hk
  obtain ⟨av, cv, rfl, -⟩ := ints_form hv
  have hbel : Below B w (w.alloc (.cells #[.slice ak KL.length ck, .slice av VL.length cv] 68)) := (Below.refl _ _).alloc hB _
  have HI := Lib.hid (index_any n (hk.below hbel (Nat.le_refl _)) hm)
  by_cases hn : n ∈ KL
  · obtain ⟨z, hz⟩ : ∃ z, z = KL.idxOf n := ⟨_, rfl⟩
    have hzl := List.idxOf_lt_length_iff.2 hn
    rw [← hz] at hzl
    obtain ⟨v, hvz⟩ : ∃ v, VL[z]? = some v := ⟨_, List.getElem?_eq_getElem (by omega)⟩
    rw [cK_some hn, ← hz, getD_at hvz]
    rw [show findI KL n = (z : Int) by unfold findI; rw [if_pos hn, hz]] at HI
    obtain ⟨b, off, rfl, -, e1⟩ := (hv.below hbel (Nat.le_refl _)).cellAt hvz
    have hzv : z < VL.length := by omega
    have q1 : decide ((z : Int) < 0) = false := by simp
    have HE := Lib.hid e1
    obtain ⟨mk, hmk⟩ : ∃ m, m = KL.length := ⟨_, rfl⟩
    obtain ⟨mv, hmv⟩ : ∃ m, m = VL.length := ⟨_, rfl⟩
    rw [← hmk, ← hmv] at HI HE ⊢
    rw [← hmv] at hzv
    clear hk hv hbel hB hl hm hn hz hzl hvz e1 hmk hmv
    go_enter Try.func56, Try.ntmps56
    go_wp2_with fail
    refine HI.out.mono ?_
    rintro e w' ⟨rfl, rfl⟩
    have e1 := HE.out
    go_wp2
    refine bodyPost_ret (v := .tuple #[.int .i64 v, .bool true]) (by simp [results, Try.results56, go_sem]) rfl ?_
    exact ⟨rfl, (Below.refl _ _).alloc (Nat.le_refl _) _⟩
  · rw [cK_none hn]
    rw [show findI KL n = -1 by unfold findI; rw [if_neg hn]] at HI
    obtain ⟨mk, hmk⟩ : ∃ m, m = KL.length := ⟨_, rfl⟩
    obtain ⟨mv, hmv⟩ : ∃ m, m = VL.length := ⟨_, rfl⟩
    rw [← hmk, ← hmv] at HI ⊢
    clear hk hv hbel hB hl hm hn hmk hmv
    go_enter Try.func56, Try.ntmps56
    go_wp2_with fail
    refine HI.out.mono ?_
    rintro e w' ⟨rfl, rfl⟩
    go_wp2
    refine bodyPost_ret (v := .tuple #[.int .i64 0, .bool false]) (by simp [results, Try.results56, go_sem]) rfl ?_
    exact ⟨rfl, (Below.refl _ _).alloc (Nat.le_refl _) _⟩
end Go.Proofs.Ytdheakjjnaifkaa
