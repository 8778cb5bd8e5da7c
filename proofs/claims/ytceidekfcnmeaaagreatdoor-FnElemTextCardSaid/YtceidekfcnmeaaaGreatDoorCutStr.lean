
/- strings.Cut at a space. -/
import Derived.Test.YtceidekfcnmeaaaGreatDoorRingText
import Derived.Test.YtceidekfcnmeaaaGreatDoorShelfIdx
import Derived.Lib.IndexLaws
import Derived.Deep.RegionWith
namespace Go.Proofs.YtceidekfcnmeaaaGreatDoor
set_option maxRecDepth 20000
open Go.RowKit

theorem cut_none {s : ByteArray} (h : Lib.indexByte s.data.toList 32 = -1) : CutAt s s ByteArray.empty := by
  refine .inl ⟨fun x hx e => ?_, rfl, rfl⟩
  obtain ⟨k, hk⟩ := List.getElem?_of_mem hx
  refine Lib.indexByte_none h k ?_
  rw [hk, show x = 32 from UInt8.toNat_inj.1 e]
theorem cut_some {s : ByteArray} {i : Nat} (h : Lib.indexByte s.data.toList 32 = (i : Int)) : i < s.size ∧ CutAt s (s.extract 0 i) (s.extract (i + 1) s.size) := by
  obtain ⟨h1, h2⟩ := Lib.indexByte_some h
  have hl : i < s.data.toList.length := (List.getElem?_eq_some_iff.1 h1).1
  have hsz : s.data.toList.length = s.size := by simp
  refine ⟨by omega, .inr ⟨?_, ?_⟩⟩
  · rw [ext_list, ext_list, List.drop_zero, List.take_of_length_le (by omega : s.data.toList.length ≤ s.size)]
    have e := (List.getElem?_eq_some_iff.1 h1).2
    calc s.data.toList = s.data.toList.take i ++ s.data.toList.drop i := (List.take_append_drop i _).symm
      _ = s.data.toList.take i ++ (s.data.toList[i]'hl :: s.data.toList.drop (i + 1)) := by rw [List.drop_eq_getElem_cons hl]
      _ = _ := by rw [e]
  · intro x hx e
    rw [ext_list, List.drop_zero] at hx
    obtain ⟨k, hk⟩ := List.getElem?_of_mem hx
    have hk2 : k < i := by
      have := (List.getElem?_eq_some_iff.1 hk).1
      rw [List.length_take] at this
      omega
    rw [List.getElem?_take_of_lt hk2] at hk
    refine h2 k hk2 ?_
    rw [hk, show x = 32 from UInt8.toNat_inj.1 e]

set_option maxHeartbeats 800000 in
theorem cut_lite (s : ByteArray) (w : World) (hs : s.size ≤ 1048576) :
    Calls Tryz.prog 48 #[.string s, .string ⟨#[32]⟩] w fun e w' => ∃ a b c, e = .returned (.tuple #[.string a, .string b, .bool c]) ∧ CutAt s a b ∧ a.size ≤ 1048576 ∧ b.size ≤ 1048576 ∧ ∃ q, w' = w.drewN q := by
  have hge := Lib.indexByte_ge s.data.toList 32
  by_cases h : Lib.indexByte s.data.toList 32 = -1
  · have HC := Lib.hid (cut_none h)
    have HH := Lib.hid h
    clear h hge
    go_enter Tryz.func48, Tryz.ntmps48
    go_wp2_with fail
    refine (Tryz.stringslite_Index_one s 32 w).mono ?_
    rw [HH.out]
    rintro e w1 ⟨rfl, rfl⟩
    go_wp2
    go_ret3
    exact ⟨s, _, false, rfl, HC.out, hs, by decide, 0, rfl⟩
  · obtain ⟨i, hi⟩ : ∃ i : Nat, Lib.indexByte s.data.toList 32 = (i : Int) := ⟨(Lib.indexByte s.data.toList 32).toNat, by omega⟩
    obtain ⟨hlt, hc⟩ := cut_some hi
    have HC := Lib.hid hc
    have HH := Lib.hid hi
    have c1 : (0 : Int) ≤ (i : Int) := by omega
    have c2 : ((i : Int)) ≤ (s.size : Int) := by omega
    have c3 : (0 : Int) ≤ (i : Int) + 1 := by omega
    have c4 : ((i : Int) + 1) ≤ (s.size : Int) := by omega
    have hz1 : (s.extract 0 i).size ≤ 1048576 := by rw [ByteArray.size_extract]; omega
    have hz2 : (s.extract (i + 1) s.size).size ≤ 1048576 := by rw [ByteArray.size_extract]; omega
    have HZ := Lib.hid (And.intro hz1 hz2)
    clear h hge hi hc hz1 hz2
    go_enter Tryz.func48, Tryz.ntmps48
    go_wp2_with fail
    refine (Tryz.stringslite_Index_one s 32 w).mono ?_
    rw [HH.out]
    rintro e w1 ⟨rfl, rfl⟩
    go_wp2
    go_region
    all_goals
      go_wp2
      go_ret3
      exact ⟨_, _, true, rfl, HC.out, HZ.out.1, HZ.out.2, 1, rfl⟩

set_option maxHeartbeats 400000 in
theorem cut_any (s : ByteArray) (w : World) (hs : s.size ≤ 1048576) :
    Calls Tryz.prog 19 #[.string s, .string ⟨#[32]⟩] w fun e w' => ∃ a b c, e = .returned (.tuple #[.string a, .string b, .bool c]) ∧ CutAt s a b ∧ a.size ≤ 1048576 ∧ b.size ≤ 1048576 ∧ ∃ q, w' = w.drewN q := by
  go_enter Tryz.func19, Tryz.ntmps19
  go_wp2_with fail
  refine (cut_lite s w hs).mono ?_
  rintro e w1 ⟨a, b, c, rfl, hc, h1, h2, q, rfl⟩
  go_wp2
  go_ret3
  exact ⟨a, b, c, rfl, hc, h1, h2, q, rfl⟩
end Go.Proofs.YtceidekfcnmeaaaGreatDoor
