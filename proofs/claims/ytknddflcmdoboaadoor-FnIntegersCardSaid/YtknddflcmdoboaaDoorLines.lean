
/- spec.SplitLines and impl.SplitLines: the parts between newlines; the last one only if it is not empty. -/
import Derived.Test.YtknddflcmdoboaaDoorPieces
namespace Go.Proofs.YtknddflcmdoboaaDoor
open Go.RowKit

def linesOf (s : ByteArray) : List ByteArray := if (pst s 10 s.size).2 < s.size then (pst s 10 s.size).1 ++ [s.extract (pst s 10 s.size).2 s.size] else (pst s 10 s.size).1
theorem linesOf_len (s : ByteArray) : (linesOf s).length ≤ s.size + 1 := by
  have h := pst_le s 10 s.size
  unfold linesOf
  split
  · rw [List.length_append, List.length_singleton]; omega
  · omega

set_option maxHeartbeats 400000 in
theorem impl_lines (s : ByteArray) (w : World) (hs : s.size ≤ 1048576) :
    Calls Tryd.prog 18 #[.string s] w fun e w' => ∃ v, e = .returned v ∧ w'.ownsRow w.heap.size 9 1 v (linesOf s).length (strs (linesOf s)) ∧ Below w.heap.size w w' := by
  go_enter Tryd.func18, Tryd.ntmps18
  go_wp2_with fail
  refine (pieces_any s 10 w hs (by omega)).mono ?_
  rintro e w1 ⟨v, rfl, hown, hb⟩
  obtain ⟨ps, a, hp⟩ : ∃ ps a, pst s 10 s.size = (ps, a) := ⟨_, _, rfl⟩
  have hple := pst_le s 10 s.size
  rw [hp] at hple
  obtain ⟨hp1, hp2⟩ := hple
  have e : parts s 10 = ps ++ [s.extract a s.size] := by unfold parts; rw [hp]
  rw [e, List.length_append, List.length_singleton] at hown
  have HB := Lib.hid hb
  have HP := Lib.hid hp
  have HO0 := Lib.hid hown
  obtain ⟨g, cap, hv⟩ : ∃ g cap, v = .slice (some ⟨g, 0, none⟩) (ps.length + 1) cap := by
    rcases hown.2 with ⟨-, h⟩ | ⟨g, cap, cur, rfl, -⟩
    · omega
    · exact ⟨g, cap, rfl⟩
  have hcap : ps.length + 1 ≤ cap := by
    rcases hown.2 with ⟨-, h⟩ | ⟨g', cap', cur, hv', -, -, hn, -⟩
    · omega
    · rw [hv] at hv'; cases hv'; exact hn
  subst hv
  have c1 : w1.cell? ⟨g, ps.length, none⟩ = some (.string (s.extract a s.size)) := by
    rw [hown.cellAt ps.length (by omega)]
    simp [strs]
  obtain ⟨x, hx⟩ : ∃ x, x = s.extract a s.size := ⟨_, rfl⟩
  rw [← hx] at c1
  have X := Lib.hid hx
  have hps : ps.length ≤ s.size := hp2
  have hpsb : ps.length ≤ 1048576 := by omega
  clear hown hb hp e hx hp2
  by_cases ha : a < s.size
  · have e : linesOf s = ps ++ [s.extract a s.size] := by unfold linesOf; rw [HP.out]; simp [ha]
    have E := Lib.hid e
    have hx0 : x.toList.isEmpty = false := by
      rw [X.out, ByteArray.toList_eq, Lib.extract_data]
      rw [Bool.eq_false_iff]
      intro h
      have := congrArg List.length (List.isEmpty_iff.1 h)
      simp at this
      omega
    clear e
    go_wp2
    go_ret
    refine ⟨_, rfl, ?_, HB.out⟩
    rw [E.out, List.length_append, List.length_singleton]
    exact HO0.out
  · have e : linesOf s = ps := by unfold linesOf; rw [HP.out]; simp [ha]
    have E := Lib.hid e
    have hx0 : x.toList.isEmpty = true := by
      rw [X.out, ByteArray.toList_eq, Lib.extract_data]
      rw [List.isEmpty_iff]
      apply List.eq_nil_of_length_eq_zero
      simp
      omega
    clear e
    go_wp2
    go_ret
    refine ⟨_, rfl, ?_, HB.out⟩
    rw [E.out]
    have h := HO0.out
    rw [← strs_app] at h
    exact ownsRow_pop (by rw [strs_len]; omega) h
end Go.Proofs.YtknddflcmdoboaaDoor
