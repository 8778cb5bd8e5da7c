
/- Plain facts on the texts of three integers: parsed again, their words, their lines. -/
import Derived.Test.YtknddflcmdoboaaDoorItoaFacts
import Derived.Test.YtknddflcmdoboaaDoorFmtInts
import Derived.Test.YtknddflcmdoboaaDoorWords
import Derived.Test.YtknddflcmdoboaaDoorLines
namespace Go.Proofs.YtknddflcmdoboaaDoor
set_option maxRecDepth 20000
open Go Go.RowKit

theorem join3 (b : List UInt8) (x y z : Int) : joinL b (texts [x, y, z]) = Lib.itoa x ++ b ++ Lib.itoa y ++ b ++ Lib.itoa z := by
  simp [joinL, texts]
theorem fold3 (c : UInt8) (h : c.toNat < 45) (x y z : Int) (ps : List (List UInt8)) : cfold c.toNat (ps, []) (joinL [c] (texts [x, y, z])) = (ps ++ [Lib.itoa x, Lib.itoa y], Lib.itoa z) := by
  rw [join3, cfold_app, cfold_app, cfold_app, cfold_app, cfold_none _ _ (no_sep x h), cfold_hit _ c rfl, cfold_none _ _ (no_sep y h), cfold_hit _ c rfl, cfold_none _ _ (no_sep z h)]
  simp
theorem cut3 (c : UInt8) (h : c.toNat < 45) (x y z : Int) : cutL c.toNat (joinL [c] (texts [x, y, z])) = [Lib.itoa x, Lib.itoa y, Lib.itoa z] := by
  unfold cutL
  rw [fold3 c h]
  rfl
theorem pi3 (x y z : Int) (hx : inI x) (hy : inI y) (hz : inI z) : PI ⟨(joinL [32] (texts [x, y, z])).toArray⟩ [x, y, z] true := by
  refine .inr (.inl ⟨rfl, ?_, ?_⟩)
  · show 0 < (joinL [32] (texts [x, y, z])).toArray.size
    rw [List.size_toArray, join3]
    have := itoa_ne x
    have h1 : 0 < (Lib.itoa x).length := List.length_pos_iff.2 this
    simp only [List.length_append]; omega
  · have e : (parts ⟨(joinL [32] (texts [x, y, z])).toArray⟩ 32).map pv = ((parts ⟨(joinL [32] (texts [x, y, z])).toArray⟩ 32).map (fun p => p.data.toList)).map pval := by rw [List.map_map]; rfl
    rw [e, parts_cut, mk_list, show (32 : Nat) = (32 : UInt8).toNat from rfl, cut3 32 (by decide)]
    simp [pval_some hx, pval_some hy, pval_some hz]
theorem words3 (x y z : Int) (s : ByteArray) (hs : s.data.toList = [32, 32] ++ joinL [32] (texts [x, y, z]) ++ [32]) : wordsOf s = texts [x, y, z] := by
  apply bytes_inj
  have e : (wordsOf s).map (fun p => p.data.toList) = ((parts s 32).map (fun p => p.data.toList)).filter (fun l => decide (0 < l.length)) := by
    unfold wordsOf
    rw [List.filter_map]
    congr 1
  have h1 : ∀ n : Int, 0 < (Lib.itoa n).length := fun n => List.length_pos_iff.2 (itoa_ne n)
  have e2 : cutL 32 ([32, 32] ++ joinL [32] (texts [x, y, z]) ++ [32]) = [[], [], Lib.itoa x, Lib.itoa y, Lib.itoa z, []] := by
    unfold cutL
    rw [cfold_app, cfold_app, show cfold 32 ([], []) [32, 32] = ([[], []], []) from rfl, show (32 : Nat) = (32 : UInt8).toNat from rfl, fold3 32 (by decide), cfold_hit _ (32 : UInt8) rfl]
    rfl
  rw [e, parts_cut, hs, e2]
  simp [h1, texts]
theorem lines3 (x y z : Int) : (linesOf ⟨(joinL [10] (texts [x, y, z])).toArray⟩).length = 3 := by
  have h := parts_cut ⟨(joinL [10] (texts [x, y, z])).toArray⟩ 10
  rw [mk_list, show cutL 10 (joinL [10] (texts [x, y, z])) = [Lib.itoa x, Lib.itoa y, Lib.itoa z] from cut3 10 (by decide) x y z] at h
  generalize (⟨(joinL [10] (texts [x, y, z])).toArray⟩ : ByteArray) = s at h ⊢
  unfold parts at h
  rw [List.map_append, List.map_singleton] at h
  have h2 : (pst s 10 s.size).1.map (fun p => p.data.toList) ++ [(s.extract (pst s 10 s.size).2 s.size).data.toList] = [Lib.itoa x, Lib.itoa y] ++ [Lib.itoa z] := h
  obtain ⟨h3, h4⟩ := List.append_inj' h2 rfl
  have h5 : (s.extract (pst s 10 s.size).2 s.size).data.toList = Lib.itoa z := by simpa using h4
  have hl : (pst s 10 s.size).1.length = 2 := by have := congrArg List.length h3; simpa using this
  have hlt : (pst s 10 s.size).2 < s.size := by
    by_cases hh : (pst s 10 s.size).2 < s.size
    · exact hh
    · exfalso
      apply itoa_ne z
      rw [← h5, ext_list]
      apply List.drop_eq_nil_of_le
      rw [List.length_take]
      omega
  unfold linesOf
  rw [if_pos hlt, List.length_append, hl]
  rfl
theorem joinL_small (c : UInt8) (x y z : Int) (hx : inI x) (hy : inI y) (hz : inI z) : (joinL [c] (texts [x, y, z])).length ≤ 62 := by
  rw [join3]
  have h1 := itoa_len20 hx
  have h2 := itoa_len20 hy
  have h3 := itoa_len20 hz
  simp only [List.length_append, List.length_singleton]
  omega
end Go.Proofs.YtknddflcmdoboaaDoor
