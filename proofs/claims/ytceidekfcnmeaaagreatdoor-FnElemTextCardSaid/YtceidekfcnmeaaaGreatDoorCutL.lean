
/- Plain facts: the parts of a string between the bytes c, as lists of bytes. -/
import Derived.Test.YtceidekfcnmeaaaGreatDoorPieceNum
namespace Go.Proofs.YtceidekfcnmeaaaGreatDoor
set_option maxRecDepth 20000
open Go Go.RowKit

/-- One byte on: the parts that are ended, and the present one. -/
def cstep (c : Nat) (st : List (List UInt8) × List UInt8) (x : UInt8) : List (List UInt8) × List UInt8 := if x.toNat = c then (st.1 ++ [st.2], []) else (st.1, st.2 ++ [x])
def cfold (c : Nat) (st : List (List UInt8) × List UInt8) (l : List UInt8) : List (List UInt8) × List UInt8 := l.foldl (cstep c) st
def cutL (c : Nat) (l : List UInt8) : List (List UInt8) := (cfold c ([], []) l).1 ++ [(cfold c ([], []) l).2]
theorem cfold_app (c : Nat) (st : List (List UInt8) × List UInt8) (a b : List UInt8) : cfold c st (a ++ b) = cfold c (cfold c st a) b := by simp [cfold]
theorem cfold_none (c : Nat) (l : List UInt8) (h : ∀ x ∈ l, x.toNat ≠ c) : ∀ st, cfold c st l = (st.1, st.2 ++ l) := by
  induction l with
  | nil => intro st; simp [cfold]
  | cons x r ih =>
    intro st
    have h1 : cfold c st (x :: r) = cfold c (cstep c st x) r := rfl
    rw [h1, ih (fun y hy => h y (List.mem_cons_of_mem _ hy))]
    unfold cstep
    rw [if_neg (h x (by simp))]
    simp
theorem cfold_hit (c : Nat) (x : UInt8) (h : x.toNat = c) (st : List (List UInt8) × List UInt8) : cfold c st [x] = (st.1 ++ [st.2], []) := by
  show cstep c st x = _
  unfold cstep
  rw [if_pos h]
theorem ext_list (s : ByteArray) (a k : Nat) : (s.extract a k).data.toList = (s.data.toList.take k).drop a := by
  simp [List.drop_take]
theorem pst_cfold (s : ByteArray) (c : Nat) : ∀ k, k ≤ s.size → (pst s c k).1.map (fun p => p.data.toList) = (cfold c ([], []) (s.data.toList.take k)).1 ∧ (s.extract (pst s c k).2 k).data.toList = (cfold c ([], []) (s.data.toList.take k)).2 := by
  intro k
  induction k with
  | zero => intro _; simp [pst, cfold]
  | succ k ih =>
    intro hk
    obtain ⟨h1, h2⟩ := ih (by omega)
    have hlt : k < s.data.toList.length := by rw [Array.length_toList]; exact hk
    have hx : s.data.toList[k] = s[k] := rfl
    have e : s.data.toList.take (k + 1) = s.data.toList.take k ++ [s[k]] := by rw [List.take_add_one, List.getElem?_eq_getElem hlt, hx]; rfl
    have hle := (pst_le s c k).1
    by_cases hc : s[k].toNat = c
    · rw [pst_hit (by omega) hc, e, cfold_app, cfold_hit c _ hc]
      refine ⟨by rw [List.map_append, h1, ← h2]; rfl, ?_⟩
      show (s.extract (k + 1) (k + 1)).data.toList = []
      simp
    · rw [pst_miss (by omega) hc, e, cfold_app, cfold_none c [s[k]] (by simpa using hc)]
      refine ⟨h1, ?_⟩
      rw [← h2, ext_list, ext_list, e, List.drop_append_of_le_length (by rw [List.length_take]; omega)]
theorem parts_cut (s : ByteArray) (c : Nat) : (parts s c).map (fun p => p.data.toList) = cutL c s.data.toList := by
  obtain ⟨h1, h2⟩ := pst_cfold s c s.size (Nat.le_refl _)
  have e : s.data.toList.take s.size = s.data.toList := List.take_of_length_le (by rw [Array.length_toList]; exact Nat.le_refl _)
  rw [e] at h1 h2
  unfold parts cutL
  rw [List.map_append, h1, ← h2]
  rfl
theorem bytes_inj {a b : List ByteArray} (h : a.map (fun p => p.data.toList) = b.map (fun p => p.data.toList)) : a = b := by
  induction a generalizing b with
  | nil => cases b with | nil => rfl | cons y r => simp at h
  | cons x r ih =>
    cases b with
    | nil => simp at h
    | cons y q =>
      simp only [List.map_cons, List.cons.injEq] at h
      rw [ih h.2, ByteArray.ext (Array.ext' h.1)]
end Go.Proofs.YtceidekfcnmeaaaGreatDoor
