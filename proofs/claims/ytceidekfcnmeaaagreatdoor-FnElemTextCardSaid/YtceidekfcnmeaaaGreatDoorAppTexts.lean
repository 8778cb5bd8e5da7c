
/- impl.appendTexts: the bytes of the texts behind those of text. -/
import Derived.Test.YtceidekfcnmeaaaGreatDoorLawKit
import Derived.Lib.Hide
import Derived.Lib.AppendStr
import Derived.Lib.OthersKept
import Derived.Laws.OwnMore
namespace Go.Proofs.YtceidekfcnmeaaaGreatDoor
set_option maxRecDepth 20000
open Go.RowKit

def flat (ss : List ByteArray) : List UInt8 := (ss.map (·.data.toList)).flatten
def bcells (l : List UInt8) : List Value := Lib.strCells ⟨l.toArray⟩
theorem bcells_app (l : List UInt8) (s : ByteArray) : bcells l ++ Lib.strCells s = bcells (l ++ s.data.toList) := by
  simp [bcells, Lib.strCells]
theorem flat_snoc (ss : List ByteArray) (k : Nat) (x : ByteArray) (h : ss[k]? = some x) : flat (ss.take (k + 1)) = flat (ss.take k) ++ x.data.toList := by
  rw [List.take_add_one, h]; simp [flat]
theorem flat_app (a b : List ByteArray) : flat (a ++ b) = flat a ++ flat b := by simp [flat]
theorem flat_le (ss : List ByteArray) (k : Nat) : (flat (ss.take k)).length ≤ (flat ss).length := by
  have h := flat_app (ss.take k) (ss.drop k)
  rw [List.take_append_drop] at h
  rw [h, List.length_append]; omega
theorem cell_of_heap {w : World} {b : Nat} {cs : List Value} {t : TypeId} {m : Nat × Nat} (h : w.heap[b]? = some (.cells cs.toArray t m)) {k : Nat} {x : Value} (hk : cs[k]? = some x) : w.cell? ⟨b, k, none⟩ = some x := by
  simp [World.cell?, h, hk]
theorem own_kind {w : World} {B : Nat} {e : TypeId} {v : Value} {n : Nat} {xs : List Value} (h : w.ownsRow B e 1 v n xs) : ∀ g, v.ownBlock = some g → ∃ c fz, w.heap[g]? = some (.cells c e fz) := by
  intro g hg
  rcases h.2 with ⟨rfl, -⟩ | ⟨g', cap, cur, rfl, -, hc, -⟩
  · simp [Value.ownBlock] at hg
  · simp [Value.ownBlock] at hg; subst hg; exact ⟨_, _, hc⟩

set_option maxHeartbeats 400000 in
theorem app_texts (B bt : Nat) (v : Value) (l : List UInt8) (ss : List ByteArray) (w : World) (hB : B ≤ w.heap.size) (hown : w.ownsRow B 5 1 v l.length (bcells l))
    (ht : w.heap[bt]? = some (.cells (strs ss).toArray 9 (0, 0))) (hlen : l.length + (flat ss).length ≤ 70368744177664) (hss : ss.length ≤ 70368744177664) :
    Calls Tryz.prog 56 #[v, .slice (some ⟨bt, 0, none⟩) ss.length ss.length] w fun e w' => ∃ v', e = .returned v' ∧ w'.ownsRow B 5 1 v' (l ++ flat ss).length (bcells (l ++ flat ss)) ∧ Below B w w' ∧ Lib.OthersKept 5 none w w' := by
  have HO := Lib.hid hown
  have HT := Lib.hid ht
  have HL := Lib.hid hlen
  obtain ⟨i0, hi, hz0, hz1, hz2⟩ := info_parts infoByte
  have HI := Lib.hid hi
  have HZ0 := Lib.hid hz0
  have HZ1 := Lib.hid hz1
  have HZ2 := Lib.hid hz2
  clear hown ht hlen hi hz0 hz1 hz2
  generalize hn : ss.length = n at hss
  have HN := Lib.hid hn
  clear hn
  go_enter Tryz.func56, Tryz.ntmps56
  go_wp2
  go_loopw [0, 9] (fun t i wr => ∃ k : Nat, k ≤ n ∧ i = .int .i64 k ∧ Hid (wr.ownsRow B 5 1 t (l ++ flat (ss.take k)).length (bcells (l ++ flat (ss.take k)))) ∧ Hid (Below B w wr) ∧ Hid (Lib.OthersKept 5 none w wr)) (fun _ i _ => n - (intOf i).toNat)
  case atStart => exact ⟨0, by omega, rfl, by have h := HO.out; simp only [List.take_zero]; rw [show flat [] = [] from rfl, List.append_nil]; exact h, Below.refl _ _, Lib.OthersKept.refl _ _ _⟩
  case round =>
    obtain ⟨k, hk, rfl, HOK, HBW, HK⟩ := hrel
    by_cases hlt : k < n
    · have hkl : k < ss.length := by rw [HN.out]; exact hlt
      have hbt : wr.heap[bt]? = some (.cells (strs ss).toArray 9 (0, 0)) := HK.out bt _ HT.out (by simp) (by intro c fz h; simp at h)
      obtain ⟨x, X⟩ : ∃ x, ss[k]? = some x := ⟨_, List.getElem?_eq_getElem hkl⟩
      have c1 : wr.cell? ⟨bt, k, none⟩ = some (.string x) := cell_of_heap hbt (by simp [strs, X])
      have X1 := Lib.hid X
      have hf := flat_snoc ss k x X
      have hle := flat_le ss (k + 1)
      have hLL := HL.out
      rw [hf, List.length_append] at hle
      have hxs : x.data.toList.length = x.size := by simp
      have hln : (l ++ flat (ss.take k)).length + x.size ≤ 70368744177664 := by rw [List.length_append]; omega
      have HF := Lib.hid hf
      have HB2 := Lib.hid (Nat.le_trans hB HBW.out.size)
      clear hbt X hf hle hLL hxs hkl
      go_wp2_with (at_builtin; go_must (refine Lib.wpList_append_own_string _ rfl _ _ 22 9 rfl B 5 i0 Tryz.underlying22 Tryz.underlying9 HI.out HZ0.out HZ1.out HZ2.out _ _ _ rfl HOK.out x rfl (by unfold maxLen; omega) (by omega) HB2.out ?_); intro v' w2 hown2 hgrow2 _)
      have HO2 := Lib.hid hown2
      have HG2 := Lib.hid hgrow2
      clear hown2 hgrow2
      go_wp2
      go_roundw
      case rel =>
        refine ⟨k + 1, by omega, by go_num, ?_, HBW.out.grown HG2.out HB2.out (fun g hg => (HOK.out.lt g hg).1), HK.out.grown HG2.out (own_kind HOK.out)⟩
        have h := HO2.out
        rw [bcells_app, List.append_assoc, ← HF.out] at h
        show World.ownsRow _ _ _ _ _ _ _
        have e : (l ++ flat (ss.take (k + 1))).length = (l ++ flat (ss.take k)).length + x.size := by
          rw [HF.out]; simp [Nat.add_assoc]
        rw [e]; exact h
      case measure => simp [intOf]; omega
    · obtain rfl : k = n := by omega
      go_wp2
      go_ret
      have e : ss.take k = ss := List.take_of_length_le (by rw [HN.out]; omega)
      exact ⟨_, rfl, by have h := HOK.out; rw [e] at h; exact h, HBW.out, HK.out⟩
end Go.Proofs.YtceidekfcnmeaaaGreatDoor
