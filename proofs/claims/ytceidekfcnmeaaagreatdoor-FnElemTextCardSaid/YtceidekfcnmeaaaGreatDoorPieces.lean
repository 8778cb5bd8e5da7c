
/- impl.pieces: the parts of s between the bytes of an ASCII separator. -/
import Derived.Test.YtceidekfcnmeaaaGreatDoorPieceNum
import Derived.Test.YtceidekfcnmeaaaGreatDoorShelfClone
import Derived.Test.YtceidekfcnmeaaaGreatDoorLawKit
import Derived.Lib.Hide
import Derived.Laws.OwnMore
import Derived.WalkLawsBesides
import Derived.Deep.Onto
namespace Go.Proofs.YtceidekfcnmeaaaGreatDoor
set_option maxRecDepth 20000
open Go.RowKit

set_option maxHeartbeats 400000 in
theorem clone_any (s : ByteArray) (w : World) (hs : s.size ≤ 281474976710656) :
    Calls Tryz.prog 64 #[.string s] w fun e w' => e = .returned (.string s) ∧ Below w.heap.size w w' := by
  go_enter Tryz.func64, Tryz.ntmps64
  go_wp2_with fail
  refine (Tryz.stringslite_Clone s w hs).mono ?_
  rintro e w1 ⟨rfl, hb⟩
  go_wp2
  go_ret
  exact ⟨rfl, hb⟩

theorem ownb {w w' : World} {B : Nat} {E : TypeId} {v : Value} {n : Nat} {xs : List Value} (h : w.ownsRow B E 1 v n xs) (hb : Below w.heap.size w w') : w'.ownsRow B E 1 v n xs :=
  h.kept (row := none) ⟨hb.os, hb.tape, hb.output, hb.size, fun k hk _ => hb.block k hk⟩ (by
    cases hv : v.ownBlock with
    | none => exact .inl rfl
    | some g => exact .inr (by simp))
theorem strs_app (a : List ByteArray) (x : ByteArray) : strs a ++ [.string x] = strs (a ++ [x]) := by simp [strs]

set_option maxHeartbeats 800000 in
theorem pieces_any (s : ByteArray) (c : Nat) (w : World) (hs : s.size ≤ 1048576) (hc : c < 128) :
    Calls Tryz.prog 51 #[.string s, .int .i32 c] w fun e w' => ∃ v, e = .returned v ∧ w'.ownsRow w.heap.size 9 1 v (parts s c).length (strs (parts s c)) ∧ Below w.heap.size w w' := by
  obtain ⟨i0, hi, hz0, hz1, hz2⟩ := info_parts infoStr
  have J0 := Lib.hid hi
  have J1 := Lib.hid hz0
  have J2 := Lib.hid hz1
  have J3 := Lib.hid hz2
  clear hi hz0 hz1 hz2
  go_enter Tryz.func51, Tryz.ntmps51
  go_wp2
  go_loopw [5, 6] (fun v st wr => ∃ (pos a : Nat) (ps : List ByteArray), pos ≤ s.size ∧ a ≤ pos ∧ ps.length ≤ pos ∧ st = .int .i64 a ∧ Hid (pst s c pos = (ps, a)) ∧ Hid (wr.heap[w.heap.size]? = some (.stringIter s pos)) ∧ Hid (wr.ownsRow (w.heap.size + 1) 9 1 v ps.length (strs ps)) ∧ Hid (Below w.heap.size w wr)) (fun _ _ wr => s.size - wr.iterPos w.heap.size)
  case atStart => exact ⟨0, 0, [], by omega, by omega, by simp, rfl, rfl, World.iter_heap w s 0, World.ownsRow_nil _ _ _ _, (Below.refl _ _).alloc (Nat.le_refl _) _⟩
  case round =>
    obtain ⟨pos, a, ps, hp1, hp2, hp3, rfl, HP, HIT, HO, HB⟩ := hrel
    have hpos0 := iterPos_of HIT.out
    have HZ := Lib.hid (lt_of_block HIT.out)
    by_cases hp : pos < s.size
    · have hnx : ∀ ty, (Instr.next (.pointer (some ⟨w.heap.size, 0, none⟩)) true ty).run Tryz.prog wr = _ := fun ty => Lib.run_next_any_at wr w.heap.size s pos ty HIT.out hp
      have hit2 := Lib.iterAt_heap wr w.heap.size s pos (pos + (Utf8.decode s pos).2) HIT.out
      have hbw2 := Lib.below_iterAt HB.out (k := w.heap.size) (Nat.le_refl _) s (pos + (Utf8.decode s pos).2)
      have hown2 := ownsRow_iterAt HO.out (k := w.heap.size) (by omega) s (pos + (Utf8.decode s pos).2)
      obtain ⟨W1, hW1⟩ : ∃ W1, W1 = wr.iterAt w.heap.size s (pos + (Utf8.decode s pos).2) := ⟨_, rfl⟩
      rw [← hW1] at hnx hit2 hbw2 hown2
      have HI2 := Lib.hid hit2
      have HB2 := Lib.hid hbw2
      have HO2 := Lib.hid hown2
      have HZ1 := Lib.hid (lt_of_block hit2)
      obtain ⟨r, hr⟩ : ∃ r, r = (Utf8.decode s pos).1 := ⟨_, rfl⟩
      rw [← hr] at hnx
      have hle : r ≤ 2147483647 := hr ▸ decode_le s pos
      have HR := Lib.hid hr
      clear hW1 hit2 hbw2 hown2 hr
      by_cases hrc : r = c
      · have h12 := rune_hit hc hp (HR.out.symm.trans hrc)
        have hq : ((r : Int) == (c : Int)) = true := by simp [hrc]
        have H12 := Lib.hid h12
        clear hrc h12
        have hsz : (s.extract a pos).size ≤ 281474976710656 := by
          rw [ByteArray.size_extract]; omega
        have HSZ := Lib.hid hsz
        clear hsz
        go_wp2_with fail
        refine (clone_any (s.extract a pos) W1 HSZ.out).mono ?_
        rintro e w2 ⟨rfl, hb2⟩
        have HO3 := Lib.hid (ownb HO2.out hb2)
        have HB3 := Lib.hid (HB2.out.trans (hb2.mono HB2.out.size))
        have HZ3 := Lib.hid (Nat.lt_of_lt_of_le HZ1.out hb2.size)
        have HI3 := Lib.hid ((hb2.block _ HZ1.out).trans HI2.out)
        clear hb2
        go_wp2_with (at_builtin; go_must (refine wpList_append_own _ rfl _ _ 60 rfl (w.heap.size + 1) 9 i0 (.string ⟨#[]⟩) 1 16 Tryz.underlying60 J0.out J1.out J2.out J3.out rfl (by decide) _ _ _ rfl (HO3.out.alloc _) ⟨w2.heap.size, 0, none⟩ 1 1 [.string (s.extract a pos)] rfl rfl (cell_one_new _ _ _) ?c2 ?c3 ?c4 ?c5 ?_))
        case c2 => intro u hu; simp at hu; subst hu; rfl
        case c3 => unfold maxLen; omega
        case c4 => omega
        case c5 => have := HZ3.out; simp; omega
        intro v' w4 hown4 hgrow4 _
        have HO4 := Lib.hid hown4
        have HB4 := Lib.hid ((HB3.out.alloc HB3.out.size _).grown hgrow4 (by have := HZ3.out; simp; omega) (fun g hg => by have := (HO3.out.lt g hg).1; omega))
        have HI4 : Hid (w4.heap[w.heap.size]? = some (.stringIter s (pos + (Utf8.decode s pos).2))) := by
          show _ = _
          rw [hgrow4.block w.heap.size (by have := HZ3.out; simp; omega) (fun e => by have := (HO3.out.lt _ e.symm).1; omega), Below.heap_alloc _ _ _ HZ3.out]
          exact HI3.out
        clear hown4 hgrow4
        go_wp2
        go_roundw
        case rel =>
          have e2 := H12.out.2
          refine ⟨pos + 1, pos + 1, ps ++ [s.extract a pos], by omega, by omega, by rw [List.length_append, List.length_singleton]; omega, by go_num, ?_, e2 ▸ HI4.out, ?_, HB4.out⟩
          · show _ = _
            rw [pst_hit hp H12.out.1, HP.out]
          · have h := HO4.out
            rw [strs_app] at h
            show World.ownsRow _ _ _ _ _ _ _
            rw [List.length_append, List.length_singleton]
            exact h
        case measure =>
          have e2 := H12.out.2
          have := iterPos_of HI4.out
          omega
      · have h3 := pst_rune (c := c) hc hp (fun e => hrc (HR.out.trans e))
        have hq : ((r : Int) == (c : Int)) = false := by simp; omega
        have H3 := Lib.hid h3
        clear h3 hrc
        go_wp2
        go_roundw
        case rel => exact ⟨pos + (Utf8.decode s pos).2, a, ps, H3.out.1, by have := H3.out.2.1; omega, by have := H3.out.2.1; omega, rfl, H3.out.2.2.trans HP.out, HI2.out, HO2.out, HB2.out⟩
        case measure =>
          have := iterPos_of HI2.out
          have := H3.out
          omega
    · have hnx : ∀ ty, (Instr.next (.pointer (some ⟨w.heap.size, 0, none⟩)) true ty).run Tryz.prog wr = _ := fun ty => Lib.run_next_end_at wr w.heap.size s pos ty HIT.out hp
      obtain rfl : pos = s.size := by omega
      have hsz : (s.extract a s.size).size ≤ 281474976710656 := by
        rw [ByteArray.size_extract]; omega
      have HSZ := Lib.hid hsz
      clear hsz
      go_wp2_with fail
      refine (clone_any (s.extract a s.size) wr HSZ.out).mono ?_
      rintro e w2 ⟨rfl, hb2⟩
      have HO3 := Lib.hid (ownb HO.out hb2)
      have HB3 := Lib.hid (HB.out.trans (hb2.mono HB.out.size))
      have HZ3 := Lib.hid (Nat.lt_of_lt_of_le HZ.out hb2.size)
      clear hb2
      go_wp2_with (at_builtin; go_must (refine wpList_append_own _ rfl _ _ 60 rfl (w.heap.size + 1) 9 i0 (.string ⟨#[]⟩) 1 16 Tryz.underlying60 J0.out J1.out J2.out J3.out rfl (by decide) _ _ _ rfl (HO3.out.alloc _) ⟨w2.heap.size, 0, none⟩ 1 1 [.string (s.extract a s.size)] rfl rfl (cell_one_new _ _ _) ?d2 ?d3 ?d4 ?d5 ?_))
      case d2 => intro u hu; simp at hu; subst hu; rfl
      case d3 => unfold maxLen; omega
      case d4 => omega
      case d5 => have := HZ3.out; simp; omega
      intro v' w4 hown4 hgrow4 _
      have HO4 := Lib.hid hown4
      have HB4 := Lib.hid ((HB3.out.alloc HB3.out.size _).grown hgrow4 (by have := HZ3.out; simp; omega) (fun g hg => by have := (HO3.out.lt g hg).1; omega))
      clear hown4 hgrow4
      go_wp2
      go_ret
      have e : parts s c = ps ++ [s.extract a s.size] := by unfold parts; rw [HP.out]
      refine ⟨_, rfl, ?_, HB4.out⟩
      have h := HO4.out
      rw [strs_app] at h
      rw [e, List.length_append, List.length_singleton]
      exact h.mono (by omega)
end Go.Proofs.YtceidekfcnmeaaaGreatDoor
