
/- impl.kindNamed: the kind of a name, by a range over the map of names, in whatever order; spec.l04Kind. -/
import Derived.Test.YtceidekfcnmeaaaGreatDoorKinds
namespace Go.Proofs.YtceidekfcnmeaaaGreatDoor
set_option maxRecDepth 20000
open Go.RowKit Go.Maps

theorem names_only {x : Int} {c : List UInt8} (h : ∀ z, namesD.atKey (lk x) z = ls c) : 1 ≤ x ∧ x ≤ 8 ∧ kname x = c := by
  by_cases hx : 1 ≤ x ∧ x ≤ 8
  · have h1 := h (ls [])
    rw [names_at hx.1 hx.2] at h1
    simp only [DataW.lit.injEq, Lit.string.injEq] at h1
    exact ⟨hx.1, hx.2, h1⟩
  · exfalso
    have hn : Maps.has namesD (lk x) = false := by
      cases hb : Maps.has namesD (lk x) with
      | false => rfl
      | true =>
        obtain ⟨j, h1, h2, e⟩ := names_key hb
        simp only [lk, Lit.int.injEq, true_and] at e
        subst e
        exact absurd ⟨h1, h2⟩ hx
    have h1 := h (ls [])
    have h2 := h (ls [0])
    rw [Maps.atKey_of_not_has hn] at h1 h2
    rw [← h2] at h1
    simp [ls] at h1
theorem bytes_ext {a b : ByteArray} (h : a.data.toList = b.data.toList) : a = b := ByteArray.ext (Array.ext' h)

theorem str_ne {a b : ByteArray} (h : a ≠ b) : (a.toList == b.toList) = false := by
  rw [ByteArray.toList_eq, ByteArray.toList_eq]
  simpa using fun e => h (bytes_ext (by simpa using e))
set_option maxHeartbeats 800000 in
theorem kind_named (s : ByteArray) (w : World) : Calls Tryz.prog 22 #[.string s] w fun e w' => ∃ x, e = .returned (.int .i64 x) ∧ KindOf s.data.toList x ∧ Below w.heap.size w w' := by
  go_enter Tryz.func22, Tryz.ntmps22
  go_wp2_with fail
  refine (names_made w).mono ?_
  rintro e w1 ⟨b, rfl, hm⟩
  obtain ⟨hb, hown, hbb⟩ := hm
  have HB := Lib.hid hb
  have HBB := Lib.hid hbb
  obtain ⟨r, hr⟩ : ∃ r, r = w1.heap.size := ⟨_, rfl⟩
  have hrange : ∃ W1, (Instr.range 54 (.map (some b))).run Tryz.prog w1 = .ok (.pointer (some ⟨r, 0, none⟩)) W1 ∧ Hid (W1.ranges Tryz.prog 3 (plainElem Tryz.prog 9) b r 8 namesD (Maps.has namesD) (Maps.size namesD)) ∧ Hid (Below w.heap.size w W1) := by
    obtain ⟨W1, h1, h2, h3, h4⟩ := hown.range keysI Tryz.underlying54
    rw [← hr] at h1 h2
    exact ⟨W1, h1, h2, hb.grown h3 hb.size (fun g hg => by cases hg)⟩
  obtain ⟨W1, hrun, HR1, HB1⟩ := hrange
  have HRS := Lib.hid (show w.heap.size ≤ r by rw [hr]; exact hb.size)
  clear hb hown hbb hr
  go_wp2
  try go_frame
  go_loopw [3] (fun _ wr => ∃ (left : Lit → Bool) (cnt : Nat), Hid (wr.ranges Tryz.prog 3 (plainElem Tryz.prog 9) b r 8 namesD left cnt) ∧ Hid (∀ j, 1 ≤ j → j ≤ 8 → left (lk j) = false → kname j ≠ s.data.toList) ∧ Hid (Below w.heap.size w wr)) (fun _ wr => wr.rangeLeft b r)
  case atStart => exact ⟨Maps.has namesD, _, HR1, (fun j h1 h2 h3 => by rw [names_has h1 h2] at h3; cases h3), HB1⟩
  case round =>
    obtain ⟨left, cnt, HR, HN, HW⟩ := hrel
    go_wp2_with (first
      | (at_next; refine wpList_next_ranges_is _ rfl _ rfl 3 9 .i64 keysI Tryz.underlying3 Tryz.underlying9 b r 8 _ _ _ rfl HR.out ?_ ?_)
      | go_in)
    · intro hc0 hl0
      go_wp2
      go_ret
      exact ⟨0, rfl, .inr ⟨rfl, fun j h1 h2 => HN.out j h1 h2 (hl0 _)⟩, HW.out⟩
    · intro x c w2 cnt1 hwx hwc hlx hat hrg1 hlt hg1 hs1 hen
      obtain ⟨hx1, hx2, hxc⟩ := names_only hat
      have HX := Lib.hid hxc
      have HR2 := Lib.hid hrg1
      have HLT := Lib.hid hlt
      have HW2 := Lib.hid (HW.out.grown hg1 HW.out.size (fun g hg => by cases hg; exact HRS.out))
      clear hwx hwc hlx hat hrg1 hlt hg1 hs1 hxc
      by_cases hc : c = s
      · subst hc
        have HE : Hid (KindOf c.data.toList x) := .inl ⟨hx1, hx2, HX.out⟩
        have hq : (c.toList == c.toList) = true := by simp
        go_wp2
        go_ret
        exact ⟨x, rfl, HE.out, HW2.out⟩
      · have hq : (c.toList == s.toList) = false := str_ne hc
        have HNE := Lib.hid hc
        clear hc
        go_wp2
        go_roundw
        case rel =>
          refine ⟨_, cnt1, HR2, fun j h1 h2 h3 => ?_, HW2.out⟩
          simp only [Bool.and_eq_false_iff, Bool.not_eq_false'] at h3
          rcases h3 with h3 | h3
          · exact HN.out j h1 h2 h3
          · have e := WideAt.sameKey_eq h3
            simp only [lk, Lit.int.injEq, true_and] at e
            subst e
            rw [HX.out]
            exact fun e => HNE.out (bytes_ext e)
        case measure => rw [HR2.out.left_eq, HR.out.left_eq]; exact HLT.out

end Go.Proofs.YtceidekfcnmeaaaGreatDoor
