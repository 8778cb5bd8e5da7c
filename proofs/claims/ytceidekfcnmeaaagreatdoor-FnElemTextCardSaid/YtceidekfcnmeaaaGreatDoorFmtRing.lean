
/- spec.FormatRing and impl.FormatRing: the text of a valid ring; the empty text for any other. -/
import Derived.Test.YtceidekfcnmeaaaGreatDoorRingText
import Derived.Test.YtceidekfcnmeaaaGreatDoorKindNamed
import Derived.Test.YtceidekfcnmeaaaGreatDoorElem
import Derived.Deep.DeepCutAuto
import Derived.Deep.CutRange
namespace Go.Proofs.YtceidekfcnmeaaaGreatDoor
set_option maxRecDepth 20000
open Go.RowKit

theorem fmtRing_no {k p n : Int} (h : ringB k p n = false) : fmtRing k p n = [] := by simp [fmtRing, h]
theorem fmtRing_yes {k p n : Int} (h : ringB k p n = true) : fmtRing k p n = ringT k p n := by simp [fmtRing, h]
theorem add3 (a b c : List UInt8) : (⟨a.toArray⟩ : ByteArray) ++ ⟨b.toArray⟩ ++ ⟨c.toArray⟩ = ⟨(a ++ b ++ c).toArray⟩ := bytes_ext (by simp)
theorem add3r (a b c : List UInt8) : (⟨a.toArray⟩ : ByteArray) ++ (⟨b.toArray⟩ ++ ⟨c.toArray⟩) = ⟨(a ++ (b ++ c)).toArray⟩ := bytes_ext (by simp)

theorem Inv.names {w0 w : World} {b : Nat} {k p n : Int} {nm : List UInt8} (h : Hid (Inv w0 w b k p n)) (h1 : 1 ≤ k) (h2 : k ≤ 8) (hnm : nm = kname k) :
    Calls Tryz.prog 24 #[] w fun e w' => ∃ m, e = .returned (.map (some m)) ∧ (Instr.lookup 54 (.map (some m)) (.int .i64 k) false).run Tryz.prog w' = .ok (.string ⟨nm.toArray⟩) w' ∧ Hid (Inv w0 w' b k p n) ∧ w'.cell? ⟨b, 0, none⟩ = some (.int .i64 k) ∧ w'.cell? ⟨b, 1, none⟩ = some (.int .i64 p) ∧ w'.cell? ⟨b, 2, none⟩ = some (.int .i64 n) :=
  (names_made w).mono fun e w' ⟨m, he, hm⟩ => ⟨m, he, hm.look (i64_ok (by omega) (by omega)) (fun z => by rw [hnm]; exact names_at h1 h2 z), h.out.step hm.1, (h.out.step hm.1).cells⟩

set_option maxHeartbeats 400000 in
theorem fmt_ring_impl_no (k p n : Int) (w : World) (h : ringB k p n = false) :
    Calls Tryz.prog 8 #[ringV k p n] w fun e w' => e = .returned (.string ⟨#[]⟩) ∧ Below w.heap.size w w' := by
  have HR := Lib.hid h
  clear h
  go_enter Tryz.func8, Tryz.ntmps8
  go_wp2_with fail
  refine (Inv.call (Lib.hid (Inv.box w k p n _)) (ring_ok_impl k p n _)).mono ?_
  rw [HR.out]
  rintro e w1 ⟨rfl, HV1, c0, c1, c2⟩
  go_wp2
  go_ret
  exact ⟨rfl, HV1.out.1⟩

def numL (n : Int) : List UInt8 := if n = 0 then [] else 32 :: Lib.itoa n
theorem numL_app {nm : List UInt8} {n : Int} (h : n ≠ 0) : (⟨nm.toArray⟩ : ByteArray) ++ (⟨#[32]⟩ ++ ⟨(Lib.itoa n).toArray⟩) = ⟨(nm ++ numL n).toArray⟩ := bytes_ext (by simp [numL, h])
theorem numL_none {nm : List UInt8} {n : Int} (h : n = 0) : nm = nm ++ numL n := by simp [numL, h]
theorem numL_len {n : Int} (h : inI n) : (numL n).length ≤ 21 := by
  have := itoa_len20 h
  unfold numL
  split <;> simp <;> omega

theorem pair_of {w0 wx : World} {b : Nat} {k p n : Int} (h : Inv w0 wx b k p n) : ∃ g, Hid (g = wx.heap.size) ∧ Hid ((wx.alloc (.cells #[.int .i64 p, .int .i64 n] 3)).cell? ⟨g, 0, none⟩ = some (.int .i64 p) ∧ (wx.alloc (.cells #[.int .i64 p, .int .i64 n] 3)).cell? ⟨g, 1, none⟩ = some (.int .i64 n)) ∧
    Hid (g < (wx.alloc (.cells #[.int .i64 p, .int .i64 n] 3)).heap.size) ∧ Hid (Below w0.heap.size w0 (wx.alloc (.cells #[.int .i64 p, .int .i64 n] 3))) :=
  ⟨wx.heap.size, rfl, by constructor <;> simp [World.cell?_alloc_at], by show _ < _; simp, h.1.alloc h.1.size _⟩

set_option maxHeartbeats 1600000 in
theorem fmt_ring_impl_yes (k p n : Int) (w : World) (h : ringB k p n = true) (htab : Lib.TabIs Tryz.prog w "internal/strconv.uint64pow10" .u64 Lib.pow10Tab) :
    Calls Tryz.prog 8 #[ringV k p n] w fun e w' => e = .returned (.string ⟨(ringT k p n).toArray⟩) ∧ Below w.heap.size w w' := by
  have hg := tab_size htab
  have HT := Lib.hid htab
  have HR := Lib.hid h
  have HI := Lib.hid (ring_inI h)
  have HK := Lib.hid (ring_kind h)
  obtain ⟨nm, hnm⟩ : ∃ l, l = kname k := ⟨_, rfl⟩
  have hl := (kname_plain (ring_kind h).1 (ring_kind h).2).2.2
  rw [← hnm] at hl
  have l1 := itoa_len20 (ring_inI h).1
  have l2 := itoa_len20 (ring_inI h).2
  have HE := Lib.hid (show ringT k p n = (nm ++ numL p) ++ numL n by rw [ringT_step, hnm]; rfl)
  have HNM := Lib.hid hnm
  have HG := Lib.hid hg
  clear h hnm htab hg
  go_enter Tryz.func8, Tryz.ntmps8
  go_wp2_with fail
  refine (Inv.call (Lib.hid (Inv.box w k p n _)) (ring_ok_impl k p n _)).mono ?_
  rw [HR.out]
  rintro e w1 ⟨rfl, HV1, c0, c1, c2⟩
  have HV1' := Lib.hid HV1.out.drew
  clear HV1
  go_upto_region 3 with fail
  go_cut [3] (fun s3 wx => s3 = .string ⟨nm.toArray⟩ ∧ Hid (Inv w wx w.heap.size k p n))
  case first =>
    go_region_with (go_at_call 24; refine (Inv.names (by assumption) HK.out.1 HK.out.2 HNM.out).mono ?_; rintro e w2 ⟨m, rfl, hlook, HV2, c0, c1, c2⟩)
    all_goals (go_wp2_with fail; go_meet; exact ⟨rfl, by assumption⟩)
  case rest =>
    obtain ⟨rfl, HV2⟩ := hcut
    clear c0 c1 c2 HV1'
    obtain ⟨c0, c1, c2⟩ := HV2.out.cells
    obtain ⟨g, HGS, HC, HGL, HB⟩ := pair_of HV2.out
    go_wp2
    rw [← HGS.out]
    go_loopw [3, 19] (fun t i wr => ∃ (j : Nat) (acc : List UInt8), j ≤ 2 ∧ i = .int .i64 j ∧ t = .string ⟨acc.toArray⟩ ∧ acc.length ≤ 5 + 21 * j ∧ Hid ((j = 0 → acc = nm) ∧ (j = 1 → acc = nm ++ numL p) ∧ (j = 2 → acc = (nm ++ numL p) ++ numL n)) ∧ Hid (wr.cell? ⟨g, 0, none⟩ = some (.int .i64 p) ∧ wr.cell? ⟨g, 1, none⟩ = some (.int .i64 n)) ∧ Hid (g < wr.heap.size) ∧ Hid (Below w.heap.size w wr)) (fun _ i _ => 2 - (intOf i).toNat)
    case atStart => exact ⟨0, nm, by omega, rfl, rfl, by omega, ⟨fun _ => rfl, fun h => by omega, fun h => by omega⟩, HC, HGL, HB⟩
    case round =>
      obtain ⟨j, acc, hj, rfl, rfl, hal, HACC, HCC, HGG, HBB⟩ := hrel
      have hj3 : j = 0 ∨ j = 1 ∨ j = 2 := by omega
      rcases hj3 with rfl | rfl | rfl
      · have d0 := HCC.out.1
        obtain rfl : acc = nm := HACC.out.1 rfl
        by_cases hp : p = 0
        · have q1 : (p != 0) = false := by simp [hp]
          have HP := Lib.hid hp
          clear hp
          go_wp2
          go_roundw
          case rel => exact ⟨1, acc, by omega, rfl, rfl, by omega, ⟨fun h => by omega, fun _ => numL_none HP.out, fun h => by omega⟩, HCC, HGG, HBB⟩
          case measure => simp [intOf]
        · have q1 : (p != 0) = true := by simp [hp]
          have HP := Lib.hid hp
          have HTW := Lib.hid (tab_below HBB.out HG.out HT.out)
          clear hp
          go_wp2_with fail
          refine (impl_fmt p wr HI.out.1.1 HI.out.1.2 HTW.out).mono ?_
          rintro e w3 ⟨rfl, hb3⟩
          have HB3 := Lib.hid (HBB.out.trans (hb3.mono HBB.out.size))
          have HC3 : Hid (w3.cell? ⟨g, 0, none⟩ = some (.int .i64 p) ∧ w3.cell? ⟨g, 1, none⟩ = some (.int .i64 n)) := ⟨(hb3.cell (p := ⟨g, 0, none⟩) HGG.out).trans HCC.out.1, (hb3.cell (p := ⟨g, 1, none⟩) HGG.out).trans HCC.out.2⟩
          have HG3 := Lib.hid (Nat.lt_of_lt_of_le HGG.out hb3.size)
          clear hb3
          go_wp2
          go_roundw
          case rel => exact ⟨1, acc ++ numL p, by omega, rfl, by rw [numL_app HP.out], by have := numL_len HI.out.1; rw [List.length_append]; omega, ⟨fun h => by omega, fun _ => rfl, fun h => by omega⟩, HC3, HG3, HB3⟩
          case measure => simp [intOf]
      · have d0 := HCC.out.2
        obtain rfl : acc = nm ++ numL p := HACC.out.2.1 rfl
        by_cases hn : n = 0
        · have q1 : (n != 0) = false := by simp [hn]
          have HP := Lib.hid hn
          clear hn
          go_wp2
          go_roundw
          case rel => exact ⟨2, _, by omega, rfl, rfl, by omega, ⟨fun h => by omega, fun h => by omega, fun _ => numL_none HP.out⟩, HCC, HGG, HBB⟩
          case measure => simp [intOf]
        · have q1 : (n != 0) = true := by simp [hn]
          have HP := Lib.hid hn
          have HTW := Lib.hid (tab_below HBB.out HG.out HT.out)
          obtain ⟨acc, hacc⟩ : ∃ l, l = nm ++ numL p := ⟨_, rfl⟩
          rw [← hacc] at hal HACC ⊢
          have HAC := Lib.hid hacc
          clear hn hacc
          go_wp2_with fail
          refine (impl_fmt n wr HI.out.2.1 HI.out.2.2 HTW.out).mono ?_
          rintro e w3 ⟨rfl, hb3⟩
          have HB3 := Lib.hid (HBB.out.trans (hb3.mono HBB.out.size))
          have HC3 : Hid (w3.cell? ⟨g, 0, none⟩ = some (.int .i64 p) ∧ w3.cell? ⟨g, 1, none⟩ = some (.int .i64 n)) := ⟨(hb3.cell (p := ⟨g, 0, none⟩) HGG.out).trans HCC.out.1, (hb3.cell (p := ⟨g, 1, none⟩) HGG.out).trans HCC.out.2⟩
          have HG3 := Lib.hid (Nat.lt_of_lt_of_le HGG.out hb3.size)
          clear hb3
          go_wp2
          go_roundw
          case rel => exact ⟨2, acc ++ numL n, by omega, rfl, by rw [numL_app HP.out], by have := numL_len HI.out.2; rw [List.length_append]; omega, ⟨fun h => by omega, fun h => by omega, fun _ => by rw [HAC.out]⟩, HC3, HG3, HB3⟩
          case measure => simp [intOf]
      · have HF := Lib.hid (HACC.out.2.2 rfl)
        go_wp2
        go_ret
        exact ⟨by rw [HE.out, ← HF.out]; rfl, HBB.out⟩
theorem fmt_ring_impl (k p n : Int) (w : World) (htab : Lib.TabIs Tryz.prog w "internal/strconv.uint64pow10" .u64 Lib.pow10Tab) :
    Calls Tryz.prog 8 #[ringV k p n] w fun e w' => e = .returned (.string ⟨(fmtRing k p n).toArray⟩) ∧ Below w.heap.size w w' := by
  cases h : ringB k p n with
  | false => rw [fmtRing_no h]; exact fmt_ring_impl_no k p n w h
  | true => rw [fmtRing_yes h]; exact fmt_ring_impl_yes k p n w h htab
end Go.Proofs.YtceidekfcnmeaaaGreatDoor
