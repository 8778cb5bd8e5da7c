
/- impl.ParseRing: the valid ring of a text, or none. -/
import Derived.Test.YtceidekfcnmeaaaGreatDoorRingWith
import Derived.Test.YtceidekfcnmeaaaGreatDoorCutStr
import Derived.Test.YtceidekfcnmeaaaGreatDoorFmtRing
namespace Go.Proofs.YtceidekfcnmeaaaGreatDoor
set_option maxRecDepth 20000
open Go.RowKit

theorem cut_inv {s a b : ByteArray} {k p n : Int} (hc : CutAt s a b) (h : ringB k p n = true) (hs : s.data.toList = ringT k p n) : a.data.toList = kname k ∧ PI b (nums p n) true := by
  obtain ⟨h1, h2⟩ := cut_ring h hs hc
  refine ⟨h1, ?_⟩
  have e : b = ⟨(joinL [32] (texts (nums p n))).toArray⟩ := bytes_ext h2
  rw [e]
  exact pi_join (nums_inI (ring_inI h).1 (ring_inI h).2)
theorem ring_fail {s a b : ByteArray} {zs : List Int} (hc : CutAt s a b) (hp : PI b zs false) : RingAt s 0 0 0 false := by
  refine .inr ⟨rfl, rfl, rfl, rfl, fun k p n h hs => ?_⟩
  have := (hp.unique (cut_inv hc h hs).2).2
  cases this
theorem ring_found {s a b : ByteArray} {zs : List Int} {x : Int} (hc : CutAt s a b) (hp : PI b zs true) (hx : KindOf a.data.toList x) {k p n : Int} (h : ringB k p n = true) (hs : s.data.toList = ringT k p n) : ringW x zs = (k, p, n) := by
  obtain ⟨h1, h2⟩ := cut_inv hc h hs
  obtain ⟨rfl, -⟩ := hp.unique h2
  rw [h1] at hx
  rw [hx.name (ring_kind h).1 (ring_kind h).2]
  exact ringW_nums h
theorem ring_bad {s a b : ByteArray} {zs : List Int} {x k p n : Int} (hc : CutAt s a b) (hp : PI b zs true) (hx : KindOf a.data.toList x) (hr : ringW x zs = (k, p, n)) (hb : ringB k p n = false) : RingAt s 0 0 0 false := by
  refine .inr ⟨rfl, rfl, rfl, rfl, fun k' p' n' h hs => ?_⟩
  have e := ring_found hc hp hx h hs
  rw [hr] at e
  cases e
  rw [h] at hb
  cases hb
theorem ring_other {s a b : ByteArray} {zs : List Int} {x k p n : Int} (hc : CutAt s a b) (hp : PI b zs true) (hx : KindOf a.data.toList x) (hr : ringW x zs = (k, p, n)) (ht : (⟨(ringT k p n).toArray⟩ : ByteArray) ≠ s) : RingAt s 0 0 0 false := by
  refine .inr ⟨rfl, rfl, rfl, rfl, fun k' p' n' h hs => ?_⟩
  have e := ring_found hc hp hx h hs
  rw [hr] at e
  cases e
  exact ht (bytes_ext hs.symm)

theorem list_ne {l : List UInt8} {s : ByteArray} (h : (⟨l.toArray⟩ : ByteArray) ≠ s) : (l == s.toList) = false := by
  rw [ByteArray.toList_eq, beq_eq_false_iff_ne]
  exact fun e => h (bytes_ext e)
/-- How a parser of rings ends. -/
def RingTPost (s : ByteArray) (w : World) (e : Ending) (w' : World) : Prop := ∃ k p n b, e = .returned (.tuple #[ringV k p n, .bool b]) ∧ RingAt s k p n b ∧ Below w.heap.size w w'

/-- A world behind w0, in which block b, new since w0, holds a ring that may be written. -/
def Mine (w0 w : World) (b : Nat) (k p n : Int) : Prop := Inv w0 w b k p n ∧ (∀ j, w.frozen? ⟨b, j, none⟩ = false) ∧ w0.heap.size ≤ b
theorem Mine.box (w : World) (k p n : Int) (T : TypeId) : Mine w (w.alloc (.cells (ringC k p n) T)) w.heap.size k p n := ⟨Inv.box w k p n T, fun j => by simp, Nat.le_refl _⟩
theorem Mine.step {w0 w w' : World} {b : Nat} {k p n : Int} (h : Mine w0 w b k p n) (hb : Below w.heap.size w w') : Mine w0 w' b k p n := ⟨h.1.step hb, fun j => (hb.frozen (p := ⟨b, j, none⟩) h.1.2.2).trans (h.2.1 j), h.2.2⟩
theorem Mine.drewN {w0 w : World} {b : Nat} {k p n : Int} (h : Mine w0 w b k p n) (q : Nat) : Mine w0 (w.drewN q) b k p n := ⟨h.1.drewN q, h.2.1, h.2.2⟩
theorem Mine.cells {w0 w : World} {b : Nat} {k p n : Int} (h : Mine w0 w b k p n) : w.cell? ⟨b, 0, none⟩ = some (.int .i64 k) ∧ w.cell? ⟨b, 1, none⟩ = some (.int .i64 p) ∧ w.cell? ⟨b, 2, none⟩ = some (.int .i64 n) ∧ w.frozen? ⟨b, 0, none⟩ = false ∧ w.frozen? ⟨b, 1, none⟩ = false ∧ w.frozen? ⟨b, 2, none⟩ = false :=
  ⟨h.1.2.1.1, h.1.2.1.2.1, h.1.2.1.2.2, h.2.1 0, h.2.1 1, h.2.1 2⟩

set_option maxHeartbeats 1600000 in
theorem parse_ring_impl (s : ByteArray) (w : World) (hs : s.size ≤ 1048576) (hv : LibVars w) :
    Calls Tryz.prog 7 #[.string s] w (RingTPost s w) := by
  have HV := Lib.hid hv
  have HS := Lib.hid hs
  clear hv hs
  go_enter Tryz.func7, Tryz.ntmps7
  go_wp2_with fail
  refine (cut_any s _ HS.out).mono ?_
  rintro e w1 ⟨a, b, c, rfl, hc, hsa, hsb, q, hw1⟩
  have HC := Lib.hid hc
  have HSB := Lib.hid hsb
  have I1 : Hid (Mine w w1 w.heap.size 0 0 0) := Lib.hid (by rw [hw1]; exact (Mine.box w 0 0 0 24).drewN q)
  clear hc hsa hsb hw1
  go_wp2_with fail
  refine (impl_parses b w1 HSB.out (HV.out.below I1.out.1.1)).mono ?_
  rintro e w2 ⟨v, zs, ok, rfl, hp, hown, hb2⟩
  have I2 := Lib.hid (I1.out.step hb2)
  have HR2 := Lib.hid (Rd.of_own hown)
  have HP := Lib.hid hp
  clear hb2 hown hp I1
  cases ok with
  | false =>
    have HF := Lib.hid (ring_fail HC.out HP.out)
    obtain ⟨c0, c1, c2, f0, f1, f2⟩ := I2.out.cells
    go_wp2
    refine bodyPost_ret (v := .tuple #[ringV 0 0 0, .bool false]) (by simp [results, Tryz.results7, go_sem, c0, c1, c2]) rfl ⟨0, 0, 0, false, rfl, HF.out, ?_⟩
    exact ((I2.out.1.1.setCell (Nat.le_refl _) _).setCell (Nat.le_refl _) _).setCell (Nat.le_refl _) _
  | true =>
    go_wp2_with fail
    refine (kind_named a w2).mono ?_
    rintro e w3 ⟨x, rfl, hx, hb3⟩
    have HX := Lib.hid hx
    have I3 := Lib.hid (I2.out.step hb3)
    have HR3 := Lib.hid (HR2.out.below hb3 (Nat.le_refl _))
    have Z3 := Lib.hid hb3.size
    clear hx hb3 I2
    obtain ⟨k, p, n, hr⟩ : ∃ k p n, ringW x zs = (k, p, n) := ⟨_, _, _, rfl⟩
    have hwith := ring_with x HR3.out Z3.out
    rw [hr] at hwith
    have HW := Lib.hid hwith
    have HRW := Lib.hid hr
    clear hr hwith
    go_wp2_with fail
    refine HW.out.mono ?_
    rintro e w4 ⟨rfl, hb4⟩
    have I4 := Lib.hid (I3.out.step hb4)
    have M4 : Hid (Mine w4 (w4.alloc (.cells (ringC k p n) 24)) w4.heap.size k p n) := Lib.hid (Mine.box w4 k p n _)
    clear hb4 I3
    have hrk := ring_ok_impl k p n (w4.alloc (.cells (ringC k p n) 24))
    cases hb : ringB k p n with
    | false =>
      rw [hb] at hrk
      have HK := Lib.hid hrk
      have HF := Lib.hid (ring_bad HC.out HP.out HX.out HRW.out hb)
      clear hrk hb
      go_wp2_with fail
      refine HK.out.mono ?_
      rintro e w5 ⟨rfl, hb5⟩
      have I5 := Lib.hid ((I4.out.step ((Below.refl _ _).alloc (Nat.le_refl _) (.cells (ringC k p n) 24))).step hb5)
      clear hb5
      obtain ⟨c0, c1, c2, f0, f1, f2⟩ := I5.out.cells
      go_wp2
      refine bodyPost_ret (v := .tuple #[ringV 0 0 0, .bool false]) (by simp [results, Tryz.results7, go_sem, c0, c1, c2]) rfl ⟨0, 0, 0, false, rfl, HF.out, ?_⟩
      exact ((I5.out.1.1.setCell (Nat.le_refl _) _).setCell (Nat.le_refl _) _).setCell (Nat.le_refl _) _
    | true =>
      rw [hb] at hrk
      have HK := Lib.hid hrk
      have HBT := Lib.hid hb
      clear hrk hb
      go_wp2_with fail
      refine HK.out.mono ?_
      rintro e w5 ⟨rfl, hb5⟩
      have I5 := Lib.hid ((I4.out.step ((Below.refl _ _).alloc (Nat.le_refl _) (.cells (ringC k p n) 24))).step hb5)
      have M5 := Lib.hid (M4.out.step hb5)
      clear hb5 M4 I4
      obtain ⟨d0, d1, d2, -⟩ := M5.out.cells
      go_wp2_with fail
      refine (fmt_ring_impl k p n w5 (HV.out.below I5.out.1.1).tab).mono ?_
      rw [fmtRing_yes HBT.out]
      rintro e w6 ⟨rfl, hb6⟩
      have I6 := Lib.hid (I5.out.step hb6)
      have M6 := Lib.hid (M5.out.step hb6)
      clear hb6 M5 I5 d0 d1 d2
      obtain ⟨d0, d1, d2, -⟩ := M6.out.cells
      obtain ⟨c0, c1, c2, f0, f1, f2⟩ := I6.out.cells
      by_cases ht : (⟨(ringT k p n).toArray⟩ : ByteArray) = s
      · have HF : Hid (RingAt s k p n true) := .inl ⟨rfl, HBT.out, by rw [← ht]⟩
        subst ht
        go_wp2
        refine bodyPost_ret (v := .tuple #[ringV k p n, .bool true]) (by simp [results, Tryz.results7, go_sem, c0, c1, c2]) rfl ⟨k, p, n, true, rfl, HF.out, ?_⟩
        exact ((I6.out.1.1.setCell (Nat.le_refl _) _).setCell (Nat.le_refl _) _).setCell (Nat.le_refl _) _
      · have HF := Lib.hid (ring_other HC.out HP.out HX.out HRW.out ht)
        have hq : (ringT k p n == s.toList) = false := list_ne ht
        clear ht
        go_wp2
        refine bodyPost_ret (v := .tuple #[ringV 0 0 0, .bool false]) (by simp [results, Tryz.results7, go_sem, c0, c1, c2]) rfl ⟨0, 0, 0, false, rfl, HF.out, ?_⟩
        exact ((I6.out.1.1.setCell (Nat.le_refl _) _).setCell (Nat.le_refl _) _).setCell (Nat.le_refl _) _
end Go.Proofs.YtceidekfcnmeaaaGreatDoor
