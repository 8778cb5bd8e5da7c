
/- The cursor of the drawn arguments: l01Byte, l01Below, l01Pick, l01Once. -/
import Derived.Test.YtgbmacppgaopfabGreatProg
import Derived.Lib.Hide
import Derived.Test.YtgbmacppgaopfabGreatLawKit
import Derived.Test.YtgbmacppgaopfabGreatRing
import Derived.WalkLawsBesides
import Derived.StillTailTactics
import Derived.Deep.QuietTactic
import Derived.BigQuiet
import Derived.IntWalk
import Derived.Test.YtgbmacppgaopfabGreatElem
import Derived.Deep.Onto
import Derived.Test.YtgbmacppgaopfabGreatZero
import Derived.Test.YtgbmacppgaopfabGreatPow2
import Derived.Test.YtgbmacppgaopfabGreatPlusSpec
import Derived.Deep.RegionHeld3
import Derived.Test.YtgbmacppgaopfabGreatRs
import Derived.Test.YtgbmacppgaopfabGreatPermSpec
namespace Go.Proofs.YtgbmacppgaopfabGreat
set_option maxRecDepth 20000
open Go.RowKit

def bytes8 (bs : List UInt8) : List Value := bs.map fun b => .int .u8 (b.toNat : Int)
theorem bytes8_len (bs : List UInt8) : (bytes8 bs).length = bs.length := by simp [bytes8]
/-- Block cb holds a cursor over the bytes bs, at place i. -/
structure CurAt (w : World) (cb B : Nat) (v : Value) (bs : List UInt8) (i : Nat) (h : Int) : Prop where
  c0 : w.cell? ⟨cb, 0, none⟩ = some v
  c1 : w.cell? ⟨cb, 1, none⟩ = some (.int .i64 i)
  c2 : w.cell? ⟨cb, 2, none⟩ = some (.int .i64 h)
  hi : i ≤ bs.length
  h1 : -9223372036854775808 ≤ h
  h2 : h ≤ 9223372036854775807
  f1 : w.frozen? ⟨cb, 1, none⟩ = false
  f2 : w.frozen? ⟨cb, 2, none⟩ = false
  hB : B ≤ cb
  hs : cb < w.heap.size
  rd : Rd B w v (bytes8 bs)
  len : bs.length ≤ 1048576
theorem CurAt.set1 {w : World} {cb B : Nat} {v : Value} {bs : List UInt8} {i i' : Nat} {h : Int} (c : CurAt w cb B v bs i h) (hi : i' ≤ bs.length) : CurAt (w.setCell ⟨cb, 1, none⟩ (.int .i64 i')) cb B v bs i' h :=
  ⟨(World.cell?_setCell_other _ _ _ _ (by simp)).trans c.c0, World.cell?_setCell_same _ _ _ c.c1, (World.cell?_setCell_other _ _ _ _ (by simp)).trans c.c2, hi, c.h1, c.h2, by simpa using c.f1, by simpa using c.f2, c.hB, by simpa using c.hs,
    c.rd.below (B' := B) ((Below.refl _ _).setCell (p := ⟨cb, 1, none⟩) c.hB _) (Nat.le_refl _), c.len⟩
theorem CurAt.set2 {w : World} {cb B : Nat} {v : Value} {bs : List UInt8} {i : Nat} {h h' : Int} (c : CurAt w cb B v bs i h) (h1 : -9223372036854775808 ≤ h') (h2 : h' ≤ 9223372036854775807) : CurAt (w.setCell ⟨cb, 2, none⟩ (.int .i64 h')) cb B v bs i h' :=
  ⟨(World.cell?_setCell_other _ _ _ _ (by simp)).trans c.c0, (World.cell?_setCell_other _ _ _ _ (by simp)).trans c.c1, World.cell?_setCell_same _ _ _ c.c2, c.hi, h1, h2, by simpa using c.f1, by simpa using c.f2, c.hB, by simpa using c.hs,
    c.rd.below (B' := B) ((Below.refl _ _).setCell (p := ⟨cb, 2, none⟩) c.hB _) (Nat.le_refl _), c.len⟩
theorem cur_heap {w w1 : World} (hh : w1.heap = w.heap) (a : Addr) : w1.cell? a = w.cell? a := World.cell?_of_block (w := w) (by rw [hh])
theorem CurAt.heap {w w1 : World} {cb B : Nat} {v : Value} {bs : List UInt8} {i : Nat} {h : Int} (c : CurAt w cb B v bs i h) (hh : w1.heap = w.heap) : CurAt w1 cb B v bs i h :=
  ⟨(cur_heap hh _).trans c.c0, (cur_heap hh _).trans c.c1, (cur_heap hh _).trans c.c2, c.hi, c.h1, c.h2, (World.frozen?_of_block (w := w) (by rw [hh])).trans c.f1, (World.frozen?_of_block (w := w) (by rw [hh])).trans c.f2, c.hB, by rw [hh]; exact c.hs, by
    rcases c.rd with h | ⟨b, off, cap, hv, hlt, hcp, hc⟩
    · exact .inl h
    · exact .inr ⟨b, off, cap, hv, hlt, hcp, fun i u hi => (cur_heap hh _).trans (hc i u hi)⟩, c.len⟩
/-- Some cursor over the bytes bs in block cb. -/
def CurOk (w : World) (cb B : Nat) (v : Value) (bs : List UInt8) : Prop := ∃ i h, CurAt w cb B v bs i h
theorem KeptOut.set (w : World) (cb o : Nat) (u : Value) : KeptOut w (w.setCell ⟨cb, o, none⟩ u) cb (cb + 1) := by
  have hb := (Below.refl w.heap.size w)
  refine ⟨rfl, rfl, rfl, by simp, fun b _ hx => ?_⟩
  exact Below.heap_setCell w ⟨cb, o, none⟩ u b (fun e => by simp at e; omega)
theorem KeptOut.heap {w w1 : World} {q : Nat} (lo hi : Nat) (hw : w1 = w.drewN q) : KeptOut w w1 lo hi := by
  subst hw
  exact ⟨rfl, rfl, rfl, Nat.le_refl _, fun _ _ _ => rfl⟩
/-- What a reading of the cursor answers. -/
def CurPost (m : Nat) (cb B : Nat) (v : Value) (bs : List UInt8) (w : World) (e : Ending) (w' : World) : Prop := ∃ x : Nat, e = .returned (.int .i64 x) ∧ x ≤ m ∧ CurOk w' cb B v bs ∧ KeptOut w w' cb (cb + 1)
theorem bytes_cell {w : World} {B : Nat} {v : Value} {bs : List UInt8} (h : Rd B w v (bytes8 bs)) : ∃ a cap, v = .slice a bs.length cap ∧ ∀ i (_ : i < bs.length), ∃ b off, ∃ x : Nat, a = some ⟨b, off, none⟩ ∧ b < B ∧ x ≤ 255 ∧ w.cell? ⟨b, off + i, none⟩ = some (.int .u8 (x : Int)) := by
  rcases h with ⟨h0, a, cap, rfl⟩ | ⟨b, off, cap, rfl, hbB, _, hc⟩
  · have e : bs = [] := by simpa [bytes8] using h0
    subst e
    exact ⟨a, cap, rfl, fun i hi => by simp at hi⟩
  · refine ⟨_, cap, by rw [bytes8_len], fun i hi => ⟨b, off, bs[i].toNat, rfl, hbB, ?_, hc i _ (by simp [bytes8, hi])⟩⟩
    have := UInt8.toNat_lt bs[i]
    omega
theorem and_mask (z : Int) (m : Nat) (hm : m ≤ 30) : 0 ≤ bits .and .i64 z ((2 ^ m - 1 : Nat) : Int) ∧ bits .and .i64 z ((2 ^ m - 1 : Nat) : Int) < ((2 ^ m : Nat) : Int) := by
  have hp : 2 ^ m ≤ 2 ^ 30 := Nat.pow_le_pow_right (by omega) hm
  have h0 : 0 < 2 ^ m := Nat.two_pow_pos m
  have hb : (BitVec.ofInt 64 ((2 ^ m - 1 : Nat) : Int)).toNat = 2 ^ m - 1 := by rw [BitVec.ofInt_natCast, BitVec.toNat_ofNat]; exact Nat.mod_eq_of_lt (by omega)
  have e : bits .and .i64 z ((2 ^ m - 1 : Nat) : Int) = IntKind.i64.wrap (((BitVec.ofInt 64 z).toNat &&& (2 ^ m - 1) : Nat) : Int) := by
    show IntKind.i64.wrap ((BitVec.ofInt 64 z &&& BitVec.ofInt 64 ((2 ^ m - 1 : Nat) : Int)).toNat : Int) = _
    rw [BitVec.toNat_and, hb]
  rw [e, Nat.and_two_pow_sub_one_eq_mod]
  have h1 := Nat.mod_lt (BitVec.ofInt 64 z).toNat h0
  have h2 : ((((BitVec.ofInt 64 z).toNat % 2 ^ m : Nat)) : Int) < ((2 ^ m : Nat) : Int) := by omega
  generalize (BitVec.ofInt 64 z).toNat % 2 ^ m = q at h1 h2
  have h3 : IntKind.i64.wrap ((q : Nat) : Int) = (q : Int) := by
    simp [IntKind.wrap, IntKind.bits, IntKind.signed]; omega
  rw [h3]
  omega
theorem and_255 (z : Int) : 0 ≤ bits .and .i64 z 255 ∧ bits .and .i64 z 255 ≤ 255 := by
  have := and_mask z 8 (by omega)
  have e : ((2 ^ 8 - 1 : Nat) : Int) = 255 := rfl
  rw [e] at this
  have e2 : ((2 ^ 8 : Nat) : Int) = 256 := rfl
  omega

theorem wrap64_range (n : Int) : -9223372036854775808 ≤ wrap64 n ∧ wrap64 n ≤ 9223372036854775807 := by unfold wrap64; omega

set_option maxHeartbeats 1600000 in
set_option maxRecDepth 100000 in
theorem cur_byte {cb B : Nat} {v : Value} {bs : List UInt8} {w : World} (hc : CurOk w cb B v bs) :
    Calls Tryz.prog 79 #[.pointer (some ⟨cb, 0, none⟩)] w (CurPost 255 cb B v bs w) := by
  obtain ⟨i, h, hc⟩ := hc
  obtain ⟨a, cap, rfl, hbytes⟩ := bytes_cell hc.rd
  have HB := Lib.hid hbytes
  have HC := Lib.hid hc
  have c0 := hc.c0
  have c1 := hc.c1
  have c2 := hc.c2
  have f1 := hc.f1
  have f2 := hc.f2
  have hi := hc.hi
  have hl := hc.len
  clear hc hbytes
  obtain ⟨len, hlen⟩ : ∃ len, len = bs.length := ⟨_, rfl⟩
  rw [← hlen] at c0 hi hl HC ⊢
  have HL := Lib.hid hlen
  clear hlen
  go_enter Tryz.func79, Tryz.ntmps79
  go_wp2
  obtain ⟨h', hh⟩ : ∃ h', h' = wrap64 (wrap64 (h * 6364136223846793005) + 1442695040888963407) := ⟨_, rfl⟩
  rw [← hh]
  have hr : -9223372036854775808 ≤ h' ∧ h' ≤ 9223372036854775807 := by rw [hh]; exact wrap64_range _
  have HC1 := Lib.hid (HC.out.set2 hr.1 hr.2)
  have K1 := Lib.hid (KeptOut.set w cb 2 (.int .i64 h'))
  obtain ⟨w1, hw1⟩ : ∃ w1, w1 = w.setCell ⟨cb, 2, none⟩ (.int .i64 h') := ⟨_, rfl⟩
  have d0 := HC1.out.c0
  have d1 := HC1.out.c1
  have d2 := HC1.out.c2
  have g1 := HC1.out.f1
  rw [← hw1] at HC1 K1 d0 d1 d2 g1 ⊢
  have HW := Lib.hid hw1
  clear hh hw1 c0 c1 c2 f1 f2
  go_quiet (fail)
  obtain ⟨z, hz⟩ : ∃ z, z = bits .and .i64 (bits .xor .i64 (h' / 8589934592) (h' / 35184372088832)) 255 := ⟨_, rfl⟩
  rw [← hz]
  have hzr : 0 ≤ z ∧ z ≤ 255 := by rw [hz]; exact and_255 _
  obtain ⟨x, rfl⟩ := Int.eq_ofNat_of_zero_le hzr.1
  clear hz
  generalize hw2 : w1.drewN nq = w2
  have HC2 := Lib.hid (HC1.out.heap (w1 := w2) (by rw [← hw2]; rfl))
  have K2 := Lib.hid (K1.out.trans (KeptOut.heap cb (cb + 1) hw2.symm))
  have d0 := HC2.out.c0
  have d1 := HC2.out.c1
  have g1 := HC2.out.f1
  clear hw2 HC1 K1
  go_wp2
  go_quiet (fail)
  generalize hw3 : w2.drewN nq = w3
  have HC3 := Lib.hid (HC2.out.heap (w1 := w3) (by rw [← hw3]; rfl))
  have K3 := Lib.hid (K2.out.trans (KeptOut.heap cb (cb + 1) hw3.symm))
  have d0 := HC3.out.c0
  have d1 := HC3.out.c1
  have g1 := HC3.out.f1
  clear hw3 HC2 K2
  by_cases hlt : i < len
  · obtain ⟨b, off, y, rfl, hbB, hy, hcell⟩ := HB.out i (by rw [← HL.out]; exact hlt)
    have hbw : w3.cell? ⟨b, off + i, none⟩ = some (.int .u8 (y : Int)) := (K3.out.cell hcell (by have := HC.out.hB; have := HC.out.hs; omega) (.inl (by have := HC.out.hB; omega)))
    have g1 := HC3.out.f1
    obtain ⟨u, hu⟩ : ∃ u, u = bits .and .i64 ((x : Int) + (y : Int)) 255 := ⟨_, rfl⟩
    have hur : 0 ≤ u ∧ u ≤ 255 := by rw [hu]; exact and_255 _
    obtain ⟨t, rfl⟩ := Int.eq_ofNat_of_zero_le hur.1
    have HU := Lib.hid hu
    clear hcell hu
    go_wp2
    go_quiet (fail)
    rw [← HU.out]
    generalize hw4 : w3.drewN nq = w4
    have HC4 := Lib.hid (HC3.out.heap (w1 := w4) (by rw [← hw4]; rfl))
    have K4 := Lib.hid (K3.out.trans (KeptOut.heap cb (cb + 1) hw4.symm))
    have d0 := HC4.out.c0
    have d1 := HC4.out.c1
    have g1 := HC4.out.f1
    have HC5 := Lib.hid (HC4.out.set1 (i' := i + 1) (by rw [← HL.out]; omega))
    have K5 := Lib.hid (K4.out.trans (KeptOut.set w4 cb 1 (.int .i64 ((i + 1 : Nat) : Int))))
    clear hw4 HC3 K3
    go_wp2
    go_ret
    exact ⟨t, rfl, by omega, ⟨i + 1, h', HC5.out⟩, K5.out⟩
  · go_wp2
    go_ret
    exact ⟨x, rfl, by omega, ⟨i, h', HC3.out⟩, K3.out⟩

set_option maxHeartbeats 400000 in
theorem cur_below {cb B : Nat} {v : Value} {bs : List UInt8} {w : World} (n : Nat) (hn : 0 < n) (hn2 : n ≤ 256) (hc : CurOk w cb B v bs) :
    Calls Tryz.prog 74 #[.pointer (some ⟨cb, 0, none⟩), .int .i64 n] w (CurPost (n - 1) cb B v bs w) := by
  have HC := Lib.hid hc
  clear hc
  go_enter Tryz.func74, Tryz.ntmps74
  go_wp2_with fail
  refine (cur_byte HC.out).mono ?_
  rintro e w1 ⟨x, rfl, hx, h1, k1⟩
  have H1 := Lib.hid h1
  have K1 := Lib.hid k1
  have hr : x % n < n := Nat.mod_lt _ hn
  clear h1 k1
  go_wp2
  go_ret
  exact ⟨x % n, by simp, by omega, H1.out, K1.out⟩
set_option maxHeartbeats 400000 in
/-- l01Pick: a place of the list, which is in memory of the caller. -/
theorem cur_pick {cb B p m cap : Nat} {v : Value} {bs : List UInt8} {w : World} {zs : List Int} (hm : zs.length = m) (h0 : 0 < m) (h256 : m ≤ 256) (hc : CurOk w cb B v bs) (hp : p ≠ cb) (hps : p < w.heap.size) (hz : ∀ i (h : i < zs.length), w.cell? ⟨p, i, none⟩ = some (.int .i64 zs[i])) :
    Calls Tryz.prog 75 #[.pointer (some ⟨cb, 0, none⟩), .slice (some ⟨p, 0, none⟩) m cap] w fun e w' => ∃ z, e = .returned (.int .i64 z) ∧ z ∈ zs ∧ CurOk w' cb B v bs ∧ KeptOut w w' cb (cb + 1) := by
  have HC := Lib.hid hc
  have HZ := Lib.hid hz
  have HM := Lib.hid hm
  clear hc hz hm
  go_enter Tryz.func75, Tryz.ntmps75
  go_wp2_with fail
  refine (cur_below m h0 h256 HC.out).mono ?_
  rintro e w1 ⟨x, rfl, hx, h1, k1⟩
  have H1 := Lib.hid h1
  have K1 := Lib.hid k1
  have hxm : x < m := by omega
  have hx2 : x < zs.length := by rw [HM.out]; exact hxm
  have hcell : w1.cell? ⟨p, x, none⟩ = some (.int .i64 (zs[x]'hx2)) := k1.cell (HZ.out x hx2) hps (by omega)
  obtain ⟨z, hz⟩ : ∃ z, z = zs[x]'hx2 := ⟨_, rfl⟩
  rw [← hz] at hcell
  have HMEM := Lib.hid (show z ∈ zs by rw [hz]; exact List.getElem_mem _)
  clear h1 k1 hz hx2
  go_wp2
  go_ret
  exact ⟨z, rfl, HMEM.out, H1.out, K1.out⟩

theorem and_30 (z : Int) : 0 ≤ bits .and .i64 z 1073741823 ∧ bits .and .i64 z 1073741823 ≤ 1073741823 := by
  have := and_mask z 30 (by omega)
  have e : ((2 ^ 30 - 1 : Nat) : Int) = 1073741823 := rfl
  rw [e] at this
  have e2 : ((2 ^ 30 : Nat) : Int) = 1073741824 := rfl
  omega
/-- What a function that makes a cursor answers. -/
def NewCur (v : Value) (bs : List UInt8) (w : World) (e : Ending) (w' : World) : Prop := ∃ cb, e = .returned (.pointer (some ⟨cb, 0, none⟩)) ∧ CurOk w' cb w.heap.size v bs ∧ Below w.heap.size w w'
set_option maxHeartbeats 800000 in
set_option maxRecDepth 100000 in
theorem cur_new {v : Value} {bs : List UInt8} {w : World} (hr : Rd w.heap.size w v (bytes8 bs)) (hl : bs.length ≤ 1048576) :
    Calls Tryz.prog 76 #[v] w (NewCur v bs w) := by
  obtain ⟨a, cap, rfl, hbytes⟩ := bytes_cell hr
  have HB := Lib.hid hbytes
  have HR := Lib.hid hr
  obtain ⟨len, hlen⟩ : ∃ len, len = bs.length := ⟨_, rfl⟩
  rw [← hlen] at hl HR ⊢
  have HL := Lib.hid hlen
  clear hr hbytes hlen
  go_enter Tryz.func76, Tryz.ntmps76
  go_wp2
  go_loop [3, 4] (fun u i => ∃ (h k : Nat), i = .int .i64 k ∧ u = .int .i64 h ∧ k ≤ len ∧ k ≤ 4000 ∧ h ≤ 1073741824) (fun _ i => 4000 - (intOf i).toNat)
  case atStart => exact ⟨55127 + len, 0, rfl, by go_num, by omega, by omega, by omega⟩
  case round =>
    obtain ⟨h, k, rfl, rfl, hk, hk2, hh⟩ := hrel
    by_cases h1 : k < len
    · by_cases h2 : k < 4000
      · obtain ⟨b, off, y, rfl, hbB, hy, hcell⟩ := HB.out k (by rw [← HL.out]; exact h1)
        obtain ⟨u, hu⟩ : ∃ u, u = bits .and .i64 ((h : Int) * 131 + (y : Int) + 7) 1073741823 := ⟨_, rfl⟩
        have hur : 0 ≤ u ∧ u ≤ 1073741823 := by rw [hu]; exact and_30 _
        obtain ⟨t, rfl⟩ := Int.eq_ofNat_of_zero_le hur.1
        have HU := Lib.hid hu
        clear hu
        go_wp2
        go_round
        case rel => exact ⟨t, k + 1, by go_num, by rw [HU.out], by omega, by omega, by omega⟩
        case measure => simp [intOf]; omega
      · have h3 : decide (k < 4000) = false := by simp; omega
        go_wp2
        go_ret
        exact ⟨w.heap.size, rfl, ⟨0, h, ⟨by simp, by simp, by simp, by omega, by omega, by omega, by simp, by simp, Nat.le_refl _, by simp, HR.out.below ((Below.refl _ _).alloc (Nat.le_refl _) _) (Nat.le_refl _), by rw [← HL.out]; exact hl⟩⟩, (Below.refl _ _).alloc (Nat.le_refl _) _⟩
    · go_wp2
      go_ret
      exact ⟨w.heap.size, rfl, ⟨0, h, ⟨by simp, by simp, by simp, by omega, by omega, by omega, by simp, by simp, Nat.le_refl _, by simp, HR.out.below ((Below.refl _ _).alloc (Nat.le_refl _) _) (Nat.le_refl _), by rw [← HL.out]; exact hl⟩⟩, (Below.refl _ _).alloc (Nat.le_refl _) _⟩
set_option maxHeartbeats 800000 in
set_option maxRecDepth 100000 in
theorem cur_at {v : Value} {bs : List UInt8} {w : World} (n : Nat) (hn : n ≤ 1000) (hr : Rd w.heap.size w v (bytes8 bs)) (hl : bs.length ≤ 1048576) :
    Calls Tryz.prog 36 #[v, .int .i64 n] w (NewCur v bs w) := by
  obtain ⟨a, cap, rfl, -⟩ := bytes_cell hr
  have HR := Lib.hid hr
  obtain ⟨len, hlen⟩ : ∃ len, len = bs.length := ⟨_, rfl⟩
  rw [← hlen] at HR ⊢
  have hl2 : len ≤ 1048576 := by omega
  have HL := Lib.hid hlen
  have HLL := Lib.hid hl
  clear hr hlen hl
  go_enter Tryz.func36, Tryz.ntmps36
  go_wp2_with fail
  refine (cur_new HR.out HLL.out).mono ?_
  rintro e w1 ⟨cb, rfl, ⟨i, h, hc⟩, hb1⟩
  have HC1 := Lib.hid hc
  have HB1 := Lib.hid hb1
  have c1 := hc.c1
  have c2 := hc.c2
  have f1 := hc.f1
  have f2 := hc.f2
  have hcb := hc.hB
  clear hc hb1
  by_cases hmin : len < n
  · have hm2 : decide (len < n) = true := by simpa using hmin
    have HC2 := Lib.hid (HC1.out.set1 (i' := len) (by rw [← HL.out]; omega))
    obtain ⟨hv, hhv⟩ : ∃ u, u = bits .and .i64 (wrap64 (wrap64 (wrap64 (h * 31) + (n : Int) * 7919) + 1)) 1073741823 := ⟨_, rfl⟩
    have hur : 0 ≤ hv ∧ hv ≤ 1073741823 := by rw [hhv]; exact and_30 _
    have HC3 := Lib.hid (HC2.out.set2 (h' := hv) (by omega) (by omega))
    have B3 := Lib.hid ((HB1.out.setCell (p := ⟨cb, 1, none⟩) hcb (.int .i64 ((len : Nat) : Int))).setCell (p := ⟨cb, 2, none⟩) hcb (.int .i64 hv))
    have HHV := Lib.hid hhv
    clear hhv
    go_wp2
    rw [← HHV.out]
    go_ret
    exact ⟨cb, rfl, ⟨_, _, HC3.out⟩, B3.out⟩
  · have hm2 : decide (len < n) = false := by simpa using hmin
    have HC2 := Lib.hid (HC1.out.set1 (i' := n) (by rw [← HL.out]; omega))
    obtain ⟨hv, hhv⟩ : ∃ u, u = bits .and .i64 (wrap64 (wrap64 (wrap64 (h * 31) + (n : Int) * 7919) + 1)) 1073741823 := ⟨_, rfl⟩
    have hur : 0 ≤ hv ∧ hv ≤ 1073741823 := by rw [hhv]; exact and_30 _
    have HC3 := Lib.hid (HC2.out.set2 (h' := hv) (by omega) (by omega))
    have B3 := Lib.hid ((HB1.out.setCell (p := ⟨cb, 1, none⟩) hcb (.int .i64 ((n : Nat) : Int))).setCell (p := ⟨cb, 2, none⟩) hcb (.int .i64 hv))
    have HHV := Lib.hid hhv
    clear hhv
    go_wp2
    rw [← HHV.out]
    go_ret
    exact ⟨cb, rfl, ⟨_, _, HC3.out⟩, B3.out⟩

end Go.Proofs.YtgbmacppgaopfabGreat
namespace Go.Proofs.YtgbmacppgaopfabGreat
set_option maxRecDepth 20000
open Go.RowKit

def totL (rows : List (List Int)) : Nat := (rows.map List.length).sum
/-- What the size of rows answers. -/
def SzPost (left : Int) (rows : List (List Int)) (w : World) (e : Ending) (w' : World) : Prop := ∃ r : Int, e = .returned (.int .i64 r) ∧ w = w' ∧ -1 ≤ r ∧ r ≤ left ∧ (0 ≤ r → (rows.length : Int) + totL rows ≤ left)
theorem SzPost.neg {left : Int} {rows : List (List Int)} {w : World} (h : 0 ≤ left) : SzPost left rows w (.returned (.int .i64 (-1))) w := ⟨-1, rfl, rfl, by omega, by omega, fun h => by omega⟩
theorem KeptOut.own {w w1 : World} {lo hi lo' hi' : Nat} {v : Value} {xs : List Int} (h : KeptOut w w1 lo hi) (ho : Own w lo' hi' v xs) (hd : hi' ≤ lo ∨ hi ≤ lo') : Own w1 lo' hi' v xs := by
  refine ⟨?_, ho.2.1, Nat.le_trans ho.2.2 h.2.2.2.1⟩
  have h1 := ho.1
  refine ⟨h1.1, ?_⟩
  rcases h1.2 with hn | ⟨g, cap, cur, hv, hg, hc, r⟩
  · exact .inl hn
  · refine .inr ⟨g, cap, cur, hv, hg, ?_, r⟩
    have hgi : g < hi' := ho.2.1 g (by rw [hv]; rfl)
    rw [h.2.2.2.2 g (by have := ho.2.2; omega) (by omega)]
    exact hc
theorem KeptOut.box {w w1 : World} {lo hi b : Nat} {k p n : Int} (h : KeptOut w w1 lo hi) (hx : BoxAt w b k p n) (hb : b < w.heap.size) (hd : b < lo ∨ hi ≤ b) : BoxAt w1 b k p n :=
  ⟨h.cell hx.1 hb hd, h.cell hx.2.1 hb hd, h.cell hx.2.2 hb hd⟩
theorem KeptOut.rows {w w1 : World} {lo hi B : Nat} {v : Value} {rows : List (List Int)} (h : KeptOut w w1 lo hi) (hr : RdRows B w v rows) (hB : B ≤ lo) (hs : B ≤ w.heap.size) : RdRows B w1 v rows := by
  obtain ⟨vs, h1, h2, h3⟩ := hr
  exact ⟨vs, h.rd h1 hB hs, h2, fun i hi => let ⟨u, e, hu⟩ := h3 i hi; ⟨u, e, h.rd hu hB hs⟩⟩

/-- Rows of the call's own: the outer row first, then row by row, each in blocks of its own. -/
def OwnRows (w : World) (lo hi : Nat) (v : Value) (rows : List (List Int)) : Prop :=
  ∃ (vs : List Value) (β : Nat → Nat), vs.length = rows.length ∧ w.ownsRow lo 26 1 v rows.length vs ∧ (∀ g, v.ownBlock = some g → g < β 0) ∧ (∀ i j, i ≤ j → β i ≤ β j) ∧ β rows.length ≤ hi ∧ hi ≤ w.heap.size ∧ lo ≤ β 0 ∧
    ∀ i (h : i < rows.length), ∃ u, vs[i]? = some u ∧ Own w (β i) (β (i + 1)) u rows[i]
theorem OwnRows.rd {w : World} {lo hi : Nat} {v : Value} {rows : List (List Int)} (h : OwnRows w lo hi v rows) : RdRows hi w v rows := by
  obtain ⟨vs, β, h1, h2, h3, h4, h5, h6, h7, h8⟩ := h
  refine ⟨vs, ?_, h1, fun i hi => ?_⟩
  · rcases Rd.of_own h2 with ⟨a1, a2⟩ | ⟨b, off, cap, hv, hlt, hcp, hc⟩
    · exact .inl ⟨a1, a2⟩
    · refine .inr ⟨b, off, cap, hv, ?_, hcp, hc⟩
      have h9 := h3 b (by rw [hv]; rfl)
      have h10 := h4 0 rows.length (Nat.zero_le _)
      omega
  · obtain ⟨u, hu, ho⟩ := h8 i hi
    have h10 := h4 (i + 1) rows.length hi
    exact ⟨u, hu, ho.rd.mono (by omega)⟩
theorem OwnRows.kept {w w1 : World} {lo hi lo' hi' : Nat} {v : Value} {rows : List (List Int)} (h : OwnRows w lo' hi' v rows) (hk : KeptOut w w1 lo hi) (hd : hi' ≤ lo ∨ hi ≤ lo') : OwnRows w1 lo' hi' v rows := by
  obtain ⟨vs, β, h1, h2, h3, h4, h5, h6, h7, h8⟩ := h
  have h10 := h4 0 rows.length (Nat.zero_le _)
  refine ⟨vs, β, h1, ?_, h3, h4, h5, Nat.le_trans h6 hk.2.2.2.1, h7, fun i hi => ?_⟩
  · refine ⟨h2.1, ?_⟩
    rcases h2.2 with hn | ⟨g, cap, cur, hv, hg, hc, r⟩
    · exact .inl hn
    · refine .inr ⟨g, cap, cur, hv, hg, ?_, r⟩
      have hgi := h3 g (by rw [hv]; rfl)
      rw [hk.2.2.2.2 g (by omega) (by omega)]
      exact hc
  · obtain ⟨u, hu, ho⟩ := h8 i hi
    have h11 := h4 (i + 1) rows.length hi
    have h12 := h4 0 i (Nat.zero_le _)
    exact ⟨u, hu, hk.own ho (by omega)⟩
theorem OwnRows.below {w w1 : World} {lo hi : Nat} {v : Value} {rows : List (List Int)} (h : OwnRows w lo hi v rows) (hb : Below w.heap.size w w1) : OwnRows w1 lo hi v rows :=
  h.kept (lo := hi) (hi := hi) (KeptOut.of_below hb) (.inl (Nat.le_refl _))
end Go.Proofs.YtgbmacppgaopfabGreat
namespace Go.Proofs.YtgbmacppgaopfabGreat
set_option maxRecDepth 20000
open Go.RowKit

def primeCheck (n : Nat) : Bool := decide (2 ≤ n) && decide (n ≤ 1000003) && (List.range 1001).all fun d => decide (d < 2) || decide (n < d * d) || (n % d != 0)
theorem prime_dec {n : Nat} (h : primeCheck n = true) : primeB (n : Int) = true := by
  unfold primeCheck at h
  simp only [Bool.and_eq_true, decide_eq_true_eq, List.all_eq_true, List.mem_range, Bool.or_eq_true, bne_iff_ne] at h
  obtain ⟨⟨h1, h2⟩, h3⟩ := h
  refine prime_of (by omega) (by omega) fun d hd hdd hm => ?_
  have e : ((d * d : Nat) : Int) = (d : Int) * d := by simp
  have hd2 : d ≤ 1000 := root_lt (by omega) hdd
  rcases h3 d (by omega) with (h4 | h4) | h4
  · omega
  · omega
  · apply h4
    have : ((n % d : Nat) : Int) = 0 := by simpa using hm
    omega
theorem p2 : primeB 2 = true := prime_dec (n := 2) (by kernel_rfl)
theorem p3 : primeB 3 = true := prime_dec (n := 3) (by kernel_rfl)
theorem p5 : primeB 5 = true := prime_dec (n := 5) (by kernel_rfl)
theorem p7 : primeB 7 = true := prime_dec (n := 7) (by kernel_rfl)
theorem p17 : primeB 17 = true := prime_dec (n := 17) (by kernel_rfl)
theorem p97 : primeB 97 = true := prime_dec (n := 97) (by kernel_rfl)
theorem p101 : primeB 101 = true := prime_dec (n := 101) (by kernel_rfl)
theorem p1000003 : primeB 1000003 = true := prime_dec (n := 1000003) (by kernel_rfl)
theorem mk2 {z : Int} (h : z ∈ [2, 3, 7, 97, 1000003]) : ringB 2 z 0 = true := by
  simp at h
  rcases h with rfl | rfl | rfl | rfl | rfl <;> simp [ringB, p2, p3, p7, p97, p1000003]
theorem mkCap {k z : Int} (hk : k = 3 ∨ k = 4 ∨ k = 5) (h : z ∈ [1, 2, 9, 40, 1000000]) : ringB k z 0 = true := by
  simp at h
  unfold ringB
  rw [if_neg (by omega), if_neg (by omega), if_pos hk]
  rcases h with rfl | rfl | rfl | rfl | rfl <;> simp
theorem mk6 {z : Int} (h : z ∈ [1, 3, 5, 20]) : ringB 6 0 z = true := by
  simp at h
  rcases h with rfl | rfl | rfl | rfl <;> simp [ringB]
theorem mk7 {z n : Int} (h : z ∈ [2, 5, 101]) (h1 : 1 ≤ n) (h2 : n ≤ 4) : ringB 7 z n = true := by
  simp at h
  rcases h with rfl | rfl | rfl <;> simp [ringB, p2, p5, p101] <;> omega
theorem mk8 {z : Int} (h : z ∈ [3, 17, 97, 1000003]) : ringB 8 z 0 = true := by
  simp at h
  rcases h with rfl | rfl | rfl | rfl <;> simp [ringB, p3, p17, p97, p1000003]
theorem CurOk.below_at {w w1 : World} {cb B B' : Nat} {v : Value} {bs : List UInt8} (h : CurOk w cb B v bs) (hb : Below B' w w1) (hs : cb < B') : CurOk w1 cb B v bs := by
  obtain ⟨i, h, c⟩ := h
  exact ⟨i, h, ⟨(hb.cell (p := ⟨cb, 0, none⟩) hs).trans c.c0, (hb.cell (p := ⟨cb, 1, none⟩) hs).trans c.c1, (hb.cell (p := ⟨cb, 2, none⟩) hs).trans c.c2, c.hi, c.h1, c.h2, (hb.frozen (p := ⟨cb, 1, none⟩) hs).trans c.f1, (hb.frozen (p := ⟨cb, 2, none⟩) hs).trans c.f2, c.hB, Nat.lt_of_lt_of_le c.hs hb.size, c.rd.below hb (by have := c.hB; omega), c.len⟩⟩
theorem CurOk.below {w w1 : World} {cb B : Nat} {v : Value} {bs : List UInt8} (h : CurOk w cb B v bs) (hb : Below w.heap.size w w1) : CurOk w1 cb B v bs := by
  obtain ⟨i, q, c⟩ := h
  exact CurOk.below_at ⟨i, q, c⟩ hb c.hs
theorem CurOk.lo {w : World} {cb B : Nat} {v : Value} {bs : List UInt8} (h : CurOk w cb B v bs) : B ≤ cb ∧ cb < w.heap.size := by
  obtain ⟨i, h, c⟩ := h
  exact ⟨c.hB, c.hs⟩
/-- What a drawn ring answers. -/
def RingPost (cb B : Nat) (v : Value) (bs : List UInt8) (w : World) (e : Ending) (w' : World) : Prop := ∃ k p n, e = .returned (ringV k p n) ∧ ringB k p n = true ∧ CurOk w' cb B v bs ∧ KeptOut w w' cb (cb + 1)
theorem ring_post {cb B : Nat} {v : Value} {bs : List UInt8} {w w' : World} {k p n : Int} (h1 : ringB k p n = true) (h2 : CurOk w' cb B v bs) (h3 : KeptOut w w' cb (cb + 1)) : RingPost cb B v bs w (.returned (ringV k p n)) w' := ⟨k, p, n, rfl, h1, h2, h3⟩

/-- What is carried along a drawing: the cursor, the result's variable, the frame. -/
structure RS (w0 w : World) (cb B : Nat) (v : Value) (bs : List UInt8) (rb : Nat) : Prop where
  cur : CurOk w cb B v bs
  box : BoxAt w rb 0 0 0
  fr : ∀ o, w.frozen? ⟨rb, o, none⟩ = false
  bel : KeptOut w0 w cb (cb + 1)
  lt : rb < w.heap.size
  ne : cb < rb
  base : w0.heap.size ≤ rb
theorem RS.alloc {w0 w : World} {cb B : Nat} {v : Value} {bs : List UInt8} {rb : Nat} (h : RS w0 w cb B v bs rb) (o : Obj) : RS w0 (w.alloc o) cb B v bs rb := by
  have hb := (Below.refl w.heap.size w).alloc (Nat.le_refl _) o
  have hs := h.cur.lo
  exact ⟨h.cur.below hb, h.box.below hb h.lt, fun q => (hb.frozen (p := ⟨rb, q, none⟩) h.lt).trans (h.fr q), h.bel.trans (KeptOut.of_below hb), by simp; have := h.lt; omega, h.ne, h.base⟩
theorem KeptOut.frozen {w w1 : World} {lo hi b o : Nat} (h : KeptOut w w1 lo hi) (hb : b < w.heap.size) (hd : b < lo ∨ hi ≤ b) : w1.frozen? ⟨b, o, none⟩ = w.frozen? ⟨b, o, none⟩ :=
  World.frozen?_of_block (w := w) (h.2.2.2.2 b hb hd)
theorem RS.kept {w0 w w1 : World} {cb B : Nat} {v : Value} {bs : List UInt8} {rb : Nat} (h : RS w0 w cb B v bs rb) (hk : KeptOut w w1 cb (cb + 1)) (hc : CurOk w1 cb B v bs) : RS w0 w1 cb B v bs rb := by
  have hs := h.cur.lo
  have hn := h.ne
  have hl := h.lt
  exact ⟨hc, hk.box h.box hl (.inr (by omega)), fun q => (hk.frozen hl (.inr (by omega))).trans (h.fr q), h.bel.trans hk, by have := hk.2.2.2.1; omega, hn, h.base⟩
theorem KeptOut.setNew {w0 w : World} {lo hi : Nat} (h : KeptOut w0 w lo hi) {q : Addr} (hq : w0.heap.size ≤ q.block) (u : Value) : KeptOut w0 (w.setCell q u) lo hi :=
  ⟨h.1, h.2.1, h.2.2.1, by simpa using h.2.2.2.1, fun b hb hx => (Below.heap_setCell w q u b (by omega)).trans (h.2.2.2.2 b hb hx)⟩
theorem RS.start {w : World} {cb B : Nat} {v : Value} {bs : List UInt8} (hc : CurOk w cb B v bs) (T : TypeId) : RS w (w.alloc (.cells #[.int .i64 0, .int .i64 0, .int .i64 0] T)) cb B v bs w.heap.size := by
  have hs := hc.lo
  refine ⟨hc.below ((Below.refl _ _).alloc (Nat.le_refl _) _), BoxAt.new w 0 0 0 T, fun o => by simp, KeptOut.of_below ((Below.refl _ _).alloc (Nat.le_refl _) _), by simp, hs.2, Nat.le_refl _⟩
theorem RS.put {w0 w : World} {cb B : Nat} {v : Value} {bs : List UInt8} {rb : Nat} (h : RS w0 w cb B v bs rb) (x y z : Value) : CurOk (((w.setCell ⟨rb, 0, none⟩ x).setCell ⟨rb, 1, none⟩ y).setCell ⟨rb, 2, none⟩ z) cb B v bs ∧ KeptOut w0 (((w.setCell ⟨rb, 0, none⟩ x).setCell ⟨rb, 1, none⟩ y).setCell ⟨rb, 2, none⟩ z) cb (cb + 1) := by
  have hn := h.ne
  have hb := h.base
  refine ⟨h.cur.below_at (B' := rb) ((((Below.refl rb w).setCell (p := ⟨rb, 0, none⟩) (Nat.le_refl _) x).setCell (p := ⟨rb, 1, none⟩) (Nat.le_refl _) y).setCell (p := ⟨rb, 2, none⟩) (Nat.le_refl _) z) hn, ((h.bel.setNew ?_ x).setNew ?_ y).setNew ?_ z⟩ <;> exact hb
theorem RS.facts {w0 w : World} {cb B : Nat} {v : Value} {bs : List UInt8} {rb : Nat} (h : RS w0 w cb B v bs rb) : w.cell? ⟨rb, 0, none⟩ = some (.int .i64 0) ∧ w.cell? ⟨rb, 1, none⟩ = some (.int .i64 0) ∧ w.cell? ⟨rb, 2, none⟩ = some (.int .i64 0) ∧ w.frozen? ⟨rb, 0, none⟩ = false ∧ w.frozen? ⟨rb, 1, none⟩ = false ∧ w.frozen? ⟨rb, 2, none⟩ = false :=
  ⟨h.box.1, h.box.2.1, h.box.2.2, h.fr 0, h.fr 1, h.fr 2⟩

set_option maxHeartbeats 12800000 in
set_option maxRecDepth 100000 in
theorem draw_ring {cb B : Nat} {v : Value} {bs : List UInt8} {w : World} (hc : CurOk w cb B v bs) :
    Calls Tryz.prog 35 #[.pointer (some ⟨cb, 0, none⟩)] w (RingPost cb B v bs w) := by
  have R0 := Lib.hid (RS.start hc 24)
  obtain ⟨rb, hrb⟩ : ∃ rb, rb = w.heap.size := ⟨_, rfl⟩
  have HRB := Lib.hid hrb
  clear hc hrb
  go_enter Tryz.func35, Tryz.ntmps35
  go_wp2_with fail
  refine (cur_below 8 (by omega) (by omega) R0.out.cur).mono ?_
  rintro e w1 ⟨x, rfl, hx, hc, hk⟩
  have R1 := Lib.hid (R0.out.kept hk hc)
  clear hc hk R0
  obtain ⟨c0, c1, c2, f0, f1, f2⟩ := R1.out.facts
  have hcases : x = 0 ∨ x = 1 ∨ x = 2 ∨ x = 3 ∨ x = 4 ∨ x = 5 ∨ x = 6 ∨ x = 7 := by omega
  clear hx
  rcases hcases with rfl | rfl | rfl | rfl | rfl | rfl | rfl | rfl
  · go_wp2
    refine bodyPost_ret (v := ringV 1 0 0) (by simp [results, Tryz.results35, go_sem, c0, c1, c2]) rfl ?_
    obtain ⟨g1, g2⟩ := R1.out.put (.int .i64 1) (.int .i64 0) (.int .i64 0)
    exact ring_post (by simp [ringB]) g1 g2
  · have RA1 := Lib.hid (R1.out.alloc (.cells #[.int .i64 2, .int .i64 3, .int .i64 7, .int .i64 97, .int .i64 1000003] 3))
    clear c0 c1 c2 f0 f1 f2
    obtain ⟨c0, c1, c2, f0, f1, f2⟩ := R1.out.facts
    go_wp2_with fail
    refine (cur_pick (m := 5) (zs := [2, 3, 7, 97, 1000003]) rfl (by omega) (by omega) RA1.out.cur (by have := R1.out.cur.lo; omega) (by simp) (fun i hi => by match i, hi with | 0, _ => simp [World.cell?_alloc_at] | 1, _ => simp [World.cell?_alloc_at] | 2, _ => simp [World.cell?_alloc_at] | 3, _ => simp [World.cell?_alloc_at] | 4, _ => simp [World.cell?_alloc_at])).mono ?_
    rintro e w2 ⟨z, rfl, hz, hc, hk⟩
    have R2 := Lib.hid (RA1.out.kept hk hc)
    have Hz := Lib.hid hz
    clear hc hk hz c0 c1 c2 f0 f1 f2
    obtain ⟨c0, c1, c2, f0, f1, f2⟩ := R2.out.facts
    go_wp2
    refine bodyPost_ret (v := ringV 2 z 0) (by simp [results, Tryz.results35, go_sem, c0, c1, c2]) rfl ?_
    obtain ⟨g1, g2⟩ := R2.out.put (.int .i64 2) (.int .i64 z) (.int .i64 0)
    exact ring_post (mk2 Hz.out) g1 g2
  · have RA1 := Lib.hid (R1.out.alloc (.cells #[.int .i64 1, .int .i64 2, .int .i64 9, .int .i64 40, .int .i64 1000000] 3))
    clear c0 c1 c2 f0 f1 f2
    obtain ⟨c0, c1, c2, f0, f1, f2⟩ := R1.out.facts
    go_wp2_with fail
    refine (cur_pick (m := 5) (zs := [1, 2, 9, 40, 1000000]) rfl (by omega) (by omega) RA1.out.cur (by have := R1.out.cur.lo; omega) (by simp) (fun i hi => by match i, hi with | 0, _ => simp [World.cell?_alloc_at] | 1, _ => simp [World.cell?_alloc_at] | 2, _ => simp [World.cell?_alloc_at] | 3, _ => simp [World.cell?_alloc_at] | 4, _ => simp [World.cell?_alloc_at])).mono ?_
    rintro e w2 ⟨z, rfl, hz, hc, hk⟩
    have R2 := Lib.hid (RA1.out.kept hk hc)
    have Hz := Lib.hid hz
    clear hc hk hz c0 c1 c2 f0 f1 f2
    obtain ⟨c0, c1, c2, f0, f1, f2⟩ := R2.out.facts
    go_wp2
    refine bodyPost_ret (v := ringV 3 z 0) (by simp [results, Tryz.results35, go_sem, c0, c1, c2]) rfl ?_
    obtain ⟨g1, g2⟩ := R2.out.put (.int .i64 3) (.int .i64 z) (.int .i64 0)
    exact ring_post (mkCap (by omega) Hz.out) g1 g2
  · have RA1 := Lib.hid (R1.out.alloc (.cells #[.int .i64 1, .int .i64 2, .int .i64 9, .int .i64 40, .int .i64 1000000] 3))
    clear c0 c1 c2 f0 f1 f2
    obtain ⟨c0, c1, c2, f0, f1, f2⟩ := R1.out.facts
    go_wp2_with fail
    refine (cur_pick (m := 5) (zs := [1, 2, 9, 40, 1000000]) rfl (by omega) (by omega) RA1.out.cur (by have := R1.out.cur.lo; omega) (by simp) (fun i hi => by match i, hi with | 0, _ => simp [World.cell?_alloc_at] | 1, _ => simp [World.cell?_alloc_at] | 2, _ => simp [World.cell?_alloc_at] | 3, _ => simp [World.cell?_alloc_at] | 4, _ => simp [World.cell?_alloc_at])).mono ?_
    rintro e w2 ⟨z, rfl, hz, hc, hk⟩
    have R2 := Lib.hid (RA1.out.kept hk hc)
    have Hz := Lib.hid hz
    clear hc hk hz c0 c1 c2 f0 f1 f2
    obtain ⟨c0, c1, c2, f0, f1, f2⟩ := R2.out.facts
    go_wp2
    refine bodyPost_ret (v := ringV 4 z 0) (by simp [results, Tryz.results35, go_sem, c0, c1, c2]) rfl ?_
    obtain ⟨g1, g2⟩ := R2.out.put (.int .i64 4) (.int .i64 z) (.int .i64 0)
    exact ring_post (mkCap (by omega) Hz.out) g1 g2
  · have RA1 := Lib.hid (R1.out.alloc (.cells #[.int .i64 1, .int .i64 2, .int .i64 9, .int .i64 40, .int .i64 1000000] 3))
    clear c0 c1 c2 f0 f1 f2
    obtain ⟨c0, c1, c2, f0, f1, f2⟩ := R1.out.facts
    go_wp2_with fail
    refine (cur_pick (m := 5) (zs := [1, 2, 9, 40, 1000000]) rfl (by omega) (by omega) RA1.out.cur (by have := R1.out.cur.lo; omega) (by simp) (fun i hi => by match i, hi with | 0, _ => simp [World.cell?_alloc_at] | 1, _ => simp [World.cell?_alloc_at] | 2, _ => simp [World.cell?_alloc_at] | 3, _ => simp [World.cell?_alloc_at] | 4, _ => simp [World.cell?_alloc_at])).mono ?_
    rintro e w2 ⟨z, rfl, hz, hc, hk⟩
    have R2 := Lib.hid (RA1.out.kept hk hc)
    have Hz := Lib.hid hz
    clear hc hk hz c0 c1 c2 f0 f1 f2
    obtain ⟨c0, c1, c2, f0, f1, f2⟩ := R2.out.facts
    go_wp2
    refine bodyPost_ret (v := ringV 5 z 0) (by simp [results, Tryz.results35, go_sem, c0, c1, c2]) rfl ?_
    obtain ⟨g1, g2⟩ := R2.out.put (.int .i64 5) (.int .i64 z) (.int .i64 0)
    exact ring_post (mkCap (by omega) Hz.out) g1 g2
  · have RA1 := Lib.hid (R1.out.alloc (.cells #[.int .i64 1, .int .i64 3, .int .i64 5, .int .i64 20] 3))
    clear c0 c1 c2 f0 f1 f2
    obtain ⟨c0, c1, c2, f0, f1, f2⟩ := R1.out.facts
    go_wp2_with fail
    refine (cur_pick (m := 4) (zs := [1, 3, 5, 20]) rfl (by omega) (by omega) RA1.out.cur (by have := R1.out.cur.lo; omega) (by simp) (fun i hi => by match i, hi with | 0, _ => simp [World.cell?_alloc_at] | 1, _ => simp [World.cell?_alloc_at] | 2, _ => simp [World.cell?_alloc_at] | 3, _ => simp [World.cell?_alloc_at])).mono ?_
    rintro e w2 ⟨z, rfl, hz, hc, hk⟩
    have R2 := Lib.hid (RA1.out.kept hk hc)
    have Hz := Lib.hid hz
    clear hc hk hz c0 c1 c2 f0 f1 f2
    obtain ⟨c0, c1, c2, f0, f1, f2⟩ := R2.out.facts
    go_wp2
    refine bodyPost_ret (v := ringV 6 0 z) (by simp [results, Tryz.results35, go_sem, c0, c1, c2]) rfl ?_
    obtain ⟨g1, g2⟩ := R2.out.put (.int .i64 6) (.int .i64 0) (.int .i64 z)
    exact ring_post (mk6 Hz.out) g1 g2
  · have RA1 := Lib.hid (R1.out.alloc (.cells #[.int .i64 2, .int .i64 5, .int .i64 101] 3))
    clear c0 c1 c2 f0 f1 f2
    obtain ⟨c0, c1, c2, f0, f1, f2⟩ := R1.out.facts
    go_wp2_with fail
    refine (cur_pick (m := 3) (zs := [2, 5, 101]) rfl (by omega) (by omega) RA1.out.cur (by have := R1.out.cur.lo; omega) (by simp) (fun i hi => by match i, hi with | 0, _ => simp [World.cell?_alloc_at] | 1, _ => simp [World.cell?_alloc_at] | 2, _ => simp [World.cell?_alloc_at])).mono ?_
    rintro e w2 ⟨z, rfl, hz, hc, hk⟩
    have R2 := Lib.hid (RA1.out.kept hk hc)
    have Hz := Lib.hid hz
    clear hc hk hz c0 c1 c2 f0 f1 f2
    obtain ⟨c0, c1, c2, f0, f1, f2⟩ := R2.out.facts
    go_wp2_with fail
    refine (cur_below 4 (by omega) (by omega) R2.out.cur).mono ?_
    rintro e w3 ⟨q, rfl, hq, hc, hk⟩
    have R3 := Lib.hid (R2.out.kept hk hc)
    clear hc hk c0 c1 c2 f0 f1 f2
    obtain ⟨c0, c1, c2, f0, f1, f2⟩ := R3.out.facts
    go_wp2
    refine bodyPost_ret (v := ringV 7 z (1 + (q : Int))) (by simp [results, Tryz.results35, go_sem, c0, c1, c2]) rfl ?_
    obtain ⟨g1, g2⟩ := R3.out.put (.int .i64 7) (.int .i64 z) (.int .i64 (1 + (q : Int)))
    exact ring_post (mk7 Hz.out (by omega) (by omega)) g1 g2
  · have RA1 := Lib.hid (R1.out.alloc (.cells #[.int .i64 3, .int .i64 17, .int .i64 97, .int .i64 1000003] 3))
    clear c0 c1 c2 f0 f1 f2
    obtain ⟨c0, c1, c2, f0, f1, f2⟩ := R1.out.facts
    go_wp2_with fail
    refine (cur_pick (m := 4) (zs := [3, 17, 97, 1000003]) rfl (by omega) (by omega) RA1.out.cur (by have := R1.out.cur.lo; omega) (by simp) (fun i hi => by match i, hi with | 0, _ => simp [World.cell?_alloc_at] | 1, _ => simp [World.cell?_alloc_at] | 2, _ => simp [World.cell?_alloc_at] | 3, _ => simp [World.cell?_alloc_at])).mono ?_
    rintro e w2 ⟨z, rfl, hz, hc, hk⟩
    have R2 := Lib.hid (RA1.out.kept hk hc)
    have Hz := Lib.hid hz
    clear hc hk hz c0 c1 c2 f0 f1 f2
    obtain ⟨c0, c1, c2, f0, f1, f2⟩ := R2.out.facts
    go_wp2
    refine bodyPost_ret (v := ringV 8 z 0) (by simp [results, Tryz.results35, go_sem, c0, c1, c2]) rfl ?_
    obtain ⟨g1, g2⟩ := R2.out.put (.int .i64 8) (.int .i64 z) (.int .i64 0)
    exact ring_post (mk8 Hz.out) g1 g2
end Go.Proofs.YtgbmacppgaopfabGreat
namespace Go.Proofs.YtgbmacppgaopfabGreat
set_option maxRecDepth 20000
open Go.RowKit

set_option maxHeartbeats 400000 in
theorem cur_once {cb B : Nat} {v : Value} {bs : List UInt8} {w : World} (n : Nat) (hn : 0 < n) (hn2 : n ≤ 256) (hc : CurOk w cb B v bs) :
    Calls Tryz.prog 97 #[.pointer (some ⟨cb, 0, none⟩), .int .i64 n] w fun e w' => ∃ b, e = .returned (.bool b) ∧ CurOk w' cb B v bs ∧ KeptOut w w' cb (cb + 1) := by
  have HC := Lib.hid hc
  clear hc
  go_enter Tryz.func97, Tryz.ntmps97
  go_wp2_with fail
  refine (cur_below n hn hn2 HC.out).mono ?_
  rintro e w1 ⟨x, rfl, hx, h1, k1⟩
  have H1 := Lib.hid h1
  have K1 := Lib.hid k1
  clear h1 k1
  go_wp2
  go_ret
  exact ⟨_, rfl, H1.out, K1.out⟩
theorem Own.widen {w : World} {lo lo' hi hi' : Nat} {v : Value} {xs : List Int} (h : Own w lo hi v xs) (h1 : lo' ≤ lo) (h2 : hi ≤ hi') (h3 : hi' ≤ w.heap.size) : Own w lo' hi' v xs :=
  ⟨h.1.mono h1, fun g hg => Nat.lt_of_lt_of_le (h.2.1 g hg) h2, h3⟩
/-- What is carried along the drawing of an element. -/
structure ES (w0 w : World) (cb B : Nat) (v : Value) (bs : List UInt8) (rb : Nat) (k p n : Int) : Prop where
  cur : CurOk w cb B v bs
  box : BoxAt w rb k p n
  bel : Below B w0 w
  lt : rb < w.heap.size
  ne : cb < rb
  sz : B ≤ w.heap.size
  up : w0.heap.size ≤ w.heap.size
  kp : KeptOut w0 w cb (cb + 1)
  lo0 : w0.heap.size ≤ rb
theorem ES.step {w0 w w1 : World} {cb B : Nat} {v : Value} {bs : List UInt8} {rb : Nat} {k p n : Int} (h : ES w0 w cb B v bs rb k p n) (hb : Below w.heap.size w w1) : ES w0 w1 cb B v bs rb k p n :=
  ⟨h.cur.below hb, h.box.below hb h.lt, h.bel.trans (hb.mono h.sz), Nat.lt_of_lt_of_le h.lt hb.size, h.ne, Nat.le_trans h.sz hb.size, Nat.le_trans h.up hb.size, h.kp.trans (KeptOut.of_below hb), h.lo0⟩
theorem ES.kept {w0 w w1 : World} {cb B : Nat} {v : Value} {bs : List UInt8} {rb : Nat} {k p n : Int} (h : ES w0 w cb B v bs rb k p n) (hk : KeptOut w w1 cb (cb + 1)) (hc : CurOk w1 cb B v bs) : ES w0 w1 cb B v bs rb k p n := by
  have hs := h.cur.lo
  have hn := h.ne
  have hl := h.lt
  exact ⟨hc, hk.box h.box hl (.inr (by omega)), hk.below h.bel hs.1 (by omega), by have := hk.2.2.2.1; omega, hn, Nat.le_trans h.sz hk.2.2.2.1, Nat.le_trans h.up hk.2.2.2.1, h.kp.trans hk, h.lo0⟩
theorem ES.start {w : World} {cb B : Nat} {v : Value} {bs : List UInt8} (hc : CurOk w cb B v bs) (hB : B ≤ w.heap.size) (k p n : Int) (T : TypeId) : ES w (w.alloc (.cells #[.int .i64 k, .int .i64 p, .int .i64 n] T)) cb B v bs w.heap.size k p n := by
  have hs := hc.lo
  exact ⟨hc.below ((Below.refl _ _).alloc (Nat.le_refl _) _), BoxAt.new w k p n T, (Below.refl _ _).alloc hB _, by simp, hs.2, by simp; omega, by simp, KeptOut.of_below ((Below.refl _ _).alloc (Nat.le_refl _) _), Nat.le_refl _⟩
theorem ES.set {w0 w : World} {cb B : Nat} {v : Value} {bs : List UInt8} {rb : Nat} {k p n : Int} (h : ES w0 w cb B v bs rb k p n) {g o : Nat} (hg : rb < g) (u : Value) : ES w0 (w.setCell ⟨g, o, none⟩ u) cb B v bs rb k p n := by
  have hb : Below g w (w.setCell ⟨g, o, none⟩ u) := (Below.refl _ _).setCell (p := ⟨g, o, none⟩) (Nat.le_refl _) u
  have hs := h.cur.lo
  have hn := h.ne
  exact ⟨h.cur.below_at hb (by omega), h.box.below hb hg, h.bel.trans (hb.mono (by omega)), by simpa using h.lt, hn, by simpa using h.sz, by simpa using h.up,
    ⟨h.kp.1, h.kp.2.1, h.kp.2.2.1, by simpa using h.up, fun b hb1 hx => (Below.heap_setCell w ⟨g, o, none⟩ u b (by have := h.lo0; show b ≠ g; omega)).trans (h.kp.2.2.2.2 b hb1 hx)⟩, h.lo0⟩
theorem KeptOut.ownRow {w w1 : World} {lo hi B g m cap : Nat} {E : TypeId} {xs : List Value} (h : KeptOut w w1 lo hi) (ho : w.ownsRow B E 1 (.slice (some ⟨g, 0, none⟩) m cap) m xs) (hd : g < lo ∨ hi ≤ g) : w1.ownsRow B E 1 (.slice (some ⟨g, 0, none⟩) m cap) m xs := by
  refine ⟨ho.1, ?_⟩
  have hl := (ho.lt g rfl).2
  rcases ho.2 with ⟨hn, _⟩ | ⟨g', cap', cur, hv, hg, hc, r⟩
  · cases hn
  · refine .inr ⟨g', cap', cur, hv, hg, ?_, r⟩
    have : g' = g := by simp at hv; exact hv.1.symm
    subst this
    rw [h.2.2.2.2 g' hl hd]
    exact hc
/-- What a drawn element answers, and that all but the cursor stays. -/
def ElemPostK (cb B : Nat) (v : Value) (bs : List UInt8) (k p n : Int) (w : World) (e : Ending) (w' : World) : Prop := ∃ u xs, e = .returned u ∧ ElemV k p n xs ∧ Own w' w.heap.size w'.heap.size u xs ∧ CurOk w' cb B v bs ∧ Below B w w' ∧ KeptOut w w' cb (cb + 1)
set_option maxHeartbeats 6400000 in
set_option maxRecDepth 100000 in
theorem draw_elem_k {cb B : Nat} {v : Value} {bs : List UInt8} {k p n : Int} {w : World} (hr : ringB k p n = true) (hc : CurOk w cb B v bs) (hB : B ≤ w.heap.size) :
    Calls Tryz.prog 109 #[.pointer (some ⟨cb, 0, none⟩), ringV k p n] w (ElemPostK cb B v bs k p n w) := by
  have R0 := Lib.hid (ES.start hc hB k p n 24)
  have HR := Lib.hid hr
  obtain ⟨m, hm, hm1, hm2⟩ := width_nat hr
  obtain ⟨t, ht⟩ : ∃ t, t = topI k p n := ⟨_, rfl⟩
  have htb : 1 ≤ t ∧ t ≤ 1048576 := by rw [ht]; exact ring_top hr
  have HT := Lib.hid ht
  have HM := Lib.hid hm
  obtain ⟨BB, hBB⟩ : ∃ BB, BB = w.heap.size := ⟨_, rfl⟩
  have HBB := Lib.hid hBB
  obtain ⟨i0, hi, hz0, hz1, hz2⟩ := info_parts infoInt
  clear hc hr ht hm hBB
  go_enter Tryz.func109, Tryz.ntmps109
  go_wp2_with fail
  refine (cur_below 6 (by omega) (by omega) R0.out.cur).mono ?_
  rintro e w1 ⟨x, rfl, hx, hc, hk⟩
  have R1 := Lib.hid (R0.out.kept hk hc)
  clear hc hk R0
  obtain ⟨c0, c1, c2⟩ := R1.out.box
  by_cases x0 : x = 0
  · subst x0
    go_wp2_with fail
    refine (zero_spec k p n _ HR.out).mono ?_
    rintro e w2 ⟨u, rfl, ho, hb⟩
    have R2 := Lib.hid (R1.out.step hb)
    have HO := Lib.hid (Own.widen (lo' := w.heap.size) ho R1.out.up (Nat.le_refl _) (Nat.le_refl _))
    clear ho hb
    go_wp2
    go_ret
    exact ⟨u, _, rfl, zeroL_elem HR.out, HO.out, R2.out.cur, R2.out.bel, R2.out.kp⟩
  by_cases x1 : x = 1
  · subst x1
    go_wp2_with fail
    refine (one_spec k p n _ HR.out).mono ?_
    rintro e w2 ⟨u, rfl, ho, hb⟩
    have R2 := Lib.hid (R1.out.step hb)
    have HO := Lib.hid (Own.widen (lo' := w.heap.size) ho R1.out.up (Nat.le_refl _) (Nat.le_refl _))
    clear ho hb
    go_wp2
    go_ret
    exact ⟨u, _, rfl, oneL_elem HR.out, HO.out, R2.out.cur, R2.out.bel, R2.out.kp⟩
  have e0 : ((x : Int) == 0) = false := by simp; omega
  have e1 : ((x : Int) == 1) = false := by simp; omega
  go_wp2_with fail
  refine (width_spec k p n _).mono ?_
  rw [HM.out]
  rintro e w2 ⟨rfl, hb⟩
  have R2 := Lib.hid (R1.out.step hb)
  have hBs : BB ≤ w2.heap.size := by rw [HBB.out]; exact R2.out.up
  clear hb c0 c1 c2 R1
  go_wp2_with (at_make; refine wpList_make_full _ rfl _ _ 26 rfl BB 3 i0 (.int .i64 0) 1 Tryz.underlying26 hi hz0 hz1 .i64 .i64 _ _ m rfl rfl rfl rfl (by rw [hz2]; omega) (by unfold maxLen; omega) (by exact hBs) ?_; intro w3 hown hgrow)
  rw [zeros_make, ← ints_zeros] at hown
  have R3 := Lib.hid (R2.out.step ((Below.refl _ _).grown hgrow (Nat.le_refl _) (fun j hj => by cases hj)))
  have OW := Lib.hid hown
  have hg : w.heap.size < w2.heap.size := R2.out.lt
  have HW0 : Hid ((zerosL m).length = m ∧ Within t (zerosL m)) := Lib.hid ⟨by simp [zerosL], fun z hz => by
    simp [zerosL] at hz; omega⟩
  clear hown hgrow hi hz0 hz1 hz2 R2
  go_loopw [22] (fun i wr => ∃ (j : Nat) (zs : List Int), j ≤ m ∧ i = .int .i64 j ∧ Hid (zs.length = m ∧ Within t zs) ∧ Hid (ES w wr cb B v bs w.heap.size k p n) ∧ Hid (wr.ownsRow BB 3 1 (.slice (some ⟨w2.heap.size, 0, none⟩) m m) m (ints zs))) (fun i _ => m - (intOf i).toNat)
  case atStart => exact ⟨0, zerosL m, by omega, rfl, HW0, R3, OW⟩
  case round =>
    clear R3 OW HW0
    obtain ⟨j, zs, hj, rfl, HZ, RR, OW⟩ := hrel
    by_cases hlt : j < m
    · obtain ⟨c0, c1, c2⟩ := RR.out.box
      by_cases hq : t + 1 < 256
      · have hqd : decide (t + 1 < 256) = true := by simpa using hq
        obtain ⟨nn, hnn⟩ : ∃ nn : Nat, t + 1 = (nn : Int) := ⟨(t + 1).toNat, by omega⟩
        have hn1 : 0 < nn := by omega
        have hn2 : nn ≤ 256 := by omega
        have hn3 : (nn : Int) ≤ t + 1 := by omega
        have NNH := Lib.hid hnn
        clear hnn
        go_wp2_with fail
        refine (top_spec k p n _ HR.out).mono ?_
        rw [← HT.out]
        rintro e w4 ⟨rfl, hb⟩
        have R4 := Lib.hid (RR.out.step hb)
        have O4 := Lib.hid (own_row_by OW.out hb)
        clear hb c0 c1 c2
        go_wp2_with fail
        rw [NNH.out]
        refine (cur_below nn hn1 hn2 R4.out.cur).mono ?_
        rintro e w5 ⟨y, rfl, hy, hc, hk⟩
        have R5 := Lib.hid (R4.out.kept hk hc)
        have O5 := Lib.hid (hk.ownRow O4.out (.inr (by have := R4.out.ne; omega)))
        obtain ⟨q0, hq0, c3⟩ := row_slot (j := j) O5 (by rw [HZ.out.1]; exact hlt)
        have f3 := O5.out.frozenAt j
        have R6 := Lib.hid (R5.out.set (g := w2.heap.size) (o := j) hg (.int .i64 (y : Int)))
        have O6 : Hid ((w5.setCell ⟨w2.heap.size, j, none⟩ (.int .i64 (y : Int))).ownsRow BB 3 1 (.slice (some ⟨w2.heap.size, 0, none⟩) m m) m (ints (zs.set j (y : Int)))) := by
          have h := (O5.out.stored j (.int .i64 (y : Int))).1
          rw [← ints_set] at h
          exact h
        have Z6 : Hid ((zs.set j (y : Int)).length = m ∧ Within t (zs.set j (y : Int))) := Lib.hid ⟨by rw [List.length_set]; exact HZ.out.1, fun z hz => by
          rcases List.mem_or_eq_of_mem_set hz with h | h
          · exact HZ.out.2 z h
          · omega⟩
        clear hc hk hq0
        go_wp2_with fail
        refine (cur_once 12 (by omega) (by omega) R6.out.cur).mono ?_
        rintro e w7 ⟨b, rfl, hc, hk⟩
        have R7 := Lib.hid (R6.out.kept hk hc)
        have O7 := Lib.hid (hk.ownRow O6.out (.inr (by have := R6.out.ne; omega)))
        clear hc hk c3 f3
        obtain ⟨c0, c1, c2⟩ := R7.out.box
        cases b with
        | false =>
          go_wp2
          go_roundw
          case rel => exact ⟨j + 1, _, by omega, by go_num, Z6, R7, O7⟩
          case measure => simp [intOf]; omega
        | true =>
          go_wp2_with fail
          refine (top_spec k p n _ HR.out).mono ?_
          rw [← HT.out]
          rintro e w8 ⟨rfl, hb⟩
          have R8 := Lib.hid (R7.out.step hb)
          have O8 := Lib.hid (own_row_by O7.out hb)
          obtain ⟨q1, hq1, c4⟩ := row_slot (j := j) O8 (by rw [Z6.out.1]; exact hlt)
          have f4 := O8.out.frozenAt j
          have R9 := Lib.hid (R8.out.set (g := w2.heap.size) (o := j) hg (.int .i64 t))
          have O9 : Hid ((w8.setCell ⟨w2.heap.size, j, none⟩ (.int .i64 t)).ownsRow BB 3 1 (.slice (some ⟨w2.heap.size, 0, none⟩) m m) m (ints ((zs.set j (y : Int)).set j t))) := by
            have h := (O8.out.stored j (.int .i64 t)).1
            rw [← ints_set] at h
            exact h
          have Z9 : Hid (((zs.set j (y : Int)).set j t).length = m ∧ Within t ((zs.set j (y : Int)).set j t)) := Lib.hid ⟨by rw [List.length_set]; exact Z6.out.1, fun z hz => by
            rcases List.mem_or_eq_of_mem_set hz with h | h
            · exact Z6.out.2 z h
            · omega⟩
          clear hb hq1 c0 c1 c2
          go_wp2
          go_roundw
          case rel => exact ⟨j + 1, _, by omega, by go_num, Z9, R9, O9⟩
          case measure => simp [intOf]; omega
      · have hqd : decide (t + 1 < 256) = false := by simpa using hq
        obtain ⟨nn, hnn⟩ : ∃ nn : Nat, nn = 256 := ⟨_, rfl⟩
        have hn1 : 0 < nn := by omega
        have hn2 : nn ≤ 256 := by omega
        have hn3 : (nn : Int) ≤ t + 1 := by omega
        have NNH := Lib.hid (show (256 : Int) = (nn : Int) by omega)
        clear hnn
        go_wp2_with fail
        refine (top_spec k p n _ HR.out).mono ?_
        rw [← HT.out]
        rintro e w4 ⟨rfl, hb⟩
        have R4 := Lib.hid (RR.out.step hb)
        have O4 := Lib.hid (own_row_by OW.out hb)
        clear hb c0 c1 c2
        go_wp2_with fail
        rw [NNH.out]
        refine (cur_below nn hn1 hn2 R4.out.cur).mono ?_
        rintro e w5 ⟨y, rfl, hy, hc, hk⟩
        have R5 := Lib.hid (R4.out.kept hk hc)
        have O5 := Lib.hid (hk.ownRow O4.out (.inr (by have := R4.out.ne; omega)))
        obtain ⟨q0, hq0, c3⟩ := row_slot (j := j) O5 (by rw [HZ.out.1]; exact hlt)
        have f3 := O5.out.frozenAt j
        have R6 := Lib.hid (R5.out.set (g := w2.heap.size) (o := j) hg (.int .i64 (y : Int)))
        have O6 : Hid ((w5.setCell ⟨w2.heap.size, j, none⟩ (.int .i64 (y : Int))).ownsRow BB 3 1 (.slice (some ⟨w2.heap.size, 0, none⟩) m m) m (ints (zs.set j (y : Int)))) := by
          have h := (O5.out.stored j (.int .i64 (y : Int))).1
          rw [← ints_set] at h
          exact h
        have Z6 : Hid ((zs.set j (y : Int)).length = m ∧ Within t (zs.set j (y : Int))) := Lib.hid ⟨by rw [List.length_set]; exact HZ.out.1, fun z hz => by
          rcases List.mem_or_eq_of_mem_set hz with h | h
          · exact HZ.out.2 z h
          · omega⟩
        clear hc hk hq0
        go_wp2_with fail
        refine (cur_once 12 (by omega) (by omega) R6.out.cur).mono ?_
        rintro e w7 ⟨b, rfl, hc, hk⟩
        have R7 := Lib.hid (R6.out.kept hk hc)
        have O7 := Lib.hid (hk.ownRow O6.out (.inr (by have := R6.out.ne; omega)))
        clear hc hk c3 f3
        obtain ⟨c0, c1, c2⟩ := R7.out.box
        cases b with
        | false =>
          go_wp2
          go_roundw
          case rel => exact ⟨j + 1, _, by omega, by go_num, Z6, R7, O7⟩
          case measure => simp [intOf]; omega
        | true =>
          go_wp2_with fail
          refine (top_spec k p n _ HR.out).mono ?_
          rw [← HT.out]
          rintro e w8 ⟨rfl, hb⟩
          have R8 := Lib.hid (R7.out.step hb)
          have O8 := Lib.hid (own_row_by O7.out hb)
          obtain ⟨q1, hq1, c4⟩ := row_slot (j := j) O8 (by rw [Z6.out.1]; exact hlt)
          have f4 := O8.out.frozenAt j
          have R9 := Lib.hid (R8.out.set (g := w2.heap.size) (o := j) hg (.int .i64 t))
          have O9 : Hid ((w8.setCell ⟨w2.heap.size, j, none⟩ (.int .i64 t)).ownsRow BB 3 1 (.slice (some ⟨w2.heap.size, 0, none⟩) m m) m (ints ((zs.set j (y : Int)).set j t))) := by
            have h := (O8.out.stored j (.int .i64 t)).1
            rw [← ints_set] at h
            exact h
          have Z9 : Hid (((zs.set j (y : Int)).set j t).length = m ∧ Within t ((zs.set j (y : Int)).set j t)) := Lib.hid ⟨by rw [List.length_set]; exact Z6.out.1, fun z hz => by
            rcases List.mem_or_eq_of_mem_set hz with h | h
            · exact Z6.out.2 z h
            · omega⟩
          clear hb hq1 c0 c1 c2
          go_wp2
          go_roundw
          case rel => exact ⟨j + 1, _, by omega, by go_num, Z9, R9, O9⟩
          case measure => simp [intOf]; omega
    · obtain rfl : j = m := by omega
      go_wp2
      go_ret
      refine ⟨_, zs, rfl, ⟨by rw [HZ.out.1, HM.out], by rw [← HT.out]; exact HZ.out.2⟩, ?_, RR.out.cur, RR.out.bel, RR.out.kp⟩
      have h := Own.of OW.out HZ.out.1
      rw [HBB.out] at h
      exact h

end Go.Proofs.YtgbmacppgaopfabGreat
namespace Go.Proofs.YtgbmacppgaopfabGreat
set_option maxRecDepth 20000
open Go.RowKit

set_option maxHeartbeats 800000 in
/-- MakeRing. -/
theorem make_ring {v : Value} {bs : List UInt8} {w : World} (n : Nat) (hn : n ≤ 1000) (hr : Rd w.heap.size w v (bytes8 bs)) (hl : bs.length ≤ 1048576) :
    Calls Tryz.prog 6 #[v, .int .i64 n] w fun e w' => ∃ k p q, e = .returned (ringV k p q) ∧ ringB k p q = true ∧ Below w.heap.size w w' := by
  have HR := Lib.hid hr
  have HL := Lib.hid hl
  clear hr hl
  go_enter Tryz.func6, Tryz.ntmps6
  go_wp2_with fail
  have HR1 := Lib.hid (HR.out.below ((Below.refl w.heap.size w).alloc (Nat.le_refl _) (.cells #[.int .i64 0, .int .i64 0, .int .i64 0] 24)) (Nat.le_refl _))
  have hz1 : w.heap.size ≤ (w.alloc (.cells #[.int .i64 0, .int .i64 0, .int .i64 0] 24)).heap.size := by simp
  refine (cur_at n hn (HR1.out.mono hz1) HL.out).mono ?_
  rintro e w1 ⟨cb, rfl, hc, hb1⟩
  have HC1 := Lib.hid hc
  have HB1 := Lib.hid (((Below.refl w.heap.size w).alloc (Nat.le_refl _) _).trans (hb1.mono hz1))
  have BX := Lib.hid ((BoxAt.new w 0 0 0 24).below hb1 (by simp))
  have hcb := hc.lo
  have FR : Hid (∀ o, w1.frozen? ⟨w.heap.size, o, none⟩ = false) := Lib.hid (fun o => (hb1.frozen (p := ⟨w.heap.size, o, none⟩) (by simp)).trans (by simp))
  have hlt : w.heap.size < cb := by have := hcb.1; simp at this; omega
  clear hc hb1
  go_wp2_with fail
  refine (draw_ring HC1.out).mono ?_
  rintro e w2 ⟨k, p, q, rfl, hk, hc2, hko⟩
  have hb2 := hko.below (Below.refl _ w1) hcb.1 (Nat.le_trans hcb.1 (Nat.le_of_lt hcb.2))
  have BX2 := Lib.hid (BX.out.below hb2 (by simp))
  have HB2 := Lib.hid (HB1.out.trans (hb2.mono hz1))
  have f0 := (hb2.frozen (p := ⟨w.heap.size, 0, none⟩) (by simp)).trans (FR.out 0)
  have f1 := (hb2.frozen (p := ⟨w.heap.size, 1, none⟩) (by simp)).trans (FR.out 1)
  have f2 := (hb2.frozen (p := ⟨w.heap.size, 2, none⟩) (by simp)).trans (FR.out 2)
  obtain ⟨c0, c1, c2⟩ := BX2.out
  have HK := Lib.hid hk
  clear hk hc2 hb2 hko
  go_wp2
  refine bodyPost_ret (v := ringV k p q) (by simp [results, Tryz.results6, go_sem, c0, c1, c2]) rfl ?_
  exact ⟨k, p, q, rfl, HK.out, ((HB2.out.setCell (Nat.le_refl _) _).setCell (Nat.le_refl _) _).setCell (Nat.le_refl _) _⟩
end Go.Proofs.YtgbmacppgaopfabGreat
namespace Go.Proofs.YtgbmacppgaopfabGreat
set_option maxRecDepth 20000
open Go.RowKit

/-- A world of the same size that differs from w0 at the cursor alone: against it nothing older has changed. -/
def RsC (w0 wr : World) (cb B : Nat) (v : Value) (bts : List UInt8) (bs : List BxE) (rows : List RowE) : Prop :=
  (∃ w1 : World, w1.heap.size = w0.heap.size ∧ KeptOut w0 w1 cb (cb + 1) ∧ Rs w1 wr bs rows) ∧ CurOk wr cb B v bts ∧ cb < w0.heap.size
variable {w0 wr w' : World} {cb B : Nat} {v : Value} {bts : List UInt8} {bs : List BxE} {rows : List RowE}
theorem RsC.cur (h : RsC w0 wr cb B v bts bs rows) : CurOk wr cb B v bts := h.2.1
theorem RsC.lt (h : RsC w0 wr cb B v bts bs rows) : cb < w0.heap.size := h.2.2
theorem RsC.start {w : World} (hc : CurOk w cb B v bts) : RsC w w cb B v bts [] [] := ⟨⟨w, rfl, KeptOut.refl _ _ _, Rs.start w⟩, hc, hc.lo.2⟩
/-- A step that leaves the cursor alone. -/
theorem RsC.lift {bs' : List BxE} {rows' : List RowE} (h : RsC w0 wr cb B v bts bs rows) (hc : CurOk w' cb B v bts) (f : ∀ w1 : World, w1.heap.size = w0.heap.size → Rs w1 wr bs rows → Rs w1 w' bs' rows') : RsC w0 w' cb B v bts bs' rows' := by
  obtain ⟨⟨w1, h1, h2, h3⟩, -, h5⟩ := h
  exact ⟨⟨w1, h1, h2, f w1 h1 h3⟩, hc, h5⟩
theorem RsC.step (h : RsC w0 wr cb B v bts bs rows) (hb : Below wr.heap.size wr w') : RsC w0 w' cb B v bts bs rows :=
  h.lift (h.cur.below hb) fun _ _ r => r.step hb
theorem RsC.drew (h : RsC w0 wr cb B v bts bs rows) : RsC w0 wr.drew cb B v bts bs rows := h.step (Below.drew (Below.refl _ _))
theorem RsC.box (h : RsC w0 wr cb B v bts bs rows) (a b c : Value) (T : TypeId) : RsC w0 (wr.alloc (.cells #[a, b, c] T)) cb B v bts ((wr.heap.size, a, b, c) :: bs) rows :=
  h.lift (h.cur.below ((Below.refl _ _).alloc (Nat.le_refl _) _)) fun _ _ r => r.box a b c T
theorem RsC.new {u : Value} {xs : List Int} (h : RsC w0 wr cb B v bts bs rows) (hb : Below wr.heap.size wr w') (ho : Own w' wr.heap.size w'.heap.size u xs) : RsC w0 w' cb B v bts bs ((u, xs) :: rows) :=
  h.lift (h.cur.below hb) fun _ _ r => r.new hb ho
theorem RsC.new3 {a b c : Value} {x y z : List Int} (h : RsC w0 wr cb B v bts bs rows) (hb : Below wr.heap.size wr w') (ho : OwnG w' wr.heap.size w'.heap.size [(a, x), (b, y), (c, z)]) : RsC w0 w' cb B v bts bs ((a, x) :: (b, y) :: (c, z) :: rows) :=
  h.lift (h.cur.below hb) fun _ _ r => r.new3 hb ho
theorem RsC.size (h : RsC w0 wr cb B v bts bs rows) : w0.heap.size ≤ wr.heap.size := by
  obtain ⟨⟨w1, h1, -, h3⟩, -, -⟩ := h
  have := h3.bel.size
  omega
theorem RsC.kept (h : RsC w0 wr cb B v bts bs rows) : KeptOut w0 wr cb (cb + 1) := by
  obtain ⟨⟨w1, h1, h2, h3⟩, -, h5⟩ := h
  refine h2.trans ⟨h3.bel.os, h3.bel.tape, h3.bel.output, h3.bel.size, fun b hb _ => h3.bel.block b hb⟩
/-- The cursor has moved. -/
theorem RsC.moved (h : RsC w0 wr cb B v bts bs rows) (hk : KeptOut wr w' cb (cb + 1)) (hc : CurOk w' cb B v bts) : RsC w0 w' cb B v bts bs rows := by
  obtain ⟨⟨w1, h1, h2, h3⟩, h4, h5⟩ := h
  have hs := h3.bel.size
  obtain ⟨ob, hob⟩ : ∃ ob, w'.heap[cb]? = some ob := ⟨_, Array.getElem?_eq_getElem (Nat.lt_of_lt_of_le h5 (by have := hk.2.2.2.1; omega))⟩
  obtain ⟨w2, e1, e2, e3⟩ : ∃ w2 : World, w2.heap.size = w0.heap.size ∧ KeptOut w1 w2 cb (cb + 1) ∧ Below w1.heap.size w2 w' := by
    refine ⟨{ w1 with heap := w1.heap.setIfInBounds cb ob }, by simpa using h1, ⟨rfl, rfl, rfl, by simp, fun b _ hx => ?_⟩, ⟨hk.1.trans h3.bel.os, hk.2.1.trans h3.bel.tape, hk.2.2.1.trans h3.bel.output, ?_, fun b hb => ?_⟩⟩
    · exact Array.getElem?_setIfInBounds_ne (by omega)
    · have := hk.2.2.2.1; simp; omega
    · by_cases e : b = cb
      · subst e
        rw [hob]
        exact (Array.getElem?_setIfInBounds_self_of_lt (by omega)).symm
      · refine (hk.2.2.2.2 b (by omega) (by omega)).trans ((h3.bel.block b hb).trans ?_)
        exact (Array.getElem?_setIfInBounds_ne (fun h => e h.symm)).symm
  have e4 : w2.heap.size = w1.heap.size := by omega
  have ncb : ∀ g, w1.heap.size ≤ g → g < cb ∨ cb + 1 ≤ g := fun g hg => by omega
  have hblk : ∀ g, w1.heap.size ≤ g → g < wr.heap.size → w'.heap[g]? = wr.heap[g]? := fun g hg hl => hk.2.2.2.2 g hl (ncb g hg)
  refine ⟨⟨w2, e1, h2.trans e2, ?_⟩, hc, h5⟩
  refine ⟨by rw [e4]; exact e3, fun r hr => ?_, h3.apart, fun b hb => ?_, h3.far, h3.dis⟩
  · have ho := h3.own r hr
    rw [e4]
    refine ⟨ho.1, ?_⟩
    rcases ho.2 with hn | ⟨g, cap, cur, e, hb, hg, rest⟩
    · exact .inl hn
    · refine .inr ⟨g, cap, cur, e, hb, ?_, rest⟩
      rw [hblk g hb (ho.lt g (by rw [e]; rfl)).2]; exact hg
  · have hx := h3.bx b hb
    have eb := hblk b.1 hx.lo hx.lt
    refine ⟨by rw [e4]; exact e3, (World.cell?_of_block eb).trans hx.c0, (World.cell?_of_block eb).trans hx.c1, (World.cell?_of_block eb).trans hx.c2, fun j => (World.frozen?_of_block eb).trans (hx.fr j), Nat.lt_of_lt_of_le hx.lt hk.2.2.2.1, by rw [e4]; exact hx.lo⟩
/-- An element is drawn. -/
theorem RsC.drawn {u : Value} {xs : List Int} (h : RsC w0 wr cb B v bts bs rows) (hk : KeptOut wr w' cb (cb + 1)) (hc : CurOk w' cb B v bts) (ho : Own w' wr.heap.size w'.heap.size u xs) : RsC w0 w' cb B v bts bs ((u, xs) :: rows) := by
  have hm := h.moved hk hc
  have hsz := h.size
  refine hm.lift hc fun w1 h1 r => ⟨r.bel, fun q hq => ?_, List.pairwise_cons.2 ⟨fun q hq g hg e => ?_, r.apart⟩, r.bx, fun b hb q hq => ?_, r.dis⟩
  · rcases List.mem_cons.1 hq with rfl | hq
    · exact ⟨ho.1.1, ho.1.2.imp id (fun ⟨g, cap, cur, e, hb, rest⟩ => ⟨g, cap, cur, e, by omega, rest⟩)⟩
    · exact r.own q hq
  · have h2 := ho.lo g hg
    obtain ⟨⟨w2, -, -, r2⟩, -, -⟩ := h
    have h3 := ((r2.own q hq).lt g e).2
    omega
  · rcases List.mem_cons.1 hq with rfl | hq
    · intro e
      have h2 := ho.lo _ e
      obtain ⟨⟨w2, -, -, r2⟩, -, -⟩ := h
      have h3 := (r2.bx b hb).lt
      omega
    · exact r.far b hb q hq
/-- What does not turn the world. -/
theorem RsC.same {bs' : List BxE} {rows' : List RowE} (h : RsC w0 wr cb B v bts bs rows) (f : ∀ w1 : World, Rs w1 wr bs rows → Rs w1 wr bs' rows') : RsC w0 wr cb B v bts bs' rows' := h.lift h.cur fun w1 _ r => f w1 r
/-- A row of the call's own is written. -/
theorem RsC.put {xs : List Int} {g n cap : Nat} (h : RsC w0 wr cb B v bts bs ((.slice (some ⟨g, 0, none⟩) n cap, xs) :: rows)) (hn : xs.length = n) (i : Nat) (x : Int) : RsC w0 (wr.setCell ⟨g, i, none⟩ (.int .i64 x)) cb B v bts bs ((.slice (some ⟨g, 0, none⟩) n cap, xs.set i x) :: rows) := by
  refine h.lift (h.cur.below_at ((Below.refl g wr).setCell (p := ⟨g, i, none⟩) (Nat.le_refl _) _) ?_) fun w1 _ r => r.put hn i x
  obtain ⟨⟨w1, h1, -, r⟩, -, h5⟩ := h
  have := ((r.own _ (List.mem_cons_self)).lt g rfl).1
  omega
theorem RsC.row {u : Value} {xs : List Int} (h : RsC w0 wr cb B v bts bs rows) (hm : (u, xs) ∈ rows) : Own wr w0.heap.size wr.heap.size u xs := by
  obtain ⟨⟨w1, h1, -, r⟩, -, -⟩ := h
  rw [← h1]
  exact r.own1 hm
end Go.Proofs.YtgbmacppgaopfabGreat
namespace Go.Proofs.YtgbmacppgaopfabGreat
set_option maxRecDepth 20000
open Go.RowKit
variable {w0 wr w' : World} {cb B : Nat} {v : Value} {bts : List UInt8} {bs : List BxE} {rows : List RowE}
theorem RsC.alloc (h : RsC w0 wr cb B v bts bs rows) (o : Obj) : RsC w0 (wr.alloc o) cb B v bts bs rows := h.step ((Below.refl _ _).alloc (Nat.le_refl _) o)
theorem RsC.lit (h : RsC w0 wr cb B v bts bs rows) : RsC w0 (wr.alloc (.cells #[] 3)) cb B v bts bs ((.slice (some ⟨wr.heap.size, 0, none⟩) 0 0, []) :: rows) :=
  h.lift (h.cur.below ((Below.refl _ _).alloc (Nat.le_refl _) _)) fun _ _ r => r.lit
theorem RsC.swap {a b : RowE} (h : RsC w0 wr cb B v bts bs (a :: b :: rows)) : RsC w0 wr cb B v bts bs (b :: a :: rows) := h.same fun _ r => r.swap
theorem RsC.sub {rows' : List RowE} (h : RsC w0 wr cb B v bts bs rows) (hs : rows'.Sublist rows) : RsC w0 wr cb B v bts bs rows' := h.same fun _ r => r.sub hs
theorem RsC.at {r : Nat} {a b c : Value} (h : RsC w0 wr cb B v bts bs rows) (hm : (r, a, b, c) ∈ bs) : (wr.cell? ⟨r, 0, none⟩ = some a ∧ wr.cell? ⟨r, 1, none⟩ = some b ∧ wr.cell? ⟨r, 2, none⟩ = some c) ∧ wr.frozen? ⟨r, 0, none⟩ = false ∧ wr.frozen? ⟨r, 1, none⟩ = false ∧ wr.frozen? ⟨r, 2, none⟩ = false := by
  obtain ⟨⟨w1, h1, -, r⟩, -, -⟩ := h
  exact r.at hm
theorem RsC.rowN {u : Value} {xs : List Int} {n : Nat} (h : RsC w0 wr cb B v bts bs rows) (hm : (u, xs) ∈ rows) (hn : xs.length = n) : wr.ownsRow w0.heap.size 3 1 u n (ints xs) := by
  obtain ⟨⟨w1, h1, -, r⟩, -, -⟩ := h
  rw [← h1]
  exact r.row hm hn
theorem RsC.rd {u : Value} {xs : List Int} (h : RsC w0 wr cb B v bts bs rows) (hm : (u, xs) ∈ rows) : Rd wr.heap.size wr u (ints xs) := by
  obtain ⟨⟨w1, h1, -, r⟩, -, -⟩ := h
  exact r.rd hm
theorem RsC.ownG (h : RsC w0 wr cb B v bts bs rows) : OwnG wr w0.heap.size wr.heap.size rows := by
  obtain ⟨⟨w1, h1, -, r⟩, -, -⟩ := h
  rw [← h1]
  exact r.ownG
theorem RsC.app1 {u : Value} {xs : List Int} {x : Int} {g n cap : Nat} (h : RsC w0 wr cb B v bts bs ((u, xs) :: rows)) (hn : xs.length = n) (ho : w'.ownsRow w0.heap.size 3 1 (.slice (some ⟨g, 0, none⟩) (n + 1) cap) (n + 1) (ints xs ++ [.int .i64 x])) (hg : wr.grownBy w' u.ownBlock) (hl : u.ownBlock = some g ∨ g = wr.heap.size) :
    RsC w0 w' cb B v bts bs ((.slice (some ⟨g, 0, none⟩) (n + 1) cap, xs ++ [x]) :: rows) := by
  have hlo := fun k hk => ((h.rowN (List.mem_cons_self) hn).lt k hk).1
  exact h.lift (h.cur.below_at ((Below.refl w0.heap.size wr).grown hg h.size hlo) h.lt) fun w1 h1 r => r.app1 hn (by rw [h1]; exact ho) hg hl
/-- The first row has been written by a call. -/
theorem Rs.turn {u : Value} {xs xs' : List Int} {lo hi : Nat} (h : Rs w0 wr bs ((u, xs) :: rows)) (hlo : w0.heap.size ≤ lo) (ho : Own w' lo hi u xs') (hg : wr.grownBy w' u.ownBlock) : Rs w0 w' bs ((u, xs') :: rows) := by
  have hl : ∀ k, u.ownBlock = some k → w0.heap.size ≤ k := fun k hk => ((h.own (u, xs) (by simp)).lt k hk).1
  have hap := List.pairwise_cons.1 h.apart
  refine ⟨h.bel.grown hg h.bel.size hl, fun r hr => ?_, List.pairwise_cons.2 ⟨hap.1, hap.2⟩, fun b hm => (h.bx b hm).grown hg (fun k hk => ⟨fun e => h.far b hm (u, xs) (by simp) (by rw [hk, e]), hl k hk⟩), fun b hm r hr => ?_, h.dis⟩
  · rcases List.mem_cons.1 hr with rfl | hr2
    · exact ⟨ho.1.1, ho.1.2.imp id (fun ⟨g, cap, cur, e, hb, q⟩ => ⟨g, cap, cur, e, Nat.le_trans hlo hb, q⟩)⟩
    · exact (h.own r (by simp [hr2])).kept hg (by
        cases hv : r.1.ownBlock with
        | none => exact .inl rfl
        | some k => exact .inr fun e => hap.1 r hr2 k e.symm hv)
  · rcases List.mem_cons.1 hr with rfl | hr2
    · exact h.far b hm (u, xs) (by simp)
    · exact h.far b hm r (by simp [hr2])
theorem RsC.turn {u : Value} {xs xs' : List Int} {lo hi : Nat} (h : RsC w0 wr cb B v bts bs ((u, xs) :: rows)) (hlo : w0.heap.size ≤ lo) (ho : Own w' lo hi u xs') (hg : wr.grownBy w' u.ownBlock) : RsC w0 w' cb B v bts bs ((u, xs') :: rows) := by
  have hl := fun k hk => ((h.rowN (List.mem_cons_self) rfl).lt k hk).1
  exact h.lift (h.cur.below_at ((Below.refl w0.heap.size wr).grown hg h.size hl) h.lt) fun w1 h1 r => r.turn (by omega) ho hg
theorem RsC.set3 {r : Nat} {a b c : Value} (h : RsC w0 wr cb B v bts ((r, a, b, c) :: bs) rows) (x y z : Value) : RsC w0 (((wr.setCell ⟨r, 0, none⟩ x).setCell ⟨r, 1, none⟩ y).setCell ⟨r, 2, none⟩ z) cb B v bts ((r, x, y, z) :: bs) rows := by
  have hr : cb < r := by
    obtain ⟨⟨w1, h1, -, q⟩, -, h5⟩ := h
    have := (q.bx _ (List.mem_cons_self)).lo
    show cb < r
    simp only at this
    omega
  refine h.lift (h.cur.below_at (((Below.refl r wr).setCell (p := ⟨r, 0, none⟩) (Nat.le_refl _) x).setCell (p := ⟨r, 1, none⟩) (Nat.le_refl _) y |>.setCell (p := ⟨r, 2, none⟩) (Nat.le_refl _) z) hr) fun w1 _ q => q.set3 x y z
theorem RsC.swapB {a b : BxE} (h : RsC w0 wr cb B v bts (a :: b :: bs) rows) : RsC w0 wr cb B v bts (b :: a :: bs) rows := h.same fun _ r => r.swapB
end Go.Proofs.YtgbmacppgaopfabGreat
namespace Go.Proofs.YtgbmacppgaopfabGreat
set_option maxRecDepth 20000
open Go.RowKit

end Go.Proofs.YtgbmacppgaopfabGreat
namespace Go.Proofs.YtgbmacppgaopfabGreat
set_option maxRecDepth 20000
open Go.RowKit

structure LabV (n most : Nat) (ls ds : List Int) : Prop where
  len : ls.length = ds.length
  most : ls.length ≤ most
  rg : ∀ x ∈ ls, 0 ≤ x ∧ x < (n : Int)
  dm : ∀ d ∈ ds, 1 ≤ d ∧ d ≤ 3
  nd : ls.Nodup
  dv : ∀ i x, ls[i]? = some x → ds.getD i 0 = 1 + (x + 1) % 3
theorem LabV.more {n m : Nat} {ls ds : List Int} {x : Nat} {d : Int} (h : LabV n m ls ds) (hx : x < n) (hno : (x : Int) ∉ ls) (hd0 : d = 1 + ((x : Int) + 1) % 3) (hd : 1 ≤ d ∧ d ≤ 3) : LabV n (m + 1) (ls ++ [(x : Int)]) (ds ++ [d]) := by
  refine ⟨by simp [h.len], by have := h.most; simp; omega, fun y hy => ?_, fun y hy => ?_, ?_, fun i y hi => ?_⟩
  · rcases List.mem_append.1 hy with hy | hy
    · exact h.rg y hy
    · simp at hy; subst hy; omega
  · rcases List.mem_append.1 hy with hy | hy
    · exact h.dm y hy
    · simp at hy; subst hy; exact hd
  · rw [List.nodup_append]
    exact ⟨h.nd, by simp, fun y hy z hz e => by simp at hz; subst hz; subst e; exact hno hy⟩
  · have hl := h.len
    by_cases hlt : i < ls.length
    · rw [List.getElem?_append_left hlt] at hi
      rw [List.getD_eq_getElem?_getD, List.getElem?_append_left (by omega), ← List.getD_eq_getElem?_getD]
      exact h.dv i y hi
    · have h1 := (List.getElem?_eq_some_iff.1 hi).1
      rw [List.length_append, List.length_singleton] at h1
      obtain rfl : i = ls.length := by omega
      rw [List.getElem?_append_right (Nat.le_refl _), Nat.sub_self] at hi
      injection hi with hi
      subst hi
      rw [List.getD_eq_getElem?_getD, List.getElem?_append_right (by omega), hl, Nat.sub_self]
      exact hd0
theorem LabV.wide {n m m' : Nat} {ls ds : List Int} (h : LabV n m ls ds) (hm : m ≤ m') : LabV n m' ls ds := ⟨h.len, Nat.le_trans h.most hm, h.rg, h.dm, h.nd, h.dv⟩
def LabelsPost (cb B : Nat) (v : Value) (bts : List UInt8) (n most : Nat) (w : World) (e : Ending) (w' : World) : Prop :=
  ∃ lu ls du ds, e = .returned (.tuple #[lu, du]) ∧ LabV n most ls ds ∧ OwnG w' w.heap.size w'.heap.size [(lu, ls), (du, ds)] ∧ CurOk w' cb B v bts ∧ KeptOut w w' cb (cb + 1)
set_option maxHeartbeats 3200000 in
theorem draw_labels {cb B : Nat} {v : Value} {bts : List UInt8} {w : World} (n most : Nat) (hn0 : 0 < n) (hn : n ≤ 100) (hm : most ≤ 12) (hc : CurOk w cb B v bts) :
    Calls Tryz.prog 77 #[.pointer (some ⟨cb, 0, none⟩), .int .i64 n, .int .i64 most] w (LabelsPost cb B v bts n most w) := by
  have HC := Lib.hid hc
  obtain ⟨i0, hi, hz0, hz1, hz2⟩ := info_parts infoInt
  have J0 := Lib.hid hi
  have J1 := Lib.hid hz0
  have J2 := Lib.hid hz1
  have J3 := Lib.hid hz2
  have S1 := (RsC.start hc).lit.lit
  simp only [World.size_alloc] at S1
  have S2 := Lib.hid S1
  have hwm : IntKind.i64.wrap ((most : Int) + 1) = (most : Int) + 1 := IntWalk.i64_in _ (by omega)
  have hcm := cur_below (most + 1) (by omega) (by omega) S1.cur
  have em : ((most + 1 : Nat) : Int) = (most : Int) + 1 := by omega
  rw [em] at hcm
  have HCM := Lib.hid hcm
  clear hc hi hz0 hz1 hz2 S1 hcm em
  go_enter Tryz.func77, Tryz.ntmps77
  go_wp2_with fail
  refine HCM.out.mono ?_
  rintro e w1 ⟨y, rfl, hy, h1, k1⟩
  have R1 := Lib.hid (S2.out.moved k1 h1)
  clear h1 k1 S2
  go_wp2
  go_loopw [8, 9, 10] (fun s t kk wr => ∃ (q j ca cc : Nat) (ga gb : Option Addr) (ls ds : List Int), q ≤ most ∧ kk = .int .i64 q ∧ s = .slice ga j ca ∧ t = .slice gb j cc ∧ Hid (LabV n (most - q) ls ds) ∧ Hid (ls.length = j) ∧ Hid (RsC w wr cb B v bts [] [(.slice ga j ca, ls), (.slice gb j cc, ds)])) (fun _ _ kk _ => (intOf kk).toNat)
  case atStart => exact ⟨y, 0, 0, 0, _, _, [], [], by omega, rfl, rfl, rfl, ⟨rfl, by simp, by simp, by simp, by simp, by simp⟩, rfl, R1.out.swap⟩
  case round =>
    clear R1
    obtain ⟨q, j, ca, cc, ga, gb, ls, ds, hq, rfl, rfl, rfl, HL, HJ, HR⟩ := hrel
    have HD : Hid (ds.length = j) := Lib.hid (by rw [← HL.out.len, HJ.out])
    cases q with
    | zero =>
      go_wp2
      go_ret2
      exact ⟨_, ls, _, ds, rfl, HL.out, HR.out.ownG, HR.out.cur, HR.out.kept⟩
    | succ q =>
      have hj12 : j ≤ 12 := by have := HL.out.most; rw [HJ.out] at this; omega
      have hcast : ((q + 1 : Nat) : Int) = (q : Int) + 1 := by omega
      rw [hcast]
      have q0 : decide ((0 : Int) < (q : Int) + 1) = true := by simp
      have hsub : IntKind.i64.wrap (q : Int) = (q : Int) := IntWalk.i64_in _ (by omega)
      have HCB := Lib.hid (cur_below n hn0 (by omega) HR.out.cur)
      go_wp2_with fail
      refine HCB.out.mono ?_
      rintro e w2 ⟨x, rfl, hx, h1, k1⟩
      have R2 := Lib.hid (HR.out.moved k1 h1)
      have HF := Lib.hid (find_spec (x : Int) (R2.out.rd (u := .slice ga j ca) (xs := ls) (by simp)) (by rw [HJ.out]; omega))
      have HX : Hid (x < n) := Lib.hid (by omega)
      clear h1 k1 HCB
      by_cases hin : (x : Int) ∈ ls
      · obtain ⟨z, hz, hz0⟩ : ∃ z, findI ls (x : Int) = z ∧ 0 ≤ z := ⟨_, rfl, Int.not_lt.1 (fun h => findI_neg.1 h hin)⟩
        rw [hz] at HF
        have q1 : decide (z < (0 : Int)) = false := by simpa using hz0
        have HL2 : Hid (LabV n (most - q) ls ds) := Lib.hid (HL.out.wide (by omega))
        clear hz hin
        go_wp2_with fail
        refine HF.out.mono ?_
        rintro e w3 ⟨rfl, rfl⟩
        go_wp2
        go_roundw
        case rel => exact ⟨q, j, ca, cc, _, _, ls, ds, by omega, by go_num, rfl, rfl, HL2, HJ, R2⟩
        case measure => simp [intOf]
      · obtain ⟨z, hz, hz0⟩ : ∃ z, findI ls (x : Int) = z ∧ z < 0 := ⟨_, rfl, findI_neg.2 hin⟩
        rw [hz] at HF
        have q1 : decide (z < (0 : Int)) = true := by simpa using hz0
        obtain ⟨d, hd⟩ : ∃ d : Int, d = 1 + ((x : Int) + 1) % 3 := ⟨_, rfl⟩
        have hd2 : 1 ≤ d ∧ d ≤ 3 := by omega
        have hmod : ((x : Int) + 1).tmod 3 = ((x : Int) + 1) % 3 := Int.tmod_eq_emod_of_nonneg (by omega)
        have hw1 : IntKind.i64.wrap ((x : Int) + 1) = (x : Int) + 1 := IntWalk.i64_in _ (by omega)
        have hw2 : IntKind.i64.wrap (((x : Int) + 1) % 3) = ((x : Int) + 1) % 3 := IntWalk.i64_in _ (by omega)
        have hw3 : IntKind.i64.wrap (1 + ((x : Int) + 1) % 3) = d := by rw [← hd]; exact IntWalk.i64_in _ (by omega)
        have HL2 : Hid (LabV n (most - q) (ls ++ [(x : Int)]) (ds ++ [d])) := Lib.hid ((HL.out.more HX.out hin hd hd2).wide (by omega))
        have A1 := Lib.hid (R2.out.alloc (.cells #[.int .i64 (x : Int)] 3))
        have O1 := Lib.hid (A1.out.rowN (u := .slice ga j ca) (xs := ls) (by simp) HJ.out)
        have Z1 := Lib.hid A1.out.size
        clear hz hin hd hd2
        go_wp2_with fail
        refine HF.out.mono ?_
        rintro e w3 ⟨rfl, rfl⟩
        go_wp2_with (at_builtin; go_must (refine wpList_append_lies _ rfl _ _ 26 rfl w.heap.size 3 i0 (.int .i64 0) 1 8 Tryz.underlying26 J0.out J1.out J2.out J3.out rfl (by decide) _ j (ints ls) rfl O1.out ⟨w2.heap.size, 0, none⟩ 1 1 [.int .i64 (x : Int)] rfl rfl (cell_one_new _ _ _) ?c2 (by decide) ?c3 ?c4 ?c5 _ rfl ?_))
        case c2 => first | rfl | (intro u hu; simp at hu; subst hu; rfl)
        case c3 => unfold maxLen; omega
        case c4 => omega
        case c5 => exact Z1.out
        intro g1 cap1 w4 hown hgrow hl1 _
        have R3 := Lib.hid (A1.out.app1 HJ.out hown hgrow (by rw [World.size_alloc]; exact hl1)).swap
        clear hown hgrow hl1 O1 A1 Z1
        have A2 := Lib.hid (R3.out.alloc (.cells #[.int .i64 d] 3))
        have O2 := Lib.hid (A2.out.rowN (u := .slice gb j cc) (xs := ds) (by simp) HD.out)
        have Z2 := Lib.hid A2.out.size
        go_wp2_with (at_builtin; go_must (refine wpList_append_lies _ rfl _ _ 26 rfl w.heap.size 3 i0 (.int .i64 0) 1 8 Tryz.underlying26 J0.out J1.out J2.out J3.out rfl (by decide) _ j (ints ds) rfl O2.out ⟨w4.heap.size, 0, none⟩ 1 1 [.int .i64 d] rfl rfl (cell_one_new _ _ _) ?c2 (by decide) ?c3 ?c4 ?c5 _ rfl ?_))
        case c2 => first | rfl | (intro u hu; simp at hu; subst hu; rfl)
        case c3 => unfold maxLen; omega
        case c4 => omega
        case c5 => exact Z2.out
        intro g2 cap2 w5 hown hgrow hl2 _
        have R4 := Lib.hid (A2.out.app1 HD.out hown hgrow (by rw [World.size_alloc]; exact hl2)).swap
        have HJ2 : Hid ((ls ++ [(x : Int)]).length = j + 1) := Lib.hid (by simp [HJ.out])
        clear hown hgrow hl2 O2 A2 Z2
        go_wp2
        go_roundw
        case rel => exact ⟨q, j + 1, cap1, cap2, _, _, _, _, by omega, by go_num, rfl, rfl, HL2, HJ2, R4⟩
        case measure => simp [intOf]
end Go.Proofs.YtgbmacppgaopfabGreat
namespace Go.Proofs.YtgbmacppgaopfabGreat
set_option maxRecDepth 20000
open Go.RowKit

theorem repL_within {t : Int} {z : List Int} (h : Within t z) (N : Nat) : Within t (repL z N) := by
  intro x hx
  unfold repL at hx
  rw [List.mem_flatten] at hx
  obtain ⟨l, hl, hx⟩ := hx
  rw [List.eq_of_mem_replicate hl] at hx
  exact h x hx
theorem putL_len2 {X x : List Int} {s : Nat} (h : s + x.length ≤ X.length) : (putL X s x).length = X.length := by unfold putL; simp only [List.length_append, List.length_take, List.length_drop]; omega
theorem putL_within {t : Int} {X x : List Int} {s : Nat} (h : Within t X) (h2 : Within t x) : Within t (putL X s x) := by
  intro y hy
  unfold putL at hy
  rcases List.mem_append.1 hy with hy | hy
  · rcases List.mem_append.1 hy with hy | hy
    · exact h y (List.mem_of_mem_take hy)
    · exact h2 y hy
  · exact h y (List.mem_of_mem_drop hy)
/-- What a tensor that is drawn is told. -/
def FillPost (cb B : Nat) (v : Value) (bts : List UInt8) (k p q : Int) (L D : List Int) (w : World) (e : Ending) (w' : World) : Prop :=
  ∃ l' d' x' X, e = .returned (tenV l' d' x') ∧ (X.length : Int) = prodL D * widthI k q ∧ Within (topI k p q) X ∧ OwnG w' w.heap.size w'.heap.size [(l', L), (d', D), (x', X)] ∧ CurOk w' cb B v bts ∧ KeptOut w w' cb (cb + 1)
set_option maxHeartbeats 3200000 in
theorem draw_fill {cb B : Nat} {v lv dv : Value} {bts : List UInt8} {k p q : Int} {L D : List Int} {w : World} (N : Nat) (hr : ringB k p q = true) (hc : CurOk w cb B v bts) (hl : ∀ w', KeptOut w w' cb (cb + 1) → Rd w.heap.size w' lv (ints L)) (hd : ∀ w', KeptOut w w' cb (cb + 1) → Rd w.heap.size w' dv (ints D)) (h1 : L.length ≤ 12) (h2 : D.length ≤ 12) (hD : ∀ d ∈ D, 1 ≤ d ∧ d ≤ 8) (hN : prodL D = (N : Int)) (hN2 : N ≤ 4096) :
    Calls Tryz.prog 78 #[.pointer (some ⟨cb, 0, none⟩), ringV k p q, lv, dv] w (FillPost cb B v bts k p q L D w) := by
  have HL := Lib.hid hl
  have HD := Lib.hid hd
  have HRB := Lib.hid hr
  have HD8 := Lib.hid hD
  have HN := Lib.hid hN
  obtain ⟨wd, hwd, hwd1, hwd2⟩ := width_nat hr
  have HWD := Lib.hid hwd
  have hcap : capI D = (N : Int) := by
    have h3 := (capI_is (fun d hd => (hD d hd).1)).1
    have hp := prodL_pos (D := D) (fun d hd => (hD d hd).1)
    rw [h3, hN]; omega
  have HCAP := Lib.hid hcap
  have C0 := Lib.hid (((RsC.start hc).box (.int .i64 k) (.int .i64 p) (.int .i64 q) 24).box nilV nilV nilV 28)
  have C1 : Hid (RsC w ((w.alloc (.cells #[.int .i64 k, .int .i64 p, .int .i64 q] 24)).alloc (.cells #[nilV, nilV, nilV] 28)) cb B v bts [(w.heap.size + 1, nilV, nilV, nilV), (w.heap.size, .int .i64 k, .int .i64 p, .int .i64 q)] []) := by
    have h := C0.out
    simp only [World.size_alloc] at h
    exact h
  have HZ := Lib.hid (zero_ten_spec (k := k) (p := p) (q := q) N (HL.out _ C1.out.kept) (HD.out _ C1.out.kept) C1.out.size (by omega) (by omega) hr hD hcap (by omega))
  have ZL : Hid ((zeroL k p q).length = wd) := Lib.hid (by unfold zeroL; simp [hwd])
  have ZW : Hid (Within (topI k p q) (zeroL k p q)) := Lib.hid (zeroL_elem hr).2
  obtain ⟨aL, cL, rfl, -⟩ := ints_form (hl w (KeptOut.refl _ _ _))
  obtain ⟨aD, cD, rfl, -⟩ := ints_form (hd w (KeptOut.refl _ _ _))
  have H12 := Lib.hid (And.intro h1 h2)
  clear hr hc hl hd hD hN hcap hwd C0 h1 h2
  go_enter Tryz.func78, Tryz.ntmps78
  go_wp2_with fail
  refine HZ.out.mono ?_
  rintro e w2 ⟨l', d', x', rfl, ho, hb⟩
  have R2 := Lib.hid (C1.out.new3 hb ho)
  obtain ⟨a1, c1, rfl, -⟩ := ints_form ho.rows.1.rd
  obtain ⟨a2, c2, rfl, -⟩ := ints_form ho.rows.2.1.rd
  obtain ⟨a3, c3, rfl, -⟩ := ints_form ho.rows.2.2.rd
  obtain ⟨m1, hm1⟩ : ∃ m, m = L.length := ⟨_, rfl⟩
  obtain ⟨m2, hm2⟩ : ∃ m, m = D.length := ⟨_, rfl⟩
  obtain ⟨m3, hm3⟩ : ∃ m, m = (repL (zeroL k p q) N).length := ⟨_, rfl⟩
  have HM3 : Hid (m3 = N * wd) := Lib.hid (by rw [hm3, repL_len, ZL.out])
  rw [← hm1, ← hm2, ← hm3] at R2 ⊢
  have R3 := Lib.hid ((R2.out.box (.slice a1 m1 c1) (.slice a2 m2 c2) (.slice a3 m3 c3) 28).same fun _ r => r.third)
  have WX := Lib.hid (And.intro (show (repL (zeroL k p q) N).length = m3 from hm3.symm) (repL_within ZW.out N))
  have HMM := Lib.hid (And.intro hm1 hm2)
  clear ho hb HZ R2 hm1 hm2 hm3
  go_wp2
  go_loopw [10] (fun s wr => ∃ (c : Nat) (X : List Int), c ≤ N ∧ s = .int .i64 c ∧ Hid (X.length = m3 ∧ Within (topI k p q) X) ∧ Hid (RsC w wr cb B v bts [(w2.heap.size, .slice a1 m1 c1, .slice a2 m2 c2, .slice a3 m3 c3), (w.heap.size + 1, nilV, nilV, nilV), (w.heap.size, .int .i64 k, .int .i64 p, .int .i64 q)] [(.slice a3 m3 c3, X), (.slice a1 m1 c1, L), (.slice a2 m2 c2, D)])) (fun s _ => N - (intOf s).toNat)
  case atStart => exact ⟨0, _, by omega, rfl, WX, R3⟩
  case round =>
    clear R3 WX
    obtain ⟨c, X, hcN, rfl, HX, HR⟩ := hrel
    have HPR := Lib.hid (product_spec (HD.out _ HR.out.kept) (by have := H12.out.2; omega) HD8.out)
    rw [HCAP.out, HMM.out.2.symm] at HPR
    by_cases hlt : c < N
    · have HRd := Lib.hid HR.out.drew
      have HE := Lib.hid (draw_elem_k (k := k) (p := p) (n := q) HRB.out HRd.out.cur (Nat.le_trans HRd.out.cur.lo.1 (Nat.le_of_lt HRd.out.cur.lo.2)))
      obtain ⟨⟨r0, r1, r2⟩, -⟩ := HRd.out.at (r := w.heap.size) (a := .int .i64 k) (b := .int .i64 p) (c := .int .i64 q) (by simp)
      obtain ⟨⟨t0, t1, t2⟩, -⟩ := HRd.out.at (List.mem_cons_self)
      go_wp2_with fail
      refine HPR.out.mono ?_
      rintro e w3 ⟨rfl, rfl⟩
      go_wp2
      have TK1 : True := trivial
      go_region_held3 (fun w' => (w'.cell? ⟨w.heap.size, 0, none⟩ = some (.int .i64 k) ∧ w'.cell? ⟨w.heap.size, 1, none⟩ = some (.int .i64 p) ∧ w'.cell? ⟨w.heap.size, 2, none⟩ = some (.int .i64 q)) ∧ (w'.cell? ⟨w2.heap.size, 0, none⟩ = some (.slice a1 m1 c1) ∧ w'.cell? ⟨w2.heap.size, 1, none⟩ = some (.slice a2 m2 c2) ∧ w'.cell? ⟨w2.heap.size, 2, none⟩ = some (.slice a3 m3 c3))) (exact ⟨⟨r0, r1, r2⟩, ⟨t0, t1, t2⟩⟩) (first
        | (go_at_call 109; refine HE.out.mono ?_; rintro e w4 ⟨u, xs, rfl, hv, ho, hcu, -, hk⟩; have R4 := Lib.hid (HRd.out.drawn hk hcu ho); have HV := Lib.hid hv; obtain ⟨au, cu, rfl, -⟩ := ints_form ho.rd; have HXL : Hid (xs.length = wd) := Lib.hid (by have h := hv.1; rw [HWD.out] at h; omega); clear hv ho hcu hk r0 r1 r2 t0 t1 t2; obtain ⟨⟨r0, r1, r2⟩, -⟩ := R4.out.at (r := w.heap.size) (a := .int .i64 k) (b := .int .i64 p) (c := .int .i64 q) (by simp); obtain ⟨⟨t0, t1, t2⟩, -⟩ := R4.out.at (List.mem_cons_self))
        | (go_at_call 108; refine (put_any (k := k) (p := p) (q := q) wd c m1 c1 m2 c2 a1 a2 rfl rfl (R4.out.row (u := .slice a3 m3 c3) (xs := X) (by simp)) (R4.out.rd (u := .slice au xs.length cu) (xs := xs) (by simp)) (Nat.le_refl _) (fun b hb hb2 => (List.pairwise_cons.1 R4.out.ownG.2).1 (.slice a3 m3 c3, X) (by simp) b hb hb2) HWD.out hwd1 hwd2 HXL.out (by omega) (by rw [HX.out.1, HM3.out]; have h := Nat.mul_le_mul_right wd (show c + 1 ≤ N by omega); rw [Nat.add_mul, Nat.one_mul] at h; exact h) (by rw [HX.out.1, HM3.out]; have := Nat.mul_le_mul hN2 hwd2; omega)).mono ?_; rintro e w5 ⟨rfl, ho, hg⟩; have R5 := Lib.hid (((R4.out.swap).turn (Nat.le_refl _) ho hg).sub (rows' := [(.slice a3 m3 c3, putL X (c * wd) xs), (.slice a1 m1 c1, L), (.slice a2 m2 c2, D)]) (List.Sublist.cons_cons _ (List.Sublist.cons _ (List.Sublist.refl _)))); clear ho hg r0 r1 r2 t0 t1 t2; obtain ⟨⟨r0, r1, r2⟩, -⟩ := R5.out.at (r := w.heap.size) (a := .int .i64 k) (b := .int .i64 p) (c := .int .i64 q) (by simp); obtain ⟨⟨t0, t1, t2⟩, -⟩ := R5.out.at (List.mem_cons_self)))
      all_goals
        have HX2 : Hid ((putL X (c * wd) xs).length = m3 ∧ Within (topI k p q) (putL X (c * wd) xs)) := Lib.hid ⟨by rw [putL_len2 (by rw [HX.out.1, HM3.out, HXL.out]; have h := Nat.mul_le_mul_right wd (show c + 1 ≤ N by omega); rw [Nat.add_mul, Nat.one_mul] at h; exact h)]; exact HX.out.1, putL_within HX.out.2 HV.out.2⟩
        go_wp2
        go_roundw
        case rel => exact ⟨c + 1, _, by omega, by go_num, HX2, R5⟩
        case measure => simp [intOf]; omega
    · obtain rfl : c = N := by omega
      have hnlt : ¬ (c : Int) < (c : Int) := by omega
      obtain ⟨⟨b0, b1, b2⟩, -⟩ := HR.out.at (List.mem_cons_self)
      obtain ⟨⟨t0, t1, t2⟩, f0, f1, f2⟩ := HR.out.at (r := w.heap.size + 1) (a := nilV) (b := nilV) (c := nilV) (by simp)
      go_wp2_with fail
      refine HPR.out.mono ?_
      rintro e w3 ⟨rfl, rfl⟩
      go_wp2
      refine bodyPost_ret (v := tenV (.slice a1 m1 c1) (.slice a2 m2 c2) (.slice a3 m3 c3)) (by simp [results, Tryz.results78, go_sem, t0, t1, t2]) rfl ?_
      have h2 := (((HR.out.swapB.set3 (.slice a1 m1 c1) (.slice a2 m2 c2) (.slice a3 m3 c3)).same fun _ r => r.third).same fun _ r => r.third)
      exact ⟨_, _, _, X, rfl, by rw [HX.out.1, HM3.out, HN.out, HWD.out]; simp, HX.out.2, h2.ownG, h2.cur, h2.kept⟩
end Go.Proofs.YtgbmacppgaopfabGreat
namespace Go.Proofs.YtgbmacppgaopfabGreat
set_option maxRecDepth 20000
open Go.RowKit

/-- Rows that a call has made while the cursor moved. -/
theorem RsC.drawnG {w0 wr w' : World} {cb B : Nat} {v : Value} {bts : List UInt8} {bs : List BxE} {rows new : List RowE} (h : RsC w0 wr cb B v bts bs rows) (hk : KeptOut wr w' cb (cb + 1)) (hc : CurOk w' cb B v bts) (ho : OwnG w' wr.heap.size w'.heap.size new) : RsC w0 w' cb B v bts bs (new ++ rows) := by
  have hm := h.moved hk hc
  have hsz := h.size
  have old : ∀ q ∈ rows, ∀ g, q.1.ownBlock = some g → g < wr.heap.size := by
    obtain ⟨⟨w2, -, -, r2⟩, -, -⟩ := h
    exact fun q hq g e => ((r2.own q hq).lt g e).2
  have oldB : ∀ b ∈ bs, b.1 < wr.heap.size := by
    obtain ⟨⟨w2, -, -, r2⟩, -, -⟩ := h
    exact fun b hb => (r2.bx b hb).lt
  refine hm.lift hc fun w1 h1 r => ⟨r.bel, fun q hq => ?_, List.pairwise_append.2 ⟨ho.2, r.apart, fun q hq s hs g hg e => ?_⟩, r.bx, fun b hb q hq => ?_, r.dis⟩
  · rcases List.mem_append.1 hq with hq | hq
    · have o := ho.1 q hq
      exact ⟨o.1.1, o.1.2.imp id (fun ⟨g, cap, cur, e, hb, rest⟩ => ⟨g, cap, cur, e, by omega, rest⟩)⟩
    · exact r.own q hq
  · have h2 := (ho.1 q hq).lo g hg
    have h3 := old s hs g e
    omega
  · rcases List.mem_append.1 hq with hq | hq
    · intro e
      have h2 := (ho.1 q hq).lo _ e
      have h3 := oldB b hb
      omega
    · exact r.far b hb q hq
theorem prodL_le3 : ∀ {D : List Int}, (∀ d ∈ D, 1 ≤ d ∧ d ≤ 3) → 1 ≤ prodL D ∧ prodL D ≤ 3 ^ D.length := by
  intro D
  induction D with
  | nil => intro _; simp [prodL_nil]
  | cons d D ih =>
    intro h
    obtain ⟨h1, h2⟩ := ih (fun x hx => h x (by simp [hx]))
    have hd := h d (by simp)
    rw [prodL_cons, List.length_cons, Int.pow_succ]
    have e1 : 1 * 1 ≤ d * prodL D := Int.mul_le_mul hd.1 h1 (by omega) (by omega)
    have e2 : d * prodL D ≤ 3 * 3 ^ D.length := Int.mul_le_mul hd.2 h2 (by omega) (by omega)
    rw [Int.mul_comm 3] at e2
    omega
/-- The axes that are drawn are axes. -/
theorem LabV.axes {n most : Nat} {ls ds : List Int} (h : LabV n most ls ds) (hn : n ≤ 100) (hm : most ≤ 3) : AxesV ls ds ∧ 1 ≤ prodL ds ∧ prodL ds ≤ 27 := by
  have hl := h.most
  refine ⟨⟨by omega, h.len, fun x hx => ?_, fun d hd => ?_, h.nd⟩, ?_⟩
  · have := h.rg x hx; omega
  · have := h.dm d hd; omega
  · obtain ⟨h1, h2⟩ := prodL_le3 h.dm
    refine ⟨h1, Int.le_trans h2 ?_⟩
    have hk : ds.length ≤ 3 := by rw [← h.len]; omega
    rcases (by omega : ds.length = 0 ∨ ds.length = 1 ∨ ds.length = 2 ∨ ds.length = 3) with e | e | e | e <;> rw [e] <;> decide
theorem tensorB_of {k p q : Int} {L D X : List Int} (hr : ringB k p q = true) (ha : AxesV L D) (hp : prodL D ≤ 4096) (hx : (X.length : Int) = prodL D * widthI k q) (hw : Within (topI k p q) X) : tensorB k p q L D X = true ∧ sizeI L D = prodL D := by
  have hs : sizeI L D = prodL D := by
    rcases sizeI_cases L D with ⟨-, h⟩ | ⟨h, -⟩
    · exact absurd ⟨axesB_true.2 ha, hp⟩ h
    · exact h
  have hp1 := prodL_pos (D := D) (fun d hd => (ha.2.2.2.1 d hd).1)
  refine ⟨?_, hs⟩
  unfold tensorB
  rw [hs, hr, decide_eq_true hx, decide_eq_true (show 0 ≤ prodL D by omega)]
  simp only [Bool.true_and, List.all_eq_true]
  intro x hx2
  have := hw x hx2
  simpa using this
/-- What a drawn tensor is told. -/
def TenPost (cb B : Nat) (v : Value) (bts : List UInt8) (k p q : Int) (w : World) (e : Ending) (w' : World) : Prop :=
  ∃ l' d' x' L D X, e = .returned (tenV l' d' x') ∧ LabV 6 3 L D ∧ tensorB k p q L D X = true ∧ OwnG w' w.heap.size w'.heap.size [(l', L), (d', D), (x', X)] ∧ CurOk w' cb B v bts ∧ KeptOut w w' cb (cb + 1)
set_option maxHeartbeats 1600000 in
theorem draw_ten {cb B : Nat} {v : Value} {bts : List UInt8} {k p q : Int} {w : World} (hr : ringB k p q = true) (hc : CurOk w cb B v bts) :
    Calls Tryz.prog 37 #[.pointer (some ⟨cb, 0, none⟩), ringV k p q] w (TenPost cb B v bts k p q w) := by
  have HRB := Lib.hid hr
  have C1 : Hid (RsC w ((w.alloc (.cells #[.int .i64 k, .int .i64 p, .int .i64 q] 24)).alloc (.cells #[nilV, nilV, nilV] 28)) cb B v bts [(w.heap.size + 1, nilV, nilV, nilV), (w.heap.size, .int .i64 k, .int .i64 p, .int .i64 q)] []) := by
    have h := ((RsC.start hc).box (.int .i64 k) (.int .i64 p) (.int .i64 q) 24).box nilV nilV nilV 28
    simp only [World.size_alloc] at h
    exact h
  have HLB := Lib.hid (draw_labels 6 3 (by omega) (by omega) (by omega) C1.out.cur)
  clear hr hc
  go_enter Tryz.func37, Tryz.ntmps37
  go_wp2_with fail
  refine HLB.out.mono ?_
  rintro e w1 ⟨lu, ls, du, ds, rfl, hv, ho, hcu, hk⟩
  have R1 := Lib.hid (C1.out.drawnG hk hcu ho)
  have HV := Lib.hid hv
  obtain ⟨hax, hp1, hp2⟩ := hv.axes (by omega) (by omega)
  have HAX := Lib.hid hax
  obtain ⟨N, hN⟩ : ∃ N : Nat, prodL ds = (N : Int) := ⟨(prodL ds).toNat, by omega⟩
  have HN := Lib.hid (And.intro hN (show N ≤ 27 by omega))
  have hlt := R1.out.lt
  have o1 := R1.out.row (u := lu) (xs := ls) (by simp)
  have o2 := R1.out.row (u := du) (xs := ds) (by simp)
  have HF := Lib.hid (draw_fill (k := k) (p := p) (q := q) N HRB.out R1.out.cur (fun w' hk => (hk.own o1 (.inr (by omega))).rd) (fun w' hk => (hk.own o2 (.inr (by omega))).rd) hax.1 (by have := hax.1; have := hax.2.1; omega) hax.2.2.2.1 hN (by omega))
  obtain ⟨a1, c1, rfl, -⟩ := ints_form o1.rd
  obtain ⟨a2, c2, rfl, -⟩ := ints_form o2.rd
  obtain ⟨⟨r0, r1, r2⟩, -⟩ := R1.out.at (r := w.heap.size) (a := .int .i64 k) (b := .int .i64 p) (c := .int .i64 q) (by simp)
  clear hv ho hcu hk hax hp1 hp2 hN o1 o2
  go_wp2_with fail
  refine HF.out.mono ?_
  clear r0 r1 r2
  rintro e w2 ⟨l', d', x', X, rfl, hxl, hxw, ho, hcu, hk⟩
  have R2 := Lib.hid (R1.out.drawnG hk hcu ho)
  have HT := Lib.hid (tensorB_of HRB.out HAX.out (by rw [HN.out.1]; have := HN.out.2; omega) hxl hxw)
  obtain ⟨b1, e1, rfl, -⟩ := ints_form ho.rows.1.rd
  obtain ⟨b2, e2, rfl, -⟩ := ints_form ho.rows.2.1.rd
  obtain ⟨b3, e3, rfl, -⟩ := ints_form ho.rows.2.2.rd
  obtain ⟨⟨t0, t1, t2⟩, f0, f1, f2⟩ := R2.out.at (r := w.heap.size + 1) (a := nilV) (b := nilV) (c := nilV) (by simp)
  clear hxl hxw ho hcu hk
  go_wp2
  refine bodyPost_ret (v := tenV (.slice b1 ls.length e1) (.slice b2 ds.length e2) (.slice b3 X.length e3)) (by simp [results, Tryz.results37, go_sem, t0, t1, t2]) rfl ?_
  have h2 := (R2.out.set3 (.slice b1 ls.length e1) (.slice b2 ds.length e2) (.slice b3 X.length e3)).sub (rows' := [(.slice b1 ls.length e1, ls), (.slice b2 ds.length e2, ds), (.slice b3 X.length e3, X)]) (List.Sublist.cons_cons _ (List.Sublist.cons_cons _ (List.Sublist.cons_cons _ (List.nil_sublist _))))
  exact ⟨_, _, _, ls, ds, X, rfl, HV.out, HT.out.1, h2.ownG, h2.cur, h2.kept⟩
set_option maxHeartbeats 1600000 in
/-- MakeTensor. -/
theorem make_ten {v : Value} {bts : List UInt8} {k p q : Int} {w : World} (n : Nat) (hn : n ≤ 1000) (hk : ringB k p q = true) (hr : Rd w.heap.size w v (bytes8 bts)) (hl : bts.length ≤ 1048576) :
    Calls Tryz.prog 7 #[v, .int .i64 n, ringV k p q] w fun e w' => ∃ l' d' x' L D X, e = .returned (tenV l' d' x') ∧ LabV 6 3 L D ∧ tensorB k p q L D X = true ∧ OwnG w' w.heap.size w'.heap.size [(l', L), (d', D), (x', X)] ∧ Below w.heap.size w w' := by
  have HR := Lib.hid hr
  have HL := Lib.hid hl
  have HK := Lib.hid hk
  have T0 := Lib.hid (Bx.two w (.int .i64 k) (.int .i64 p) (.int .i64 q) nilV nilV nilV 24 28)
  obtain ⟨a, cap, rfl, -⟩ := bytes_cell hr
  have T1 := Lib.hid (And.intro (T0.out.1.step (Below.drew (Below.refl _ _))) (T0.out.2.step (Below.drew (Below.refl _ _))))
  have HR1 := Lib.hid ((HR.out.below T1.out.1.bel (Nat.le_refl _)).mono T1.out.1.bel.size)
  clear hr hl hk
  obtain ⟨-, r0, r1, r2, -⟩ := T0.out.1
  go_enter Tryz.func7, Tryz.ntmps7
  go_wp2
  generalize hW : (w.alloc (.cells #[.int .i64 k, .int .i64 p, .int .i64 q] 24)).alloc (.cells #[nilV, nilV, nilV] 28) = w1 at T0 T1 HR1 r0 r1 r2 ⊢
  clear hW
  go_region_held3 (fun w' => w'.cell? ⟨w.heap.size, 0, none⟩ = some (.int .i64 k) ∧ w'.cell? ⟨w.heap.size, 1, none⟩ = some (.int .i64 p) ∧ w'.cell? ⟨w.heap.size, 2, none⟩ = some (.int .i64 q)) (first | exact ⟨r0, r1, r2⟩ | with_reducible exact ⟨x0, x1, x2⟩) (first
    | (go_at_call 36; refine (cur_at n hn HR1.out HL.out).mono ?_; rintro e w2 ⟨cb, rfl, hc, hb⟩; have HC := Lib.hid hc; have HB2 := Lib.hid hb; have T2 := Lib.hid (And.intro (T1.out.1.step hb) (T1.out.2.step hb)); clear hc hb r0 r1 r2; obtain ⟨-, r0, r1, r2, -⟩ := T2.out.1)
    | (go_at_call 37; refine (draw_ten (k := k) (p := p) (q := q) HK.out HC.out).mono ?_; rintro e w3 ⟨l', d', x', L, D, X, rfl, hv, ht, ho, -, hk⟩; have HB3 := Lib.hid (hk.below HB2.out HC.out.lo.1 HB2.out.size); have T3 := Lib.hid (And.intro (T1.out.1.step HB3.out) (T1.out.2.step HB3.out)); obtain ⟨a1, c1, rfl, -⟩ := ints_form ho.rows.1.rd; obtain ⟨a2, c2, rfl, -⟩ := ints_form ho.rows.2.1.rd; obtain ⟨a3, c3, rfl, -⟩ := ints_form ho.rows.2.2.rd; have HO := Lib.hid ho; have HVT := Lib.hid (And.intro hv ht); clear hv ht ho hk r0 r1 r2; obtain ⟨-, r0, r1, r2, -⟩ := T3.out.1; obtain ⟨-, t0, t1, t2, fr, -, -⟩ := T3.out.2; have f0 := fr 0; have f1 := fr 1; have f2 := fr 2; have x0 := set3_far (a := .slice a1 L.length c1) (b := .slice a2 D.length c2) (c := .slice a3 X.length c3) (show w.heap.size ≠ w.heap.size + 1 by omega) r0; have x1 := set3_far (a := .slice a1 L.length c1) (b := .slice a2 D.length c2) (c := .slice a3 X.length c3) (show w.heap.size ≠ w.heap.size + 1 by omega) r1; have x2 := set3_far (a := .slice a1 L.length c1) (b := .slice a2 D.length c2) (c := .slice a3 X.length c3) (show w.heap.size ≠ w.heap.size + 1 by omega) r2; clear fr))
  all_goals
    go_wp2
    refine bodyPost_ret (v := tenV (.slice a1 L.length c1) (.slice a2 D.length c2) (.slice a3 X.length c3)) (by simp [results, Tryz.results7, go_sem, t0, t1, t2]) rfl ?_
    exact ⟨_, _, _, L, D, X, rfl, HVT.out.1, HVT.out.2, (HO.out.set3 T2.out.2.lt _ _ _).wide T2.out.2.bel.size (by simp) (by simp), ((T3.out.2.bel.setCell (by simp) _).setCell (by simp) _).setCell (by simp) _⟩
end Go.Proofs.YtgbmacppgaopfabGreat
namespace Go.Proofs.YtgbmacppgaopfabGreat
set_option maxRecDepth 20000
open Go.RowKit

end Go.Proofs.YtgbmacppgaopfabGreat
