
/- The cursor of the drawn arguments: l01Byte, l01Below, l01Pick, l01Once. -/
import Derived.Test.YtgabcdploeledaaProg
import Derived.Lib.Hide
import Derived.Test.YtgabcdploeledaaLawKit
import Derived.Test.YtgabcdploeledaaRing
import Derived.WalkLawsBesides
import Derived.StillTailTactics
import Derived.Deep.QuietTactic
import Derived.BigQuiet
import Derived.IntWalk
namespace Go.Proofs.Ytgabcdploeledaa
set_option maxRecDepth 20000
open Go.RowKit

def bytes8 (bs : List UInt8) : List Value := bs.map fun b => .int .u8 (b.toNat : Int)
theorem bytes8_len (bs : List UInt8) : (bytes8 bs).length = bs.length := by simp [bytes8]
/-- Block cb holds a cursor over the bytes bs, at place i. -/
structure CurAt (w : World) (cb B : Nat) (v : Value) (bs : List UInt8) (i : Nat) (h : Int) : Prop where
  c0 : w.cell? ⟨cb, 0, none⟩ = some v
  c1 : w.cell? ⟨cb, 1, none⟩ = some (.int .i64 i)
  c2 : w.cell? ⟨cb, 2, none⟩ = some (.int .i64 h)
  hi : i ≤ bs.length
  h1 : -9223372036854775808 ≤ h
  h2 : h ≤ 9223372036854775807
  f1 : w.frozen? ⟨cb, 1, none⟩ = false
  f2 : w.frozen? ⟨cb, 2, none⟩ = false
  hB : B ≤ cb
  hs : cb < w.heap.size
  rd : Rd B w v (bytes8 bs)
  len : bs.length ≤ 1048576
theorem CurAt.set1 {w : World} {cb B : Nat} {v : Value} {bs : List UInt8} {i i' : Nat} {h : Int} (c : CurAt w cb B v bs i h) (hi : i' ≤ bs.length) : CurAt (w.setCell ⟨cb, 1, none⟩ (.int .i64 i')) cb B v bs i' h :=
  ⟨(World.cell?_setCell_other _ _ _ _ (by simp)).trans c.c0, World.cell?_setCell_same _ _ _ c.c1, (World.cell?_setCell_other _ _ _ _ (by simp)).trans c.c2, hi, c.h1, c.h2, by simpa using c.f1, by simpa using c.f2, c.hB, by simpa using c.hs,
    c.rd.below (B' := B) ((Below.refl _ _).setCell (p := ⟨cb, 1, none⟩) c.hB _) (Nat.le_refl _), c.len⟩
theorem CurAt.set2 {w : World} {cb B : Nat} {v : Value} {bs : List UInt8} {i : Nat} {h h' : Int} (c : CurAt w cb B v bs i h) (h1 : -9223372036854775808 ≤ h') (h2 : h' ≤ 9223372036854775807) : CurAt (w.setCell ⟨cb, 2, none⟩ (.int .i64 h')) cb B v bs i h' :=
  ⟨(World.cell?_setCell_other _ _ _ _ (by simp)).trans c.c0, (World.cell?_setCell_other _ _ _ _ (by simp)).trans c.c1, World.cell?_setCell_same _ _ _ c.c2, c.hi, h1, h2, by simpa using c.f1, by simpa using c.f2, c.hB, by simpa using c.hs,
    c.rd.below (B' := B) ((Below.refl _ _).setCell (p := ⟨cb, 2, none⟩) c.hB _) (Nat.le_refl _), c.len⟩
theorem cur_heap {w w1 : World} (hh : w1.heap = w.heap) (a : Addr) : w1.cell? a = w.cell? a := World.cell?_of_block (w := w) (by rw [hh])
theorem CurAt.heap {w w1 : World} {cb B : Nat} {v : Value} {bs : List UInt8} {i : Nat} {h : Int} (c : CurAt w cb B v bs i h) (hh : w1.heap = w.heap) : CurAt w1 cb B v bs i h :=
  ⟨(cur_heap hh _).trans c.c0, (cur_heap hh _).trans c.c1, (cur_heap hh _).trans c.c2, c.hi, c.h1, c.h2, (World.frozen?_of_block (w := w) (by rw [hh])).trans c.f1, (World.frozen?_of_block (w := w) (by rw [hh])).trans c.f2, c.hB, by rw [hh]; exact c.hs, by
    rcases c.rd with h | ⟨b, off, cap, hv, hlt, hcp, hc⟩
    · exact .inl h
    · exact .inr ⟨b, off, cap, hv, hlt, hcp, fun i u hi => (cur_heap hh _).trans (hc i u hi)⟩, c.len⟩
/-- Some cursor over the bytes bs in block cb. -/
def CurOk (w : World) (cb B : Nat) (v : Value) (bs : List UInt8) : Prop := ∃ i h, CurAt w cb B v bs i h
theorem KeptOut.set (w : World) (cb o : Nat) (u : Value) : KeptOut w (w.setCell ⟨cb, o, none⟩ u) cb (cb + 1) := by
  have hb := (Below.refl w.heap.size w)
  refine ⟨rfl, rfl, rfl, by simp, fun b _ hx => ?_⟩
  exact Below.heap_setCell w ⟨cb, o, none⟩ u b (fun e => by simp at e; omega)
theorem KeptOut.heap {w w1 : World} {q : Nat} (lo hi : Nat) (hw : w1 = w.drewN q) : KeptOut w w1 lo hi := by
  subst hw
  exact ⟨rfl, rfl, rfl, Nat.le_refl _, fun _ _ _ => rfl⟩
/-- What a reading of the cursor answers. -/
def CurPost (m : Nat) (cb B : Nat) (v : Value) (bs : List UInt8) (w : World) (e : Ending) (w' : World) : Prop := ∃ x : Nat, e = .returned (.int .i64 x) ∧ x ≤ m ∧ CurOk w' cb B v bs ∧ KeptOut w w' cb (cb + 1)
theorem bytes_cell {w : World} {B : Nat} {v : Value} {bs : List UInt8} (h : Rd B w v (bytes8 bs)) : ∃ a cap, v = .slice a bs.length cap ∧ ∀ i (_ : i < bs.length), ∃ b off, ∃ x : Nat, a = some ⟨b, off, none⟩ ∧ b < B ∧ x ≤ 255 ∧ w.cell? ⟨b, off + i, none⟩ = some (.int .u8 (x : Int)) := by
  rcases h with ⟨h0, a, cap, rfl⟩ | ⟨b, off, cap, rfl, hbB, _, hc⟩
  · have e : bs = [] := by simpa [bytes8] using h0
    subst e
    exact ⟨a, cap, rfl, fun i hi => by simp at hi⟩
  · refine ⟨_, cap, by rw [bytes8_len], fun i hi => ⟨b, off, bs[i].toNat, rfl, hbB, ?_, hc i _ (by simp [bytes8, hi])⟩⟩
    have := UInt8.toNat_lt bs[i]
    omega
theorem and_mask (z : Int) (m : Nat) (hm : m ≤ 30) : 0 ≤ bits .and .i64 z ((2 ^ m - 1 : Nat) : Int) ∧ bits .and .i64 z ((2 ^ m - 1 : Nat) : Int) < ((2 ^ m : Nat) : Int) := by
  have hp : 2 ^ m ≤ 2 ^ 30 := Nat.pow_le_pow_right (by omega) hm
  have h0 : 0 < 2 ^ m := Nat.two_pow_pos m
  have hb : (BitVec.ofInt 64 ((2 ^ m - 1 : Nat) : Int)).toNat = 2 ^ m - 1 := by rw [BitVec.ofInt_natCast, BitVec.toNat_ofNat]; exact Nat.mod_eq_of_lt (by omega)
  have e : bits .and .i64 z ((2 ^ m - 1 : Nat) : Int) = IntKind.i64.wrap (((BitVec.ofInt 64 z).toNat &&& (2 ^ m - 1) : Nat) : Int) := by
    show IntKind.i64.wrap ((BitVec.ofInt 64 z &&& BitVec.ofInt 64 ((2 ^ m - 1 : Nat) : Int)).toNat : Int) = _
    rw [BitVec.toNat_and, hb]
  rw [e, Nat.and_two_pow_sub_one_eq_mod]
  have h1 := Nat.mod_lt (BitVec.ofInt 64 z).toNat h0
  have h2 : ((((BitVec.ofInt 64 z).toNat % 2 ^ m : Nat)) : Int) < ((2 ^ m : Nat) : Int) := by omega
  generalize (BitVec.ofInt 64 z).toNat % 2 ^ m = q at h1 h2
  have h3 : IntKind.i64.wrap ((q : Nat) : Int) = (q : Int) := by
    simp [IntKind.wrap, IntKind.bits, IntKind.signed]; omega
  rw [h3]
  omega
theorem and_255 (z : Int) : 0 ≤ bits .and .i64 z 255 ∧ bits .and .i64 z 255 ≤ 255 := by
  have := and_mask z 8 (by omega)
  have e : ((2 ^ 8 - 1 : Nat) : Int) = 255 := rfl
  rw [e] at this
  have e2 : ((2 ^ 8 : Nat) : Int) = 256 := rfl
  omega

theorem wrap64_range (n : Int) : -9223372036854775808 ≤ wrap64 n ∧ wrap64 n ≤ 9223372036854775807 := by unfold wrap64; omega

set_option maxHeartbeats 1600000 in
set_option maxRecDepth 100000 in
theorem cur_byte {cb B : Nat} {v : Value} {bs : List UInt8} {w : World} (hc : CurOk w cb B v bs) :
    Calls Try.prog 155 #[.pointer (some ⟨cb, 0, none⟩)] w (CurPost 255 cb B v bs w) := by
  obtain ⟨i, h, hc⟩ := hc
  obtain ⟨a, cap, rfl, hbytes⟩ := bytes_cell hc.rd
  have HB := Lib.hid hbytes
  have HC := Lib.hid hc
  have c0 := hc.c0
  have c1 := hc.c1
  have c2 := hc.c2
  have f1 := hc.f1
  have f2 := hc.f2
  have hi := hc.hi
  have hl := hc.len
  clear hc hbytes
  obtain ⟨len, hlen⟩ : ∃ len, len = bs.length := ⟨_, rfl⟩
  rw [← hlen] at c0 hi hl HC ⊢
  have HL := Lib.hid hlen
  clear hlen
  go_enter Try.func155, Try.ntmps155
  go_wp2
  obtain ⟨h', hh⟩ : ∃ h', h' = wrap64 (wrap64 (h * 6364136223846793005) + 1442695040888963407) := ⟨_, rfl⟩
  rw [← hh]
  have hr : -9223372036854775808 ≤ h' ∧ h' ≤ 9223372036854775807 := by rw [hh]; exact wrap64_range _
  have HC1 := Lib.hid (HC.out.set2 hr.1 hr.2)
  have K1 := Lib.hid (KeptOut.set w cb 2 (.int .i64 h'))
  obtain ⟨w1, hw1⟩ : ∃ w1, w1 = w.setCell ⟨cb, 2, none⟩ (.int .i64 h') := ⟨_, rfl⟩
  have d0 := HC1.out.c0
  have d1 := HC1.out.c1
  have d2 := HC1.out.c2
  have g1 := HC1.out.f1
  rw [← hw1] at HC1 K1 d0 d1 d2 g1 ⊢
  have HW := Lib.hid hw1
  clear hh hw1 c0 c1 c2 f1 f2
  go_quiet (fail)
  obtain ⟨z, hz⟩ : ∃ z, z = bits .and .i64 (bits .xor .i64 (h' / 8589934592) (h' / 35184372088832)) 255 := ⟨_, rfl⟩
  rw [← hz]
  have hzr : 0 ≤ z ∧ z ≤ 255 := by rw [hz]; exact and_255 _
  obtain ⟨x, rfl⟩ := Int.eq_ofNat_of_zero_le hzr.1
  clear hz
  generalize hw2 : w1.drewN nq = w2
  have HC2 := Lib.hid (HC1.out.heap (w1 := w2) (by rw [← hw2]; rfl))
  have K2 := Lib.hid (K1.out.trans (KeptOut.heap cb (cb + 1) hw2.symm))
  have d0 := HC2.out.c0
  have d1 := HC2.out.c1
  have g1 := HC2.out.f1
  clear hw2 HC1 K1
  go_wp2
  go_quiet (fail)
  generalize hw3 : w2.drewN nq = w3
  have HC3 := Lib.hid (HC2.out.heap (w1 := w3) (by rw [← hw3]; rfl))
  have K3 := Lib.hid (K2.out.trans (KeptOut.heap cb (cb + 1) hw3.symm))
  have d0 := HC3.out.c0
  have d1 := HC3.out.c1
  have g1 := HC3.out.f1
  clear hw3 HC2 K2
  by_cases hlt : i < len
  · obtain ⟨b, off, y, rfl, hbB, hy, hcell⟩ := HB.out i (by rw [← HL.out]; exact hlt)
    have hbw : w3.cell? ⟨b, off + i, none⟩ = some (.int .u8 (y : Int)) := (K3.out.cell hcell (by have := HC.out.hB; have := HC.out.hs; omega) (.inl (by have := HC.out.hB; omega)))
    have g1 := HC3.out.f1
    obtain ⟨u, hu⟩ : ∃ u, u = bits .and .i64 ((x : Int) + (y : Int)) 255 := ⟨_, rfl⟩
    have hur : 0 ≤ u ∧ u ≤ 255 := by rw [hu]; exact and_255 _
    obtain ⟨t, rfl⟩ := Int.eq_ofNat_of_zero_le hur.1
    have HU := Lib.hid hu
    clear hcell hu
    go_wp2
    go_quiet (fail)
    rw [← HU.out]
    generalize hw4 : w3.drewN nq = w4
    have HC4 := Lib.hid (HC3.out.heap (w1 := w4) (by rw [← hw4]; rfl))
    have K4 := Lib.hid (K3.out.trans (KeptOut.heap cb (cb + 1) hw4.symm))
    have d0 := HC4.out.c0
    have d1 := HC4.out.c1
    have g1 := HC4.out.f1
    have HC5 := Lib.hid (HC4.out.set1 (i' := i + 1) (by rw [← HL.out]; omega))
    have K5 := Lib.hid (K4.out.trans (KeptOut.set w4 cb 1 (.int .i64 ((i + 1 : Nat) : Int))))
    clear hw4 HC3 K3
    go_wp2
    go_ret
    exact ⟨t, rfl, by omega, ⟨i + 1, h', HC5.out⟩, K5.out⟩
  · go_wp2
    go_ret
    exact ⟨x, rfl, by omega, ⟨i, h', HC3.out⟩, K3.out⟩

set_option maxHeartbeats 400000 in
theorem cur_below {cb B : Nat} {v : Value} {bs : List UInt8} {w : World} (n : Nat) (hn : 0 < n) (hn2 : n ≤ 256) (hc : CurOk w cb B v bs) :
    Calls Try.prog 129 #[.pointer (some ⟨cb, 0, none⟩), .int .i64 n] w (CurPost (n - 1) cb B v bs w) := by
  have HC := Lib.hid hc
  clear hc
  go_enter Try.func129, Try.ntmps129
  go_wp2_with fail
  refine (cur_byte HC.out).mono ?_
  rintro e w1 ⟨x, rfl, hx, h1, k1⟩
  have H1 := Lib.hid h1
  have K1 := Lib.hid k1
  have hr : x % n < n := Nat.mod_lt _ hn
  clear h1 k1
  go_wp2
  go_ret
  exact ⟨x % n, by simp, by omega, H1.out, K1.out⟩
set_option maxHeartbeats 400000 in
/-- l01Pick: a place of the list, which is in memory of the caller. -/
theorem cur_pick {cb B p m cap : Nat} {v : Value} {bs : List UInt8} {w : World} {zs : List Int} (hm : zs.length = m) (h0 : 0 < m) (h256 : m ≤ 256) (hc : CurOk w cb B v bs) (hp : p ≠ cb) (hps : p < w.heap.size) (hz : ∀ i (h : i < zs.length), w.cell? ⟨p, i, none⟩ = some (.int .i64 zs[i])) :
    Calls Try.prog 130 #[.pointer (some ⟨cb, 0, none⟩), .slice (some ⟨p, 0, none⟩) m cap] w fun e w' => ∃ z, e = .returned (.int .i64 z) ∧ z ∈ zs ∧ CurOk w' cb B v bs ∧ KeptOut w w' cb (cb + 1) := by
  have HC := Lib.hid hc
  have HZ := Lib.hid hz
  have HM := Lib.hid hm
  clear hc hz hm
  go_enter Try.func130, Try.ntmps130
  go_wp2_with fail
  refine (cur_below m h0 h256 HC.out).mono ?_
  rintro e w1 ⟨x, rfl, hx, h1, k1⟩
  have H1 := Lib.hid h1
  have K1 := Lib.hid k1
  have hxm : x < m := by omega
  have hx2 : x < zs.length := by rw [HM.out]; exact hxm
  have hcell : w1.cell? ⟨p, x, none⟩ = some (.int .i64 (zs[x]'hx2)) := k1.cell (HZ.out x hx2) hps (by omega)
  obtain ⟨z, hz⟩ : ∃ z, z = zs[x]'hx2 := ⟨_, rfl⟩
  rw [← hz] at hcell
  have HMEM := Lib.hid (show z ∈ zs by rw [hz]; exact List.getElem_mem _)
  clear h1 k1 hz hx2
  go_wp2
  go_ret
  exact ⟨z, rfl, HMEM.out, H1.out, K1.out⟩

theorem and_30 (z : Int) : 0 ≤ bits .and .i64 z 1073741823 ∧ bits .and .i64 z 1073741823 ≤ 1073741823 := by
  have := and_mask z 30 (by omega)
  have e : ((2 ^ 30 - 1 : Nat) : Int) = 1073741823 := rfl
  rw [e] at this
  have e2 : ((2 ^ 30 : Nat) : Int) = 1073741824 := rfl
  omega
/-- What a function that makes a cursor answers. -/
def NewCur (v : Value) (bs : List UInt8) (w : World) (e : Ending) (w' : World) : Prop := ∃ cb, e = .returned (.pointer (some ⟨cb, 0, none⟩)) ∧ CurOk w' cb w.heap.size v bs ∧ Below w.heap.size w w'
set_option maxHeartbeats 800000 in
set_option maxRecDepth 100000 in
theorem cur_new {v : Value} {bs : List UInt8} {w : World} (hr : Rd w.heap.size w v (bytes8 bs)) (hl : bs.length ≤ 1048576) :
    Calls Try.prog 131 #[v] w (NewCur v bs w) := by
  obtain ⟨a, cap, rfl, hbytes⟩ := bytes_cell hr
  have HB := Lib.hid hbytes
  have HR := Lib.hid hr
  obtain ⟨len, hlen⟩ : ∃ len, len = bs.length := ⟨_, rfl⟩
  rw [← hlen] at hl HR ⊢
  have HL := Lib.hid hlen
  clear hr hbytes hlen
  go_enter Try.func131, Try.ntmps131
  go_wp2
  go_loop [3, 4] (fun u i => ∃ (h k : Nat), i = .int .i64 k ∧ u = .int .i64 h ∧ k ≤ len ∧ k ≤ 4000 ∧ h ≤ 1073741824) (fun _ i => 4000 - (intOf i).toNat)
  case atStart => exact ⟨55127 + len, 0, rfl, by go_num, by omega, by omega, by omega⟩
  case round =>
    obtain ⟨h, k, rfl, rfl, hk, hk2, hh⟩ := hrel
    by_cases h1 : k < len
    · by_cases h2 : k < 4000
      · obtain ⟨b, off, y, rfl, hbB, hy, hcell⟩ := HB.out k (by rw [← HL.out]; exact h1)
        obtain ⟨u, hu⟩ : ∃ u, u = bits .and .i64 ((h : Int) * 131 + (y : Int) + 7) 1073741823 := ⟨_, rfl⟩
        have hur : 0 ≤ u ∧ u ≤ 1073741823 := by rw [hu]; exact and_30 _
        obtain ⟨t, rfl⟩ := Int.eq_ofNat_of_zero_le hur.1
        have HU := Lib.hid hu
        clear hu
        go_wp2
        go_round
        case rel => exact ⟨t, k + 1, by go_num, by rw [HU.out], by omega, by omega, by omega⟩
        case measure => simp [intOf]; omega
      · have h3 : decide (k < 4000) = false := by simp; omega
        go_wp2
        go_ret
        exact ⟨w.heap.size, rfl, ⟨0, h, ⟨by simp, by simp, by simp, by omega, by omega, by omega, by simp, by simp, Nat.le_refl _, by simp, HR.out.below ((Below.refl _ _).alloc (Nat.le_refl _) _) (Nat.le_refl _), by rw [← HL.out]; exact hl⟩⟩, (Below.refl _ _).alloc (Nat.le_refl _) _⟩
    · go_wp2
      go_ret
      exact ⟨w.heap.size, rfl, ⟨0, h, ⟨by simp, by simp, by simp, by omega, by omega, by omega, by simp, by simp, Nat.le_refl _, by simp, HR.out.below ((Below.refl _ _).alloc (Nat.le_refl _) _) (Nat.le_refl _), by rw [← HL.out]; exact hl⟩⟩, (Below.refl _ _).alloc (Nat.le_refl _) _⟩
set_option maxHeartbeats 800000 in
set_option maxRecDepth 100000 in
theorem cur_at {v : Value} {bs : List UInt8} {w : World} (n : Nat) (hn : n ≤ 1000) (hr : Rd w.heap.size w v (bytes8 bs)) (hl : bs.length ≤ 1048576) :
    Calls Try.prog 81 #[v, .int .i64 n] w (NewCur v bs w) := by
  obtain ⟨a, cap, rfl, -⟩ := bytes_cell hr
  have HR := Lib.hid hr
  obtain ⟨len, hlen⟩ : ∃ len, len = bs.length := ⟨_, rfl⟩
  rw [← hlen] at HR ⊢
  have hl2 : len ≤ 1048576 := by omega
  have HL := Lib.hid hlen
  have HLL := Lib.hid hl
  clear hr hlen hl
  go_enter Try.func81, Try.ntmps81
  go_wp2_with fail
  refine (cur_new HR.out HLL.out).mono ?_
  rintro e w1 ⟨cb, rfl, ⟨i, h, hc⟩, hb1⟩
  have HC1 := Lib.hid hc
  have HB1 := Lib.hid hb1
  have c1 := hc.c1
  have c2 := hc.c2
  have f1 := hc.f1
  have f2 := hc.f2
  have hcb := hc.hB
  clear hc hb1
  by_cases hmin : len < n
  · have hm2 : decide (len < n) = true := by simpa using hmin
    have HC2 := Lib.hid (HC1.out.set1 (i' := len) (by rw [← HL.out]; omega))
    obtain ⟨hv, hhv⟩ : ∃ u, u = bits .and .i64 (wrap64 (wrap64 (wrap64 (h * 31) + (n : Int) * 7919) + 1)) 1073741823 := ⟨_, rfl⟩
    have hur : 0 ≤ hv ∧ hv ≤ 1073741823 := by rw [hhv]; exact and_30 _
    have HC3 := Lib.hid (HC2.out.set2 (h' := hv) (by omega) (by omega))
    have B3 := Lib.hid ((HB1.out.setCell (p := ⟨cb, 1, none⟩) hcb (.int .i64 ((len : Nat) : Int))).setCell (p := ⟨cb, 2, none⟩) hcb (.int .i64 hv))
    have HHV := Lib.hid hhv
    clear hhv
    go_wp2
    rw [← HHV.out]
    go_ret
    exact ⟨cb, rfl, ⟨_, _, HC3.out⟩, B3.out⟩
  · have hm2 : decide (len < n) = false := by simpa using hmin
    have HC2 := Lib.hid (HC1.out.set1 (i' := n) (by rw [← HL.out]; omega))
    obtain ⟨hv, hhv⟩ : ∃ u, u = bits .and .i64 (wrap64 (wrap64 (wrap64 (h * 31) + (n : Int) * 7919) + 1)) 1073741823 := ⟨_, rfl⟩
    have hur : 0 ≤ hv ∧ hv ≤ 1073741823 := by rw [hhv]; exact and_30 _
    have HC3 := Lib.hid (HC2.out.set2 (h' := hv) (by omega) (by omega))
    have B3 := Lib.hid ((HB1.out.setCell (p := ⟨cb, 1, none⟩) hcb (.int .i64 ((n : Nat) : Int))).setCell (p := ⟨cb, 2, none⟩) hcb (.int .i64 hv))
    have HHV := Lib.hid hhv
    clear hhv
    go_wp2
    rw [← HHV.out]
    go_ret
    exact ⟨cb, rfl, ⟨_, _, HC3.out⟩, B3.out⟩

end Go.Proofs.Ytgabcdploeledaa
