
/- The cursor of the drawn arguments: l01Byte, l01Below, l01Pick, l01Once. -/
import Derived.Test.YtgbmacppgaopfaaProg
import Derived.Lib.Hide
import Derived.Test.YtgbmacppgaopfaaLawKit
import Derived.Test.YtgbmacppgaopfaaRing
import Derived.WalkLawsBesides
import Derived.StillTailTactics
import Derived.Deep.QuietTactic
import Derived.BigQuiet
import Derived.IntWalk
import Derived.Test.YtgbmacppgaopfaaElem
import Derived.Deep.Onto
import Derived.Test.YtgbmacppgaopfaaZero
import Derived.Test.YtgbmacppgaopfaaPow2
import Derived.Test.YtgbmacppgaopfaaPlusSpec
import Derived.Deep.RegionHeld3
import Derived.Test.YtgbmacppgaopfaaRs
import Derived.Test.YtgbmacppgaopfaaPermSpec
namespace Go.Proofs.Ytgbmacppgaopfaa
set_option maxRecDepth 20000
open Go.RowKit

def bytes8 (bs : List UInt8) : List Value := bs.map fun b => .int .u8 (b.toNat : Int)
theorem bytes8_len (bs : List UInt8) : (bytes8 bs).length = bs.length := by simp [bytes8]
/-- Block cb holds a cursor over the bytes bs, at place i. -/
structure CurAt (w : World) (cb B : Nat) (v : Value) (bs : List UInt8) (i : Nat) (h : Int) : Prop where
  c0 : w.cell? ⟨cb, 0, none⟩ = some v
  c1 : w.cell? ⟨cb, 1, none⟩ = some (.int .i64 i)
  c2 : w.cell? ⟨cb, 2, none⟩ = some (.int .i64 h)
  hi : i ≤ bs.length
  h1 : -9223372036854775808 ≤ h
  h2 : h ≤ 9223372036854775807
  f1 : w.frozen? ⟨cb, 1, none⟩ = false
  f2 : w.frozen? ⟨cb, 2, none⟩ = false
  hB : B ≤ cb
  hs : cb < w.heap.size
  rd : Rd B w v (bytes8 bs)
  len : bs.length ≤ 1048576
theorem CurAt.set1 {w : World} {cb B : Nat} {v : Value} {bs : List UInt8} {i i' : Nat} {h : Int} (c : CurAt w cb B v bs i h) (hi : i' ≤ bs.length) : CurAt (w.setCell ⟨cb, 1, none⟩ (.int .i64 i')) cb B v bs i' h :=
  ⟨(World.cell?_setCell_other _ _ _ _ (by simp)).trans c.c0, World.cell?_setCell_same _ _ _ c.c1, (World.cell?_setCell_other _ _ _ _ (by simp)).trans c.c2, hi, c.h1, c.h2, by simpa using c.f1, by simpa using c.f2, c.hB, by simpa using c.hs,
    c.rd.below (B' := B) ((Below.refl _ _).setCell (p := ⟨cb, 1, none⟩) c.hB _) (Nat.le_refl _), c.len⟩
theorem CurAt.set2 {w : World} {cb B : Nat} {v : Value} {bs : List UInt8} {i : Nat} {h h' : Int} (c : CurAt w cb B v bs i h) (h1 : -9223372036854775808 ≤ h') (h2 : h' ≤ 9223372036854775807) : CurAt (w.setCell ⟨cb, 2, none⟩ (.int .i64 h')) cb B v bs i h' :=
  ⟨(World.cell?_setCell_other _ _ _ _ (by simp)).trans c.c0, (World.cell?_setCell_other _ _ _ _ (by simp)).trans c.c1, World.cell?_setCell_same _ _ _ c.c2, c.hi, h1, h2, by simpa using c.f1, by simpa using c.f2, c.hB, by simpa using c.hs,
    c.rd.below (B' := B) ((Below.refl _ _).setCell (p := ⟨cb, 2, none⟩) c.hB _) (Nat.le_refl _), c.len⟩
theorem cur_heap {w w1 : World} (hh : w1.heap = w.heap) (a : Addr) : w1.cell? a = w.cell? a := World.cell?_of_block (w := w) (by rw [hh])
theorem CurAt.heap {w w1 : World} {cb B : Nat} {v : Value} {bs : List UInt8} {i : Nat} {h : Int} (c : CurAt w cb B v bs i h) (hh : w1.heap = w.heap) : CurAt w1 cb B v bs i h :=
  ⟨(cur_heap hh _).trans c.c0, (cur_heap hh _).trans c.c1, (cur_heap hh _).trans c.c2, c.hi, c.h1, c.h2, (World.frozen?_of_block (w := w) (by rw [hh])).trans c.f1, (World.frozen?_of_block (w := w) (by rw [hh])).trans c.f2, c.hB, by rw [hh]; exact c.hs, by
    rcases c.rd with h | ⟨b, off, cap, hv, hlt, hcp, hc⟩
    · exact .inl h
    · exact .inr ⟨b, off, cap, hv, hlt, hcp, fun i u hi => (cur_heap hh _).trans (hc i u hi)⟩, c.len⟩
/-- Some cursor over the bytes bs in block cb. -/
def CurOk (w : World) (cb B : Nat) (v : Value) (bs : List UInt8) : Prop := ∃ i h, CurAt w cb B v bs i h
theorem KeptOut.set (w : World) (cb o : Nat) (u : Value) : KeptOut w (w.setCell ⟨cb, o, none⟩ u) cb (cb + 1) := by
  have hb := (Below.refl w.heap.size w)
  refine ⟨rfl, rfl, rfl, by simp, fun b _ hx => ?_⟩
  exact Below.heap_setCell w ⟨cb, o, none⟩ u b (fun e => by simp at e; omega)
theorem KeptOut.heap {w w1 : World} {q : Nat} (lo hi : Nat) (hw : w1 = w.drewN q) : KeptOut w w1 lo hi := by
  subst hw
  exact ⟨rfl, rfl, rfl, Nat.le_refl _, fun _ _ _ => rfl⟩
/-- What a reading of the cursor answers. -/
def CurPost (m : Nat) (cb B : Nat) (v : Value) (bs : List UInt8) (w : World) (e : Ending) (w' : World) : Prop := ∃ x : Nat, e = .returned (.int .i64 x) ∧ x ≤ m ∧ CurOk w' cb B v bs ∧ KeptOut w w' cb (cb + 1)
theorem bytes_cell {w : World} {B : Nat} {v : Value} {bs : List UInt8} (h : Rd B w v (bytes8 bs)) : ∃ a cap, v = .slice a bs.length cap ∧ ∀ i (_ : i < bs.length), ∃ b off, ∃ x : Nat, a = some ⟨b, off, none⟩ ∧ b < B ∧ x ≤ 255 ∧ w.cell? ⟨b, off + i, none⟩ = some (.int .u8 (x : Int)) := by
  rcases h with ⟨h0, a, cap, rfl⟩ | ⟨b, off, cap, rfl, hbB, _, hc⟩
  · have e : bs = [] := by simpa [bytes8] using h0
    subst e
    exact ⟨a, cap, rfl, fun i hi => by simp at hi⟩
  · refine ⟨_, cap, by rw [bytes8_len], fun i hi => ⟨b, off, bs[i].toNat, rfl, hbB, ?_, hc i _ (by simp [bytes8, hi])⟩⟩
    have := UInt8.toNat_lt bs[i]
    omega
theorem and_mask (z : Int) (m : Nat) (hm : m ≤ 30) : 0 ≤ bits .and .i64 z ((2 ^ m - 1 : Nat) : Int) ∧ bits .and .i64 z ((2 ^ m - 1 : Nat) : Int) < ((2 ^ m : Nat) : Int) := by
  have hp : 2 ^ m ≤ 2 ^ 30 := Nat.pow_le_pow_right (by omega) hm
  have h0 : 0 < 2 ^ m := Nat.two_pow_pos m
  have hb : (BitVec.ofInt 64 ((2 ^ m - 1 : Nat) : Int)).toNat = 2 ^ m - 1 := by rw [BitVec.ofInt_natCast, BitVec.toNat_ofNat]; exact Nat.mod_eq_of_lt (by omega)
  have e : bits .and .i64 z ((2 ^ m - 1 : Nat) : Int) = IntKind.i64.wrap (((BitVec.ofInt 64 z).toNat &&& (2 ^ m - 1) : Nat) : Int) := by
    show IntKind.i64.wrap ((BitVec.ofInt 64 z &&& BitVec.ofInt 64 ((2 ^ m - 1 : Nat) : Int)).toNat : Int) = _
    rw [BitVec.toNat_and, hb]
  rw [e, Nat.and_two_pow_sub_one_eq_mod]
  have h1 := Nat.mod_lt (BitVec.ofInt 64 z).toNat h0
  have h2 : ((((BitVec.ofInt 64 z).toNat % 2 ^ m : Nat)) : Int) < ((2 ^ m : Nat) : Int) := by omega
  generalize (BitVec.ofInt 64 z).toNat % 2 ^ m = q at h1 h2
  have h3 : IntKind.i64.wrap ((q : Nat) : Int) = (q : Int) := by
    simp [IntKind.wrap, IntKind.bits, IntKind.signed]; omega
  rw [h3]
  omega
theorem and_255 (z : Int) : 0 ≤ bits .and .i64 z 255 ∧ bits .and .i64 z 255 ≤ 255 := by
  have := and_mask z 8 (by omega)
  have e : ((2 ^ 8 - 1 : Nat) : Int) = 255 := rfl
  rw [e] at this
  have e2 : ((2 ^ 8 : Nat) : Int) = 256 := rfl
  omega

theorem wrap64_range (n : Int) : -9223372036854775808 ≤ wrap64 n ∧ wrap64 n ≤ 9223372036854775807 := by unfold wrap64; omega

theorem and_30 (z : Int) : 0 ≤ bits .and .i64 z 1073741823 ∧ bits .and .i64 z 1073741823 ≤ 1073741823 := by
  have := and_mask z 30 (by omega)
  have e : ((2 ^ 30 - 1 : Nat) : Int) = 1073741823 := rfl
  rw [e] at this
  have e2 : ((2 ^ 30 : Nat) : Int) = 1073741824 := rfl
  omega
/-- What a function that makes a cursor answers. -/
def NewCur (v : Value) (bs : List UInt8) (w : World) (e : Ending) (w' : World) : Prop := ∃ cb, e = .returned (.pointer (some ⟨cb, 0, none⟩)) ∧ CurOk w' cb w.heap.size v bs ∧ Below w.heap.size w w'
end Go.Proofs.Ytgbmacppgaopfaa
namespace Go.Proofs.Ytgbmacppgaopfaa
set_option maxRecDepth 20000
open Go.RowKit

theorem infoRow : (Try.prog.info? 25).map (fun i => (i.zero, i.size, i.bytes)) = some (some (.slice none 0 0), 1, 24) := by kernel_rfl
def totL (rows : List (List Int)) : Nat := (rows.map List.length).sum
theorem tot_step {rows : List (List Int)} {i : Nat} {xs : List Int} (h : rows[i]? = some xs) : totL (rows.take (i + 1)) = totL (rows.take i) + xs.length := by
  rw [List.take_add_one, h]; simp [totL]
theorem tot_le (rows : List (List Int)) (i : Nat) : totL (rows.take i) ≤ totL rows := by
  have e : totL rows = totL (rows.take i) + totL (rows.drop i) := by
    unfold totL
    rw [← List.sum_append_nat, ← List.map_append, List.take_append_drop]
  omega
theorem tot_at {rows : List (List Int)} {i : Nat} {xs : List Int} (h : rows[i]? = some xs) : xs.length ≤ totL rows := by
  have h1 := tot_step h
  have h2 := tot_le rows (i + 1)
  omega
theorem tot_all {rows : List (List Int)} {n : Nat} (h : rows.length ≤ n) : totL (rows.take n) = totL rows := by rw [List.take_of_length_le h]

set_option maxHeartbeats 400000 in
theorem sz_row (a : Option Addr) (n c : Nat) (left : Int) (w : World) (hl : -1 ≤ left) (hl2 : left ≤ 281474976710656) (hn : n ≤ 281474976710656) :
    Calls Try.prog 57 #[.slice a n c, .int .i64 left] w fun e w' => e = .returned (.int .i64 (if left < n then -1 else left - n)) ∧ w = w' := by
  by_cases h : left < n
  · rw [if_pos h]
    have h2 : left - n < 0 := by omega
    go_enter Try.func57, Try.ntmps57
    go_wp2
    go_ret
    exact ⟨rfl, rfl⟩
  · rw [if_neg h]
    have h2 : 0 ≤ left - n := by omega
    have h3 : decide (left - n < 0) = false := by simp; omega
    go_enter Try.func57, Try.ntmps57
    go_wp2
    go_ret
    exact ⟨rfl, rfl⟩
/-- What the size of rows answers. -/
def SzPost (left : Int) (rows : List (List Int)) (w : World) (e : Ending) (w' : World) : Prop := ∃ r : Int, e = .returned (.int .i64 r) ∧ w = w' ∧ -1 ≤ r ∧ r ≤ left ∧ (0 ≤ r → (rows.length : Int) + totL rows ≤ left)
theorem SzPost.neg {left : Int} {rows : List (List Int)} {w : World} (h : 0 ≤ left) : SzPost left rows w (.returned (.int .i64 (-1))) w := ⟨-1, rfl, rfl, by omega, by omega, fun h => by omega⟩
theorem KeptOut.own {w w1 : World} {lo hi lo' hi' : Nat} {v : Value} {xs : List Int} (h : KeptOut w w1 lo hi) (ho : Own w lo' hi' v xs) (hd : hi' ≤ lo ∨ hi ≤ lo') : Own w1 lo' hi' v xs := by
  refine ⟨?_, ho.2.1, Nat.le_trans ho.2.2 h.2.2.2.1⟩
  have h1 := ho.1
  refine ⟨h1.1, ?_⟩
  rcases h1.2 with hn | ⟨g, cap, cur, hv, hg, hc, r⟩
  · exact .inl hn
  · refine .inr ⟨g, cap, cur, hv, hg, ?_, r⟩
    have hgi : g < hi' := ho.2.1 g (by rw [hv]; rfl)
    rw [h.2.2.2.2 g (by have := ho.2.2; omega) (by omega)]
    exact hc
theorem KeptOut.box {w w1 : World} {lo hi b : Nat} {k p n : Int} (h : KeptOut w w1 lo hi) (hx : BoxAt w b k p n) (hb : b < w.heap.size) (hd : b < lo ∨ hi ≤ b) : BoxAt w1 b k p n :=
  ⟨h.cell hx.1 hb hd, h.cell hx.2.1 hb hd, h.cell hx.2.2 hb hd⟩
theorem KeptOut.rows {w w1 : World} {lo hi B : Nat} {v : Value} {rows : List (List Int)} (h : KeptOut w w1 lo hi) (hr : RdRows B w v rows) (hB : B ≤ lo) (hs : B ≤ w.heap.size) : RdRows B w1 v rows := by
  obtain ⟨vs, h1, h2, h3⟩ := hr
  exact ⟨vs, h.rd h1 hB hs, h2, fun i hi => let ⟨u, e, hu⟩ := h3 i hi; ⟨u, e, h.rd hu hB hs⟩⟩

/-- Rows of the call's own: the outer row first, then row by row, each in blocks of its own. -/
def OwnRows (w : World) (lo hi : Nat) (v : Value) (rows : List (List Int)) : Prop :=
  ∃ (vs : List Value) (β : Nat → Nat), vs.length = rows.length ∧ w.ownsRow lo 25 1 v rows.length vs ∧ (∀ g, v.ownBlock = some g → g < β 0) ∧ (∀ i j, i ≤ j → β i ≤ β j) ∧ β rows.length ≤ hi ∧ hi ≤ w.heap.size ∧ lo ≤ β 0 ∧
    ∀ i (h : i < rows.length), ∃ u, vs[i]? = some u ∧ Own w (β i) (β (i + 1)) u rows[i]
theorem OwnRows.rd {w : World} {lo hi : Nat} {v : Value} {rows : List (List Int)} (h : OwnRows w lo hi v rows) : RdRows hi w v rows := by
  obtain ⟨vs, β, h1, h2, h3, h4, h5, h6, h7, h8⟩ := h
  refine ⟨vs, ?_, h1, fun i hi => ?_⟩
  · rcases Rd.of_own h2 with ⟨a1, a2⟩ | ⟨b, off, cap, hv, hlt, hcp, hc⟩
    · exact .inl ⟨a1, a2⟩
    · refine .inr ⟨b, off, cap, hv, ?_, hcp, hc⟩
      have h9 := h3 b (by rw [hv]; rfl)
      have h10 := h4 0 rows.length (Nat.zero_le _)
      omega
  · obtain ⟨u, hu, ho⟩ := h8 i hi
    have h10 := h4 (i + 1) rows.length hi
    exact ⟨u, hu, ho.rd.mono (by omega)⟩
theorem OwnRows.kept {w w1 : World} {lo hi lo' hi' : Nat} {v : Value} {rows : List (List Int)} (h : OwnRows w lo' hi' v rows) (hk : KeptOut w w1 lo hi) (hd : hi' ≤ lo ∨ hi ≤ lo') : OwnRows w1 lo' hi' v rows := by
  obtain ⟨vs, β, h1, h2, h3, h4, h5, h6, h7, h8⟩ := h
  have h10 := h4 0 rows.length (Nat.zero_le _)
  refine ⟨vs, β, h1, ?_, h3, h4, h5, Nat.le_trans h6 hk.2.2.2.1, h7, fun i hi => ?_⟩
  · refine ⟨h2.1, ?_⟩
    rcases h2.2 with hn | ⟨g, cap, cur, hv, hg, hc, r⟩
    · exact .inl hn
    · refine .inr ⟨g, cap, cur, hv, hg, ?_, r⟩
      have hgi := h3 g (by rw [hv]; rfl)
      rw [hk.2.2.2.2 g (by omega) (by omega)]
      exact hc
  · obtain ⟨u, hu, ho⟩ := h8 i hi
    have h11 := h4 (i + 1) rows.length hi
    have h12 := h4 0 i (Nat.zero_le _)
    exact ⟨u, hu, hk.own ho (by omega)⟩
theorem OwnRows.below {w w1 : World} {lo hi : Nat} {v : Value} {rows : List (List Int)} (h : OwnRows w lo hi v rows) (hb : Below w.heap.size w w1) : OwnRows w1 lo hi v rows :=
  h.kept (lo := hi) (hi := hi) (KeptOut.of_below hb) (.inl (Nat.le_refl _))
/-- What a function that makes rows answers. -/
def NewRows (w : World) (rows : List (List Int)) (e : Ending) (w' : World) : Prop := ∃ r, e = .returned r ∧ OwnRows w' w.heap.size w'.heap.size r rows ∧ Below w.heap.size w w'
end Go.Proofs.Ytgbmacppgaopfaa
namespace Go.Proofs.Ytgbmacppgaopfaa
set_option maxRecDepth 20000
open Go.RowKit

def primeCheck (n : Nat) : Bool := decide (2 ≤ n) && decide (n ≤ 1000003) && (List.range 1001).all fun d => decide (d < 2) || decide (n < d * d) || (n % d != 0)
theorem prime_dec {n : Nat} (h : primeCheck n = true) : primeB (n : Int) = true := by
  unfold primeCheck at h
  simp only [Bool.and_eq_true, decide_eq_true_eq, List.all_eq_true, List.mem_range, Bool.or_eq_true, bne_iff_ne] at h
  obtain ⟨⟨h1, h2⟩, h3⟩ := h
  refine prime_of (by omega) (by omega) fun d hd hdd hm => ?_
  have e : ((d * d : Nat) : Int) = (d : Int) * d := by simp
  have hd2 : d ≤ 1000 := root_lt (by omega) hdd
  rcases h3 d (by omega) with (h4 | h4) | h4
  · omega
  · omega
  · apply h4
    have : ((n % d : Nat) : Int) = 0 := by simpa using hm
    omega
theorem p2 : primeB 2 = true := prime_dec (n := 2) (by kernel_rfl)
theorem p3 : primeB 3 = true := prime_dec (n := 3) (by kernel_rfl)
theorem p5 : primeB 5 = true := prime_dec (n := 5) (by kernel_rfl)
theorem p7 : primeB 7 = true := prime_dec (n := 7) (by kernel_rfl)
theorem p17 : primeB 17 = true := prime_dec (n := 17) (by kernel_rfl)
theorem p97 : primeB 97 = true := prime_dec (n := 97) (by kernel_rfl)
theorem p101 : primeB 101 = true := prime_dec (n := 101) (by kernel_rfl)
theorem p1000003 : primeB 1000003 = true := prime_dec (n := 1000003) (by kernel_rfl)
theorem mk2 {z : Int} (h : z ∈ [2, 3, 7, 97, 1000003]) : ringB 2 z 0 = true := by
  simp at h
  rcases h with rfl | rfl | rfl | rfl | rfl <;> simp [ringB, p2, p3, p7, p97, p1000003]
theorem mkCap {k z : Int} (hk : k = 3 ∨ k = 4 ∨ k = 5) (h : z ∈ [1, 2, 9, 40, 1000000]) : ringB k z 0 = true := by
  simp at h
  unfold ringB
  rw [if_neg (by omega), if_neg (by omega), if_pos hk]
  rcases h with rfl | rfl | rfl | rfl | rfl <;> simp
theorem mk6 {z : Int} (h : z ∈ [1, 3, 5, 20]) : ringB 6 0 z = true := by
  simp at h
  rcases h with rfl | rfl | rfl | rfl <;> simp [ringB]
theorem mk7 {z n : Int} (h : z ∈ [2, 5, 101]) (h1 : 1 ≤ n) (h2 : n ≤ 4) : ringB 7 z n = true := by
  simp at h
  rcases h with rfl | rfl | rfl <;> simp [ringB, p2, p5, p101] <;> omega
theorem mk8 {z : Int} (h : z ∈ [3, 17, 97, 1000003]) : ringB 8 z 0 = true := by
  simp at h
  rcases h with rfl | rfl | rfl | rfl <;> simp [ringB, p3, p17, p97, p1000003]
theorem CurOk.below_at {w w1 : World} {cb B B' : Nat} {v : Value} {bs : List UInt8} (h : CurOk w cb B v bs) (hb : Below B' w w1) (hs : cb < B') : CurOk w1 cb B v bs := by
  obtain ⟨i, h, c⟩ := h
  exact ⟨i, h, ⟨(hb.cell (p := ⟨cb, 0, none⟩) hs).trans c.c0, (hb.cell (p := ⟨cb, 1, none⟩) hs).trans c.c1, (hb.cell (p := ⟨cb, 2, none⟩) hs).trans c.c2, c.hi, c.h1, c.h2, (hb.frozen (p := ⟨cb, 1, none⟩) hs).trans c.f1, (hb.frozen (p := ⟨cb, 2, none⟩) hs).trans c.f2, c.hB, Nat.lt_of_lt_of_le c.hs hb.size, c.rd.below hb (by have := c.hB; omega), c.len⟩⟩
theorem CurOk.below {w w1 : World} {cb B : Nat} {v : Value} {bs : List UInt8} (h : CurOk w cb B v bs) (hb : Below w.heap.size w w1) : CurOk w1 cb B v bs := by
  obtain ⟨i, q, c⟩ := h
  exact CurOk.below_at ⟨i, q, c⟩ hb c.hs
theorem CurOk.lo {w : World} {cb B : Nat} {v : Value} {bs : List UInt8} (h : CurOk w cb B v bs) : B ≤ cb ∧ cb < w.heap.size := by
  obtain ⟨i, h, c⟩ := h
  exact ⟨c.hB, c.hs⟩
/-- What a drawn ring answers. -/
def RingPost (cb B : Nat) (v : Value) (bs : List UInt8) (w : World) (e : Ending) (w' : World) : Prop := ∃ k p n, e = .returned (ringV k p n) ∧ ringB k p n = true ∧ CurOk w' cb B v bs ∧ KeptOut w w' cb (cb + 1)
theorem ring_post {cb B : Nat} {v : Value} {bs : List UInt8} {w w' : World} {k p n : Int} (h1 : ringB k p n = true) (h2 : CurOk w' cb B v bs) (h3 : KeptOut w w' cb (cb + 1)) : RingPost cb B v bs w (.returned (ringV k p n)) w' := ⟨k, p, n, rfl, h1, h2, h3⟩

/-- What is carried along a drawing: the cursor, the result's variable, the frame. -/
structure RS (w0 w : World) (cb B : Nat) (v : Value) (bs : List UInt8) (rb : Nat) : Prop where
  cur : CurOk w cb B v bs
  box : BoxAt w rb 0 0 0
  fr : ∀ o, w.frozen? ⟨rb, o, none⟩ = false
  bel : KeptOut w0 w cb (cb + 1)
  lt : rb < w.heap.size
  ne : cb < rb
  base : w0.heap.size ≤ rb
theorem RS.alloc {w0 w : World} {cb B : Nat} {v : Value} {bs : List UInt8} {rb : Nat} (h : RS w0 w cb B v bs rb) (o : Obj) : RS w0 (w.alloc o) cb B v bs rb := by
  have hb := (Below.refl w.heap.size w).alloc (Nat.le_refl _) o
  have hs := h.cur.lo
  exact ⟨h.cur.below hb, h.box.below hb h.lt, fun q => (hb.frozen (p := ⟨rb, q, none⟩) h.lt).trans (h.fr q), h.bel.trans (KeptOut.of_below hb), by simp; have := h.lt; omega, h.ne, h.base⟩
theorem KeptOut.frozen {w w1 : World} {lo hi b o : Nat} (h : KeptOut w w1 lo hi) (hb : b < w.heap.size) (hd : b < lo ∨ hi ≤ b) : w1.frozen? ⟨b, o, none⟩ = w.frozen? ⟨b, o, none⟩ :=
  World.frozen?_of_block (w := w) (h.2.2.2.2 b hb hd)
theorem RS.kept {w0 w w1 : World} {cb B : Nat} {v : Value} {bs : List UInt8} {rb : Nat} (h : RS w0 w cb B v bs rb) (hk : KeptOut w w1 cb (cb + 1)) (hc : CurOk w1 cb B v bs) : RS w0 w1 cb B v bs rb := by
  have hs := h.cur.lo
  have hn := h.ne
  have hl := h.lt
  exact ⟨hc, hk.box h.box hl (.inr (by omega)), fun q => (hk.frozen hl (.inr (by omega))).trans (h.fr q), h.bel.trans hk, by have := hk.2.2.2.1; omega, hn, h.base⟩
theorem KeptOut.setNew {w0 w : World} {lo hi : Nat} (h : KeptOut w0 w lo hi) {q : Addr} (hq : w0.heap.size ≤ q.block) (u : Value) : KeptOut w0 (w.setCell q u) lo hi :=
  ⟨h.1, h.2.1, h.2.2.1, by simpa using h.2.2.2.1, fun b hb hx => (Below.heap_setCell w q u b (by omega)).trans (h.2.2.2.2 b hb hx)⟩
theorem RS.start {w : World} {cb B : Nat} {v : Value} {bs : List UInt8} (hc : CurOk w cb B v bs) (T : TypeId) : RS w (w.alloc (.cells #[.int .i64 0, .int .i64 0, .int .i64 0] T)) cb B v bs w.heap.size := by
  have hs := hc.lo
  refine ⟨hc.below ((Below.refl _ _).alloc (Nat.le_refl _) _), BoxAt.new w 0 0 0 T, fun o => by simp, KeptOut.of_below ((Below.refl _ _).alloc (Nat.le_refl _) _), by simp, hs.2, Nat.le_refl _⟩
theorem RS.put {w0 w : World} {cb B : Nat} {v : Value} {bs : List UInt8} {rb : Nat} (h : RS w0 w cb B v bs rb) (x y z : Value) : CurOk (((w.setCell ⟨rb, 0, none⟩ x).setCell ⟨rb, 1, none⟩ y).setCell ⟨rb, 2, none⟩ z) cb B v bs ∧ KeptOut w0 (((w.setCell ⟨rb, 0, none⟩ x).setCell ⟨rb, 1, none⟩ y).setCell ⟨rb, 2, none⟩ z) cb (cb + 1) := by
  have hn := h.ne
  have hb := h.base
  refine ⟨h.cur.below_at (B' := rb) ((((Below.refl rb w).setCell (p := ⟨rb, 0, none⟩) (Nat.le_refl _) x).setCell (p := ⟨rb, 1, none⟩) (Nat.le_refl _) y).setCell (p := ⟨rb, 2, none⟩) (Nat.le_refl _) z) hn, ((h.bel.setNew ?_ x).setNew ?_ y).setNew ?_ z⟩ <;> exact hb
theorem RS.facts {w0 w : World} {cb B : Nat} {v : Value} {bs : List UInt8} {rb : Nat} (h : RS w0 w cb B v bs rb) : w.cell? ⟨rb, 0, none⟩ = some (.int .i64 0) ∧ w.cell? ⟨rb, 1, none⟩ = some (.int .i64 0) ∧ w.cell? ⟨rb, 2, none⟩ = some (.int .i64 0) ∧ w.frozen? ⟨rb, 0, none⟩ = false ∧ w.frozen? ⟨rb, 1, none⟩ = false ∧ w.frozen? ⟨rb, 2, none⟩ = false :=
  ⟨h.box.1, h.box.2.1, h.box.2.2, h.fr 0, h.fr 1, h.fr 2⟩

end Go.Proofs.Ytgbmacppgaopfaa
namespace Go.Proofs.Ytgbmacppgaopfaa
set_option maxRecDepth 20000
open Go.RowKit

theorem Own.widen {w : World} {lo lo' hi hi' : Nat} {v : Value} {xs : List Int} (h : Own w lo hi v xs) (h1 : lo' ≤ lo) (h2 : hi ≤ hi') (h3 : hi' ≤ w.heap.size) : Own w lo' hi' v xs :=
  ⟨h.1.mono h1, fun g hg => Nat.lt_of_lt_of_le (h.2.1 g hg) h2, h3⟩
/-- What is carried along the drawing of an element. -/
structure ES (w0 w : World) (cb B : Nat) (v : Value) (bs : List UInt8) (rb : Nat) (k p n : Int) : Prop where
  cur : CurOk w cb B v bs
  box : BoxAt w rb k p n
  bel : Below B w0 w
  lt : rb < w.heap.size
  ne : cb < rb
  sz : B ≤ w.heap.size
  up : w0.heap.size ≤ w.heap.size
  kp : KeptOut w0 w cb (cb + 1)
  lo0 : w0.heap.size ≤ rb
theorem ES.step {w0 w w1 : World} {cb B : Nat} {v : Value} {bs : List UInt8} {rb : Nat} {k p n : Int} (h : ES w0 w cb B v bs rb k p n) (hb : Below w.heap.size w w1) : ES w0 w1 cb B v bs rb k p n :=
  ⟨h.cur.below hb, h.box.below hb h.lt, h.bel.trans (hb.mono h.sz), Nat.lt_of_lt_of_le h.lt hb.size, h.ne, Nat.le_trans h.sz hb.size, Nat.le_trans h.up hb.size, h.kp.trans (KeptOut.of_below hb), h.lo0⟩
theorem ES.kept {w0 w w1 : World} {cb B : Nat} {v : Value} {bs : List UInt8} {rb : Nat} {k p n : Int} (h : ES w0 w cb B v bs rb k p n) (hk : KeptOut w w1 cb (cb + 1)) (hc : CurOk w1 cb B v bs) : ES w0 w1 cb B v bs rb k p n := by
  have hs := h.cur.lo
  have hn := h.ne
  have hl := h.lt
  exact ⟨hc, hk.box h.box hl (.inr (by omega)), hk.below h.bel hs.1 (by omega), by have := hk.2.2.2.1; omega, hn, Nat.le_trans h.sz hk.2.2.2.1, Nat.le_trans h.up hk.2.2.2.1, h.kp.trans hk, h.lo0⟩
theorem ES.start {w : World} {cb B : Nat} {v : Value} {bs : List UInt8} (hc : CurOk w cb B v bs) (hB : B ≤ w.heap.size) (k p n : Int) (T : TypeId) : ES w (w.alloc (.cells #[.int .i64 k, .int .i64 p, .int .i64 n] T)) cb B v bs w.heap.size k p n := by
  have hs := hc.lo
  exact ⟨hc.below ((Below.refl _ _).alloc (Nat.le_refl _) _), BoxAt.new w k p n T, (Below.refl _ _).alloc hB _, by simp, hs.2, by simp; omega, by simp, KeptOut.of_below ((Below.refl _ _).alloc (Nat.le_refl _) _), Nat.le_refl _⟩
theorem ES.set {w0 w : World} {cb B : Nat} {v : Value} {bs : List UInt8} {rb : Nat} {k p n : Int} (h : ES w0 w cb B v bs rb k p n) {g o : Nat} (hg : rb < g) (u : Value) : ES w0 (w.setCell ⟨g, o, none⟩ u) cb B v bs rb k p n := by
  have hb : Below g w (w.setCell ⟨g, o, none⟩ u) := (Below.refl _ _).setCell (p := ⟨g, o, none⟩) (Nat.le_refl _) u
  have hs := h.cur.lo
  have hn := h.ne
  exact ⟨h.cur.below_at hb (by omega), h.box.below hb hg, h.bel.trans (hb.mono (by omega)), by simpa using h.lt, hn, by simpa using h.sz, by simpa using h.up,
    ⟨h.kp.1, h.kp.2.1, h.kp.2.2.1, by simpa using h.up, fun b hb1 hx => (Below.heap_setCell w ⟨g, o, none⟩ u b (by have := h.lo0; show b ≠ g; omega)).trans (h.kp.2.2.2.2 b hb1 hx)⟩, h.lo0⟩
theorem KeptOut.ownRow {w w1 : World} {lo hi B g m cap : Nat} {E : TypeId} {xs : List Value} (h : KeptOut w w1 lo hi) (ho : w.ownsRow B E 1 (.slice (some ⟨g, 0, none⟩) m cap) m xs) (hd : g < lo ∨ hi ≤ g) : w1.ownsRow B E 1 (.slice (some ⟨g, 0, none⟩) m cap) m xs := by
  refine ⟨ho.1, ?_⟩
  have hl := (ho.lt g rfl).2
  rcases ho.2 with ⟨hn, _⟩ | ⟨g', cap', cur, hv, hg, hc, r⟩
  · cases hn
  · refine .inr ⟨g', cap', cur, hv, hg, ?_, r⟩
    have : g' = g := by simp at hv; exact hv.1.symm
    subst this
    rw [h.2.2.2.2 g' hl hd]
    exact hc
/-- What a drawn element answers, and that all but the cursor stays. -/
def ElemPostK (cb B : Nat) (v : Value) (bs : List UInt8) (k p n : Int) (w : World) (e : Ending) (w' : World) : Prop := ∃ u xs, e = .returned u ∧ ElemV k p n xs ∧ Own w' w.heap.size w'.heap.size u xs ∧ CurOk w' cb B v bs ∧ Below B w w' ∧ KeptOut w w' cb (cb + 1)
/-- What a drawn element answers. -/
def ElemPost (cb B : Nat) (v : Value) (bs : List UInt8) (k p n : Int) (w : World) (e : Ending) (w' : World) : Prop := ∃ u xs, e = .returned u ∧ ElemV k p n xs ∧ Own w' w.heap.size w'.heap.size u xs ∧ CurOk w' cb B v bs ∧ Below B w w'

theorem Rd.heap2 {w w1 : World} {v : Value} {xs : List Value} (h : Rd w.heap.size w v xs) (hh : w1.heap = w.heap) : Rd w1.heap.size w1 v xs := by
  rw [show w1.heap.size = w.heap.size from by rw [hh]]
  rcases h with h | ⟨b, off, cap, hv, hlt, hcp, hc⟩
  · exact .inl h
  · exact .inr ⟨b, off, cap, hv, hlt, hcp, fun i u hi => (cur_heap hh _).trans (hc i u hi)⟩
theorem Below.heap2 {w w1 w2 : World} (h : Below w1.heap.size w1 w2) (hh : w1.heap = w.heap) (h1 : w1.os = w.os) (h2 : w1.tape = w.tape) (h3 : w1.output = w.output) : Below w.heap.size w w2 :=
  ⟨h.os.trans h1, h.tape.trans h2, h.output.trans h3, by rw [← hh]; exact h.size, fun b hb => (h.block b (by rw [hh]; exact hb)).trans (by rw [hh])⟩
end Go.Proofs.Ytgbmacppgaopfaa
namespace Go.Proofs.Ytgbmacppgaopfaa
set_option maxRecDepth 20000
open Go.RowKit

end Go.Proofs.Ytgbmacppgaopfaa
namespace Go.Proofs.Ytgbmacppgaopfaa
set_option maxRecDepth 20000
open Go.RowKit

/-- A world of the same size that differs from w0 at the cursor alone: against it nothing older has changed. -/
def RsC (w0 wr : World) (cb B : Nat) (v : Value) (bts : List UInt8) (bs : List BxE) (rows : List RowE) : Prop :=
  (∃ w1 : World, w1.heap.size = w0.heap.size ∧ KeptOut w0 w1 cb (cb + 1) ∧ Rs w1 wr bs rows) ∧ CurOk wr cb B v bts ∧ cb < w0.heap.size
variable {w0 wr w' : World} {cb B : Nat} {v : Value} {bts : List UInt8} {bs : List BxE} {rows : List RowE}
theorem RsC.cur (h : RsC w0 wr cb B v bts bs rows) : CurOk wr cb B v bts := h.2.1
theorem RsC.lt (h : RsC w0 wr cb B v bts bs rows) : cb < w0.heap.size := h.2.2
theorem RsC.start {w : World} (hc : CurOk w cb B v bts) : RsC w w cb B v bts [] [] := ⟨⟨w, rfl, KeptOut.refl _ _ _, Rs.start w⟩, hc, hc.lo.2⟩
/-- A step that leaves the cursor alone. -/
theorem RsC.lift {bs' : List BxE} {rows' : List RowE} (h : RsC w0 wr cb B v bts bs rows) (hc : CurOk w' cb B v bts) (f : ∀ w1 : World, w1.heap.size = w0.heap.size → Rs w1 wr bs rows → Rs w1 w' bs' rows') : RsC w0 w' cb B v bts bs' rows' := by
  obtain ⟨⟨w1, h1, h2, h3⟩, -, h5⟩ := h
  exact ⟨⟨w1, h1, h2, f w1 h1 h3⟩, hc, h5⟩
theorem RsC.step (h : RsC w0 wr cb B v bts bs rows) (hb : Below wr.heap.size wr w') : RsC w0 w' cb B v bts bs rows :=
  h.lift (h.cur.below hb) fun _ _ r => r.step hb
theorem RsC.drew (h : RsC w0 wr cb B v bts bs rows) : RsC w0 wr.drew cb B v bts bs rows := h.step (Below.drew (Below.refl _ _))
theorem RsC.box (h : RsC w0 wr cb B v bts bs rows) (a b c : Value) (T : TypeId) : RsC w0 (wr.alloc (.cells #[a, b, c] T)) cb B v bts ((wr.heap.size, a, b, c) :: bs) rows :=
  h.lift (h.cur.below ((Below.refl _ _).alloc (Nat.le_refl _) _)) fun _ _ r => r.box a b c T
theorem RsC.new {u : Value} {xs : List Int} (h : RsC w0 wr cb B v bts bs rows) (hb : Below wr.heap.size wr w') (ho : Own w' wr.heap.size w'.heap.size u xs) : RsC w0 w' cb B v bts bs ((u, xs) :: rows) :=
  h.lift (h.cur.below hb) fun _ _ r => r.new hb ho
theorem RsC.new3 {a b c : Value} {x y z : List Int} (h : RsC w0 wr cb B v bts bs rows) (hb : Below wr.heap.size wr w') (ho : OwnG w' wr.heap.size w'.heap.size [(a, x), (b, y), (c, z)]) : RsC w0 w' cb B v bts bs ((a, x) :: (b, y) :: (c, z) :: rows) :=
  h.lift (h.cur.below hb) fun _ _ r => r.new3 hb ho
theorem RsC.size (h : RsC w0 wr cb B v bts bs rows) : w0.heap.size ≤ wr.heap.size := by
  obtain ⟨⟨w1, h1, -, h3⟩, -, -⟩ := h
  have := h3.bel.size
  omega
theorem RsC.kept (h : RsC w0 wr cb B v bts bs rows) : KeptOut w0 wr cb (cb + 1) := by
  obtain ⟨⟨w1, h1, h2, h3⟩, -, h5⟩ := h
  refine h2.trans ⟨h3.bel.os, h3.bel.tape, h3.bel.output, h3.bel.size, fun b hb _ => h3.bel.block b hb⟩
/-- The cursor has moved. -/
theorem RsC.moved (h : RsC w0 wr cb B v bts bs rows) (hk : KeptOut wr w' cb (cb + 1)) (hc : CurOk w' cb B v bts) : RsC w0 w' cb B v bts bs rows := by
  obtain ⟨⟨w1, h1, h2, h3⟩, h4, h5⟩ := h
  have hs := h3.bel.size
  obtain ⟨ob, hob⟩ : ∃ ob, w'.heap[cb]? = some ob := ⟨_, Array.getElem?_eq_getElem (Nat.lt_of_lt_of_le h5 (by have := hk.2.2.2.1; omega))⟩
  obtain ⟨w2, e1, e2, e3⟩ : ∃ w2 : World, w2.heap.size = w0.heap.size ∧ KeptOut w1 w2 cb (cb + 1) ∧ Below w1.heap.size w2 w' := by
    refine ⟨{ w1 with heap := w1.heap.setIfInBounds cb ob }, by simpa using h1, ⟨rfl, rfl, rfl, by simp, fun b _ hx => ?_⟩, ⟨hk.1.trans h3.bel.os, hk.2.1.trans h3.bel.tape, hk.2.2.1.trans h3.bel.output, ?_, fun b hb => ?_⟩⟩
    · exact Array.getElem?_setIfInBounds_ne (by omega)
    · have := hk.2.2.2.1; simp; omega
    · by_cases e : b = cb
      · subst e
        rw [hob]
        exact (Array.getElem?_setIfInBounds_self_of_lt (by omega)).symm
      · refine (hk.2.2.2.2 b (by omega) (by omega)).trans ((h3.bel.block b hb).trans ?_)
        exact (Array.getElem?_setIfInBounds_ne (fun h => e h.symm)).symm
  have e4 : w2.heap.size = w1.heap.size := by omega
  have ncb : ∀ g, w1.heap.size ≤ g → g < cb ∨ cb + 1 ≤ g := fun g hg => by omega
  have hblk : ∀ g, w1.heap.size ≤ g → g < wr.heap.size → w'.heap[g]? = wr.heap[g]? := fun g hg hl => hk.2.2.2.2 g hl (ncb g hg)
  refine ⟨⟨w2, e1, h2.trans e2, ?_⟩, hc, h5⟩
  refine ⟨by rw [e4]; exact e3, fun r hr => ?_, h3.apart, fun b hb => ?_, h3.far, h3.dis⟩
  · have ho := h3.own r hr
    rw [e4]
    refine ⟨ho.1, ?_⟩
    rcases ho.2 with hn | ⟨g, cap, cur, e, hb, hg, rest⟩
    · exact .inl hn
    · refine .inr ⟨g, cap, cur, e, hb, ?_, rest⟩
      rw [hblk g hb (ho.lt g (by rw [e]; rfl)).2]; exact hg
  · have hx := h3.bx b hb
    have eb := hblk b.1 hx.lo hx.lt
    refine ⟨by rw [e4]; exact e3, (World.cell?_of_block eb).trans hx.c0, (World.cell?_of_block eb).trans hx.c1, (World.cell?_of_block eb).trans hx.c2, fun j => (World.frozen?_of_block eb).trans (hx.fr j), Nat.lt_of_lt_of_le hx.lt hk.2.2.2.1, by rw [e4]; exact hx.lo⟩
/-- An element is drawn. -/
theorem RsC.drawn {u : Value} {xs : List Int} (h : RsC w0 wr cb B v bts bs rows) (hk : KeptOut wr w' cb (cb + 1)) (hc : CurOk w' cb B v bts) (ho : Own w' wr.heap.size w'.heap.size u xs) : RsC w0 w' cb B v bts bs ((u, xs) :: rows) := by
  have hm := h.moved hk hc
  have hsz := h.size
  refine hm.lift hc fun w1 h1 r => ⟨r.bel, fun q hq => ?_, List.pairwise_cons.2 ⟨fun q hq g hg e => ?_, r.apart⟩, r.bx, fun b hb q hq => ?_, r.dis⟩
  · rcases List.mem_cons.1 hq with rfl | hq
    · exact ⟨ho.1.1, ho.1.2.imp id (fun ⟨g, cap, cur, e, hb, rest⟩ => ⟨g, cap, cur, e, by omega, rest⟩)⟩
    · exact r.own q hq
  · have h2 := ho.lo g hg
    obtain ⟨⟨w2, -, -, r2⟩, -, -⟩ := h
    have h3 := ((r2.own q hq).lt g e).2
    omega
  · rcases List.mem_cons.1 hq with rfl | hq
    · intro e
      have h2 := ho.lo _ e
      obtain ⟨⟨w2, -, -, r2⟩, -, -⟩ := h
      have h3 := (r2.bx b hb).lt
      omega
    · exact r.far b hb q hq
/-- What does not turn the world. -/
theorem RsC.same {bs' : List BxE} {rows' : List RowE} (h : RsC w0 wr cb B v bts bs rows) (f : ∀ w1 : World, Rs w1 wr bs rows → Rs w1 wr bs' rows') : RsC w0 wr cb B v bts bs' rows' := h.lift h.cur fun w1 _ r => f w1 r
/-- A row of the call's own is written. -/
theorem RsC.put {xs : List Int} {g n cap : Nat} (h : RsC w0 wr cb B v bts bs ((.slice (some ⟨g, 0, none⟩) n cap, xs) :: rows)) (hn : xs.length = n) (i : Nat) (x : Int) : RsC w0 (wr.setCell ⟨g, i, none⟩ (.int .i64 x)) cb B v bts bs ((.slice (some ⟨g, 0, none⟩) n cap, xs.set i x) :: rows) := by
  refine h.lift (h.cur.below_at ((Below.refl g wr).setCell (p := ⟨g, i, none⟩) (Nat.le_refl _) _) ?_) fun w1 _ r => r.put hn i x
  obtain ⟨⟨w1, h1, -, r⟩, -, h5⟩ := h
  have := ((r.own _ (List.mem_cons_self)).lt g rfl).1
  omega
theorem RsC.row {u : Value} {xs : List Int} (h : RsC w0 wr cb B v bts bs rows) (hm : (u, xs) ∈ rows) : Own wr w0.heap.size wr.heap.size u xs := by
  obtain ⟨⟨w1, h1, -, r⟩, -, -⟩ := h
  rw [← h1]
  exact r.own1 hm
end Go.Proofs.Ytgbmacppgaopfaa
namespace Go.Proofs.Ytgbmacppgaopfaa
set_option maxRecDepth 20000
open Go.RowKit
variable {w0 wr w' : World} {cb B : Nat} {v : Value} {bts : List UInt8} {bs : List BxE} {rows : List RowE}
theorem RsC.alloc (h : RsC w0 wr cb B v bts bs rows) (o : Obj) : RsC w0 (wr.alloc o) cb B v bts bs rows := h.step ((Below.refl _ _).alloc (Nat.le_refl _) o)
theorem RsC.lit (h : RsC w0 wr cb B v bts bs rows) : RsC w0 (wr.alloc (.cells #[] 3)) cb B v bts bs ((.slice (some ⟨wr.heap.size, 0, none⟩) 0 0, []) :: rows) :=
  h.lift (h.cur.below ((Below.refl _ _).alloc (Nat.le_refl _) _)) fun _ _ r => r.lit
theorem RsC.swap {a b : RowE} (h : RsC w0 wr cb B v bts bs (a :: b :: rows)) : RsC w0 wr cb B v bts bs (b :: a :: rows) := h.same fun _ r => r.swap
theorem RsC.sub {rows' : List RowE} (h : RsC w0 wr cb B v bts bs rows) (hs : rows'.Sublist rows) : RsC w0 wr cb B v bts bs rows' := h.same fun _ r => r.sub hs
theorem RsC.at {r : Nat} {a b c : Value} (h : RsC w0 wr cb B v bts bs rows) (hm : (r, a, b, c) ∈ bs) : (wr.cell? ⟨r, 0, none⟩ = some a ∧ wr.cell? ⟨r, 1, none⟩ = some b ∧ wr.cell? ⟨r, 2, none⟩ = some c) ∧ wr.frozen? ⟨r, 0, none⟩ = false ∧ wr.frozen? ⟨r, 1, none⟩ = false ∧ wr.frozen? ⟨r, 2, none⟩ = false := by
  obtain ⟨⟨w1, h1, -, r⟩, -, -⟩ := h
  exact r.at hm
theorem RsC.rowN {u : Value} {xs : List Int} {n : Nat} (h : RsC w0 wr cb B v bts bs rows) (hm : (u, xs) ∈ rows) (hn : xs.length = n) : wr.ownsRow w0.heap.size 3 1 u n (ints xs) := by
  obtain ⟨⟨w1, h1, -, r⟩, -, -⟩ := h
  rw [← h1]
  exact r.row hm hn
theorem RsC.rd {u : Value} {xs : List Int} (h : RsC w0 wr cb B v bts bs rows) (hm : (u, xs) ∈ rows) : Rd wr.heap.size wr u (ints xs) := by
  obtain ⟨⟨w1, h1, -, r⟩, -, -⟩ := h
  exact r.rd hm
theorem RsC.ownG (h : RsC w0 wr cb B v bts bs rows) : OwnG wr w0.heap.size wr.heap.size rows := by
  obtain ⟨⟨w1, h1, -, r⟩, -, -⟩ := h
  rw [← h1]
  exact r.ownG
theorem RsC.app1 {u : Value} {xs : List Int} {x : Int} {g n cap : Nat} (h : RsC w0 wr cb B v bts bs ((u, xs) :: rows)) (hn : xs.length = n) (ho : w'.ownsRow w0.heap.size 3 1 (.slice (some ⟨g, 0, none⟩) (n + 1) cap) (n + 1) (ints xs ++ [.int .i64 x])) (hg : wr.grownBy w' u.ownBlock) (hl : u.ownBlock = some g ∨ g = wr.heap.size) :
    RsC w0 w' cb B v bts bs ((.slice (some ⟨g, 0, none⟩) (n + 1) cap, xs ++ [x]) :: rows) := by
  have hlo := fun k hk => ((h.rowN (List.mem_cons_self) hn).lt k hk).1
  exact h.lift (h.cur.below_at ((Below.refl w0.heap.size wr).grown hg h.size hlo) h.lt) fun w1 h1 r => r.app1 hn (by rw [h1]; exact ho) hg hl
/-- The first row has been written by a call. -/
theorem Rs.turn {u : Value} {xs xs' : List Int} {lo hi : Nat} (h : Rs w0 wr bs ((u, xs) :: rows)) (hlo : w0.heap.size ≤ lo) (ho : Own w' lo hi u xs') (hg : wr.grownBy w' u.ownBlock) : Rs w0 w' bs ((u, xs') :: rows) := by
  have hl : ∀ k, u.ownBlock = some k → w0.heap.size ≤ k := fun k hk => ((h.own (u, xs) (by simp)).lt k hk).1
  have hap := List.pairwise_cons.1 h.apart
  refine ⟨h.bel.grown hg h.bel.size hl, fun r hr => ?_, List.pairwise_cons.2 ⟨hap.1, hap.2⟩, fun b hm => (h.bx b hm).grown hg (fun k hk => ⟨fun e => h.far b hm (u, xs) (by simp) (by rw [hk, e]), hl k hk⟩), fun b hm r hr => ?_, h.dis⟩
  · rcases List.mem_cons.1 hr with rfl | hr2
    · exact ⟨ho.1.1, ho.1.2.imp id (fun ⟨g, cap, cur, e, hb, q⟩ => ⟨g, cap, cur, e, Nat.le_trans hlo hb, q⟩)⟩
    · exact (h.own r (by simp [hr2])).kept hg (by
        cases hv : r.1.ownBlock with
        | none => exact .inl rfl
        | some k => exact .inr fun e => hap.1 r hr2 k e.symm hv)
  · rcases List.mem_cons.1 hr with rfl | hr2
    · exact h.far b hm (u, xs) (by simp)
    · exact h.far b hm r (by simp [hr2])
theorem RsC.turn {u : Value} {xs xs' : List Int} {lo hi : Nat} (h : RsC w0 wr cb B v bts bs ((u, xs) :: rows)) (hlo : w0.heap.size ≤ lo) (ho : Own w' lo hi u xs') (hg : wr.grownBy w' u.ownBlock) : RsC w0 w' cb B v bts bs ((u, xs') :: rows) := by
  have hl := fun k hk => ((h.rowN (List.mem_cons_self) rfl).lt k hk).1
  exact h.lift (h.cur.below_at ((Below.refl w0.heap.size wr).grown hg h.size hl) h.lt) fun w1 h1 r => r.turn (by omega) ho hg
theorem RsC.set3 {r : Nat} {a b c : Value} (h : RsC w0 wr cb B v bts ((r, a, b, c) :: bs) rows) (x y z : Value) : RsC w0 (((wr.setCell ⟨r, 0, none⟩ x).setCell ⟨r, 1, none⟩ y).setCell ⟨r, 2, none⟩ z) cb B v bts ((r, x, y, z) :: bs) rows := by
  have hr : cb < r := by
    obtain ⟨⟨w1, h1, -, q⟩, -, h5⟩ := h
    have := (q.bx _ (List.mem_cons_self)).lo
    show cb < r
    simp only at this
    omega
  refine h.lift (h.cur.below_at (((Below.refl r wr).setCell (p := ⟨r, 0, none⟩) (Nat.le_refl _) x).setCell (p := ⟨r, 1, none⟩) (Nat.le_refl _) y |>.setCell (p := ⟨r, 2, none⟩) (Nat.le_refl _) z) hr) fun w1 _ q => q.set3 x y z
theorem RsC.swapB {a b : BxE} (h : RsC w0 wr cb B v bts (a :: b :: bs) rows) : RsC w0 wr cb B v bts (b :: a :: bs) rows := h.same fun _ r => r.swapB
end Go.Proofs.Ytgbmacppgaopfaa
namespace Go.Proofs.Ytgbmacppgaopfaa
set_option maxRecDepth 20000
open Go.RowKit

theorem swap_perm {ys : List Int} {j x : Nat} {a b : Int} (ha : ys[j]? = some a) (hb : ys[x]? = some b) : ((ys.set j b).set x a).Perm ys := by
  obtain ⟨hj, rfl⟩ := List.getElem?_eq_some_iff.1 ha
  obtain ⟨hx, rfl⟩ := List.getElem?_eq_some_iff.1 hb
  exact List.set_set_perm hj hx
/-- What a list in some order is told. -/
def ShufflePost (cb B : Nat) (v : Value) (bts : List UInt8) (L : List Int) (w : World) (e : Ending) (w' : World) : Prop := ∃ u xs, e = .returned u ∧ xs.Perm L ∧ Own w' w.heap.size w'.heap.size u xs ∧ CurOk w' cb B v bts ∧ KeptOut w w' cb (cb + 1)
end Go.Proofs.Ytgbmacppgaopfaa
namespace Go.Proofs.Ytgbmacppgaopfaa
set_option maxRecDepth 20000
open Go.RowKit

structure LabV (n most : Nat) (ls ds : List Int) : Prop where
  len : ls.length = ds.length
  most : ls.length ≤ most
  rg : ∀ x ∈ ls, 0 ≤ x ∧ x < (n : Int)
  dm : ∀ d ∈ ds, 1 ≤ d ∧ d ≤ 3
  nd : ls.Nodup
  dv : ∀ i x, ls[i]? = some x → ds.getD i 0 = 1 + (x + 1) % 3
theorem LabV.more {n m : Nat} {ls ds : List Int} {x : Nat} {d : Int} (h : LabV n m ls ds) (hx : x < n) (hno : (x : Int) ∉ ls) (hd0 : d = 1 + ((x : Int) + 1) % 3) (hd : 1 ≤ d ∧ d ≤ 3) : LabV n (m + 1) (ls ++ [(x : Int)]) (ds ++ [d]) := by
  refine ⟨by simp [h.len], by have := h.most; simp; omega, fun y hy => ?_, fun y hy => ?_, ?_, fun i y hi => ?_⟩
  · rcases List.mem_append.1 hy with hy | hy
    · exact h.rg y hy
    · simp at hy; subst hy; omega
  · rcases List.mem_append.1 hy with hy | hy
    · exact h.dm y hy
    · simp at hy; subst hy; exact hd
  · rw [List.nodup_append]
    exact ⟨h.nd, by simp, fun y hy z hz e => by simp at hz; subst hz; subst e; exact hno hy⟩
  · have hl := h.len
    by_cases hlt : i < ls.length
    · rw [List.getElem?_append_left hlt] at hi
      rw [List.getD_eq_getElem?_getD, List.getElem?_append_left (by omega), ← List.getD_eq_getElem?_getD]
      exact h.dv i y hi
    · have h1 := (List.getElem?_eq_some_iff.1 hi).1
      rw [List.length_append, List.length_singleton] at h1
      obtain rfl : i = ls.length := by omega
      rw [List.getElem?_append_right (Nat.le_refl _), Nat.sub_self] at hi
      injection hi with hi
      subst hi
      rw [List.getD_eq_getElem?_getD, List.getElem?_append_right (by omega), hl, Nat.sub_self]
      exact hd0
theorem LabV.wide {n m m' : Nat} {ls ds : List Int} (h : LabV n m ls ds) (hm : m ≤ m') : LabV n m' ls ds := ⟨h.len, Nat.le_trans h.most hm, h.rg, h.dm, h.nd, h.dv⟩
def LabelsPost (cb B : Nat) (v : Value) (bts : List UInt8) (n most : Nat) (w : World) (e : Ending) (w' : World) : Prop :=
  ∃ lu ls du ds, e = .returned (.tuple #[lu, du]) ∧ LabV n most ls ds ∧ OwnG w' w.heap.size w'.heap.size [(lu, ls), (du, ds)] ∧ CurOk w' cb B v bts ∧ KeptOut w w' cb (cb + 1)
end Go.Proofs.Ytgbmacppgaopfaa
namespace Go.Proofs.Ytgbmacppgaopfaa
set_option maxRecDepth 20000
open Go.RowKit

theorem repL_within {t : Int} {z : List Int} (h : Within t z) (N : Nat) : Within t (repL z N) := by
  intro x hx
  unfold repL at hx
  rw [List.mem_flatten] at hx
  obtain ⟨l, hl, hx⟩ := hx
  rw [List.eq_of_mem_replicate hl] at hx
  exact h x hx
theorem putL_len2 {X x : List Int} {s : Nat} (h : s + x.length ≤ X.length) : (putL X s x).length = X.length := by unfold putL; simp only [List.length_append, List.length_take, List.length_drop]; omega
theorem putL_within {t : Int} {X x : List Int} {s : Nat} (h : Within t X) (h2 : Within t x) : Within t (putL X s x) := by
  intro y hy
  unfold putL at hy
  rcases List.mem_append.1 hy with hy | hy
  · rcases List.mem_append.1 hy with hy | hy
    · exact h y (List.mem_of_mem_take hy)
    · exact h2 y hy
  · exact h y (List.mem_of_mem_drop hy)
/-- What a tensor that is drawn is told. -/
def FillPost (cb B : Nat) (v : Value) (bts : List UInt8) (k p q : Int) (L D : List Int) (w : World) (e : Ending) (w' : World) : Prop :=
  ∃ l' d' x' X, e = .returned (tenV l' d' x') ∧ (X.length : Int) = prodL D * widthI k q ∧ Within (topI k p q) X ∧ OwnG w' w.heap.size w'.heap.size [(l', L), (d', D), (x', X)] ∧ CurOk w' cb B v bts ∧ KeptOut w w' cb (cb + 1)
end Go.Proofs.Ytgbmacppgaopfaa
namespace Go.Proofs.Ytgbmacppgaopfaa
set_option maxRecDepth 20000
open Go.RowKit

/-- Rows that a call has made while the cursor moved. -/
theorem RsC.drawnG {w0 wr w' : World} {cb B : Nat} {v : Value} {bts : List UInt8} {bs : List BxE} {rows new : List RowE} (h : RsC w0 wr cb B v bts bs rows) (hk : KeptOut wr w' cb (cb + 1)) (hc : CurOk w' cb B v bts) (ho : OwnG w' wr.heap.size w'.heap.size new) : RsC w0 w' cb B v bts bs (new ++ rows) := by
  have hm := h.moved hk hc
  have hsz := h.size
  have old : ∀ q ∈ rows, ∀ g, q.1.ownBlock = some g → g < wr.heap.size := by
    obtain ⟨⟨w2, -, -, r2⟩, -, -⟩ := h
    exact fun q hq g e => ((r2.own q hq).lt g e).2
  have oldB : ∀ b ∈ bs, b.1 < wr.heap.size := by
    obtain ⟨⟨w2, -, -, r2⟩, -, -⟩ := h
    exact fun b hb => (r2.bx b hb).lt
  refine hm.lift hc fun w1 h1 r => ⟨r.bel, fun q hq => ?_, List.pairwise_append.2 ⟨ho.2, r.apart, fun q hq s hs g hg e => ?_⟩, r.bx, fun b hb q hq => ?_, r.dis⟩
  · rcases List.mem_append.1 hq with hq | hq
    · have o := ho.1 q hq
      exact ⟨o.1.1, o.1.2.imp id (fun ⟨g, cap, cur, e, hb, rest⟩ => ⟨g, cap, cur, e, by omega, rest⟩)⟩
    · exact r.own q hq
  · have h2 := (ho.1 q hq).lo g hg
    have h3 := old s hs g e
    omega
  · rcases List.mem_append.1 hq with hq | hq
    · intro e
      have h2 := (ho.1 q hq).lo _ e
      have h3 := oldB b hb
      omega
    · exact r.far b hb q hq
theorem prodL_le3 : ∀ {D : List Int}, (∀ d ∈ D, 1 ≤ d ∧ d ≤ 3) → 1 ≤ prodL D ∧ prodL D ≤ 3 ^ D.length := by
  intro D
  induction D with
  | nil => intro _; simp [prodL_nil]
  | cons d D ih =>
    intro h
    obtain ⟨h1, h2⟩ := ih (fun x hx => h x (by simp [hx]))
    have hd := h d (by simp)
    rw [prodL_cons, List.length_cons, Int.pow_succ]
    have e1 : 1 * 1 ≤ d * prodL D := Int.mul_le_mul hd.1 h1 (by omega) (by omega)
    have e2 : d * prodL D ≤ 3 * 3 ^ D.length := Int.mul_le_mul hd.2 h2 (by omega) (by omega)
    rw [Int.mul_comm 3] at e2
    omega
/-- The axes that are drawn are axes. -/
theorem LabV.axes {n most : Nat} {ls ds : List Int} (h : LabV n most ls ds) (hn : n ≤ 100) (hm : most ≤ 3) : AxesV ls ds ∧ 1 ≤ prodL ds ∧ prodL ds ≤ 27 := by
  have hl := h.most
  refine ⟨⟨by omega, h.len, fun x hx => ?_, fun d hd => ?_, h.nd⟩, ?_⟩
  · have := h.rg x hx; omega
  · have := h.dm d hd; omega
  · obtain ⟨h1, h2⟩ := prodL_le3 h.dm
    refine ⟨h1, Int.le_trans h2 ?_⟩
    have hk : ds.length ≤ 3 := by rw [← h.len]; omega
    rcases (by omega : ds.length = 0 ∨ ds.length = 1 ∨ ds.length = 2 ∨ ds.length = 3) with e | e | e | e <;> rw [e] <;> decide
theorem tensorB_of {k p q : Int} {L D X : List Int} (hr : ringB k p q = true) (ha : AxesV L D) (hp : prodL D ≤ 4096) (hx : (X.length : Int) = prodL D * widthI k q) (hw : Within (topI k p q) X) : tensorB k p q L D X = true ∧ sizeI L D = prodL D := by
  have hs : sizeI L D = prodL D := by
    rcases sizeI_cases L D with ⟨-, h⟩ | ⟨h, -⟩
    · exact absurd ⟨axesB_true.2 ha, hp⟩ h
    · exact h
  have hp1 := prodL_pos (D := D) (fun d hd => (ha.2.2.2.1 d hd).1)
  refine ⟨?_, hs⟩
  unfold tensorB
  rw [hs, hr, decide_eq_true hx, decide_eq_true (show 0 ≤ prodL D by omega)]
  simp only [Bool.true_and, List.all_eq_true]
  intro x hx2
  have := hw x hx2
  simpa using this
/-- What a drawn tensor is told. -/
def TenPost (cb B : Nat) (v : Value) (bts : List UInt8) (k p q : Int) (w : World) (e : Ending) (w' : World) : Prop :=
  ∃ l' d' x' L D X, e = .returned (tenV l' d' x') ∧ LabV 6 3 L D ∧ tensorB k p q L D X = true ∧ OwnG w' w.heap.size w'.heap.size [(l', L), (d', D), (x', X)] ∧ CurOk w' cb B v bts ∧ KeptOut w w' cb (cb + 1)
end Go.Proofs.Ytgbmacppgaopfaa
namespace Go.Proofs.Ytgbmacppgaopfaa
set_option maxRecDepth 20000
open Go.RowKit

end Go.Proofs.Ytgbmacppgaopfaa
