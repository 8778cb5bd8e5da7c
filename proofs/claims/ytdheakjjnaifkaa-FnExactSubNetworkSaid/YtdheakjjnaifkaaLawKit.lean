
/- The element types' rows of this program's table. -/
import Derived.Test.YtdheakjjnaifkaaProg
import Derived.WalkKit
import Derived.WalkSpells
import Derived.WalkLawsBesides
import Derived.Lib.Hide
import Derived.Laws.OwnMore
import Derived.Deep.QuietTactic
import Derived.BigQuiet
namespace Go.Proofs.Ytdheakjjnaifkaa
set_option maxRecDepth 20000
theorem infoInt : (Try.prog.info? 3).map (fun i => (i.zero, i.size, i.bytes)) = some (some (.int .i64 0), 1, 8) := by kernel_rfl
theorem infoStr : (Try.prog.info? 9).map (fun i => (i.zero, i.size, i.bytes)) = some (some (.string ⟨#[]⟩), 1, 16) := by kernel_rfl
theorem infoByte : (Try.prog.info? 5).map (fun i => (i.zero, i.size, i.bytes)) = some (some (.int .u8 0), 1, 1) := by kernel_rfl
end Go.Proofs.Ytdheakjjnaifkaa
namespace Go.Proofs.Ytdheakjjnaifkaa
set_option maxRecDepth 20000
open Go Go.RowKit

/-- v is a slice whose cells, one an element, are xs; they lie below block B. -/
def Rd (B : Nat) (w : World) (v : Value) (xs : List Value) : Prop :=
  (xs = [] ∧ ∃ a cap, v = .slice a 0 cap) ∨
  ∃ b off cap, v = .slice (some ⟨b, off, none⟩) xs.length cap ∧ b < B ∧ xs.length ≤ cap ∧ ∀ i u, xs[i]? = some u → w.cell? ⟨b, off + i, none⟩ = some u
theorem Rd.below {B B' : Nat} {w w' : World} {v : Value} {xs : List Value} (h : Rd B w v xs) (hb : Below B' w w') (hB : B ≤ B') : Rd B w' v xs := by
  rcases h with h | ⟨b, off, cap, hv, hlt, hcp, hc⟩
  · exact .inl h
  · exact .inr ⟨b, off, cap, hv, hlt, hcp, fun i u hi => (hb.cell (p := ⟨b, off + i, none⟩) (Nat.lt_of_lt_of_le hlt hB)).trans (hc i u hi)⟩
theorem Rd.mono {B B' : Nat} {w : World} {v : Value} {xs : List Value} (h : Rd B w v xs) (hB : B ≤ B') : Rd B' w v xs := by
  rcases h with h | ⟨b, off, cap, hv, hlt, hcp, hc⟩
  · exact .inl h
  · exact .inr ⟨b, off, cap, hv, Nat.lt_of_lt_of_le hlt hB, hcp, hc⟩
theorem Rd.of_own {base : Nat} {E : TypeId} {w : World} {v : Value} {n : Nat} {xs : List Value} (h : w.ownsRow base E 1 v n xs) : Rd w.heap.size w v xs := by
  have hlen : xs.length = n := by have := h.1; omega
  have hlt := h.lt
  rcases h.2 with ⟨rfl, rfl⟩ | ⟨g, cap, cur, rfl, -, hg, hnc, -⟩
  · exact .inl ⟨List.eq_nil_of_length_eq_zero hlen, _, _, rfl⟩
  · refine .inr ⟨g, 0, cap, by rw [hlen], (hlt g rfl).2, by omega, fun i u hi => ?_⟩
    have hi' : i < n := by
      have := (List.getElem?_eq_some_iff.1 hi).1
      omega
    rw [Nat.zero_add, h.cellAt i (by omega)]
    exact hi
theorem Rd.drewN {B : Nat} {w : World} {v : Value} {xs : List Value} (h : Rd B w v xs) (k : Nat) : Rd B (w.drewN k) v xs := by
  rcases h with h | ⟨b, off, cap, hv, hlt, hcp, hc⟩
  · exact .inl h
  · exact .inr ⟨b, off, cap, hv, hlt, hcp, fun i u hi => hc i u hi⟩
def ints (zs : List Int) : List Value := zs.map (Value.int .i64)
def strs (ss : List ByteArray) : List Value := ss.map Value.string
theorem ints_len (zs : List Int) : (ints zs).length = zs.length := by simp [ints]
theorem strs_len (ss : List ByteArray) : (strs ss).length = ss.length := by simp [strs]
theorem ints_at (zs : List Int) (i : Nat) (h : i < zs.length) : (ints zs)[i]? = some (.int .i64 zs[i]) := by simp [ints, h]
theorem strs_at (ss : List ByteArray) (i : Nat) (h : i < ss.length) : (strs ss)[i]? = some (.string ss[i]) := by simp [strs, h]
/-- A read slice of integers: nil or empty, or so many cells. -/
theorem Rd.ints_cases {B : Nat} {w : World} {v : Value} {zs : List Int} (h : Rd B w v (ints zs)) :
    (zs = [] ∧ ∃ a cap, v = .slice a 0 cap) ∨ ∃ b off cap, v = .slice (some ⟨b, off, none⟩) zs.length cap ∧ b < B ∧ zs.length ≤ cap ∧ ∀ i (hi : i < zs.length), w.cell? ⟨b, off + i, none⟩ = some (.int .i64 zs[i]) := by
  rcases h with ⟨h, a, cap, hv⟩ | ⟨b, off, cap, hv, hlt, hcp, hc⟩
  · exact .inl ⟨by simpa [ints] using h, a, cap, hv⟩
  · exact .inr ⟨b, off, cap, by rw [hv, ints_len], hlt, by rw [ints_len] at hcp; exact hcp, fun i hi => hc i _ (ints_at zs i hi)⟩
theorem Rd.strs_cases {B : Nat} {w : World} {v : Value} {ss : List ByteArray} (h : Rd B w v (strs ss)) :
    (ss = [] ∧ ∃ a cap, v = .slice a 0 cap) ∨ ∃ b off cap, v = .slice (some ⟨b, off, none⟩) ss.length cap ∧ b < B ∧ ss.length ≤ cap ∧ ∀ i (hi : i < ss.length), w.cell? ⟨b, off + i, none⟩ = some (.string ss[i]) := by
  rcases h with ⟨h, a, cap, hv⟩ | ⟨b, off, cap, hv, hlt, hcp, hc⟩
  · exact .inl ⟨by simpa [strs] using h, a, cap, hv⟩
  · exact .inr ⟨b, off, cap, by rw [hv, strs_len], hlt, by rw [strs_len] at hcp; exact hcp, fun i hi => hc i _ (strs_at ss i hi)⟩
theorem ints_form {B : Nat} {v : Value} {xs : List Int} {w : World} (h : Rd B w v (ints xs)) : ∃ a cap, v = .slice a xs.length cap ∧ (0 < xs.length → ∃ b off, a = some ⟨b, off, none⟩ ∧ b < B ∧ ∀ i (h : i < xs.length), w.cell? ⟨b, off + i, none⟩ = some (.int .i64 xs[i])) := by
  rcases h.ints_cases with ⟨rfl, a, ca, rfl⟩ | ⟨b, off, ca, rfl, hlt, -, hc⟩
  · exact ⟨a, ca, rfl, fun h => by simp at h⟩
  · exact ⟨_, ca, rfl, fun _ => ⟨b, off, rfl, hlt, hc⟩⟩
theorem ints_cell {w : World} {b off n : Nat} {xs : List Int} (hn : xs.length = n) (hc : ∀ i (h : i < xs.length), w.cell? ⟨b, off + i, none⟩ = some (.int .i64 xs[i])) {k : Nat} (hk : k < n) :
    ∃ x, w.cell? ⟨b, off + k, none⟩ = some (.int .i64 x) ∧ Hid (xs[k]? = some x) :=
  ⟨xs[k]'(by omega), hc k (by omega), List.getElem?_eq_getElem (by omega)⟩
theorem strs_cell {w : World} {b off n : Nat} {xs : List ByteArray} (hn : xs.length = n) (hc : ∀ i (h : i < xs.length), w.cell? ⟨b, off + i, none⟩ = some (.string xs[i])) {k : Nat} (hk : k < n) :
    ∃ x, w.cell? ⟨b, off + k, none⟩ = some (.string x) ∧ Hid (xs[k]? = some x) :=
  ⟨xs[k]'(by omega), hc k (by omega), List.getElem?_eq_getElem (by omega)⟩
theorem take_step {α : Type} {xs ys : List α} {k : Nat} {x : α} (h : xs.take k = ys.take k) (hx : xs[k]? = some x) (hy : ys[k]? = some x) : xs.take (k + 1) = ys.take (k + 1) := by
  rw [List.take_add_one, List.take_add_one, h, hx, hy]
theorem ne_of_step {α : Type} {xs ys : List α} {k : Nat} {x y : α} (hx : xs[k]? = some x) (hy : ys[k]? = some y) (h : x ≠ y) : xs ≠ ys := by
  intro e; rw [e, hy] at hx; exact h (Option.some.inj hx).symm
end Go.Proofs.Ytdheakjjnaifkaa
namespace Go.Proofs.Ytdheakjjnaifkaa
set_option maxRecDepth 20000
open Go.RowKit


set_option maxHeartbeats 400000 in
theorem to_ints_full (a : Option Addr) (cap n : Nat) (xs : List Int) (w : World) (hn : n ≤ 17592186044416) (hx : xs.length = n)
    (ha : 0 < n → ∃ b off, a = some ⟨b, off, none⟩ ∧ b < w.heap.size ∧ ∀ i (h : i < xs.length), w.cell? ⟨b, off + i, none⟩ = some (.int .i64 xs[i])) :
    Calls Try.prog 28 #[.slice a n cap] w fun e w' => ∃ r, e = .returned r ∧ w'.ownsRow w.heap.size 3 1 r n (ints xs) ∧ Below w.heap.size w w' := by
  have HA := Lib.hid ha
  have L1 := Lib.hid hx
  clear ha hx
  obtain ⟨i0, hi, hz0, hz1, hz2⟩ := info_parts infoInt
  go_enter Try.func28, Try.ntmps28
  go_wp2_with (at_make; refine wpList_make_full _ rfl _ _ 25 rfl w.heap.size 3 i0 (.int .i64 0) 1 Try.underlying25 hi hz0 hz1 .i64 .i64 _ _ n rfl rfl rfl rfl (by rw [hz2]; omega) (by unfold maxLen; omega) (by simp) ?_; intro w1 hown hgrow)
  have OW := Lib.hid hown
  have hb1 := (Below.refl w.heap.size w).grown hgrow (Nat.le_refl _) (fun j hj => by cases hj)
  have hz := hb1.size
  have HB := Lib.hid hb1
  clear hown hgrow hb1 hi hz0 hz1 hz2
  go_loopw [4] (fun i wr => ∃ (k : Nat) (cs : List Value), k ≤ n ∧ i = .int .i64 k ∧ Hid (wr.ownsRow w.heap.size 3 1 (.slice (some ⟨w.heap.size, 0, none⟩) n n) n cs) ∧ Hid (∀ j, j < k → cs[j]? = (ints xs)[j]?) ∧ Hid (Below w.heap.size w wr)) (fun i _ => n - (intOf i).toNat)
  case atStart => exact ⟨0, _, by omega, rfl, OW, fun j hj => by omega, HB⟩
  case round =>
    obtain ⟨k, cs, hk, rfl, HO, HC, HBW⟩ := hrel
    by_cases hlt : k < n
    · obtain ⟨b, off, rfl, hbw, hcell⟩ := HA.out (by omega)
      obtain ⟨x, c1, X1⟩ := ints_cell L1.out hcell hlt
      have c2 : wr.cell? ⟨b, off + k, none⟩ = some (.int .i64 x) := (HBW.out.cell (p := ⟨b, off + k, none⟩) hbw).trans c1
      have clen : cs.length = n := by have := HO.out.1; omega
      have c3 : wr.cell? ⟨w.heap.size, k, none⟩ = some (cs[k]'(by omega)) := by
        rw [HO.out.cellAt k (by omega)]; exact List.getElem?_eq_getElem _
      have f3 := HO.out.frozenAt k
      have st := HO.out.stored k (.int .i64 x)
      have ST := Lib.hid st
      clear hcell c1 st
      go_wp2
      go_roundw
      case rel =>
        refine ⟨k + 1, cs.set k (.int .i64 x), by omega, by go_num, ST.out.1, ?_, HBW.out.setCell (Nat.le_refl _) _⟩
        intro j hj
        by_cases e : j = k
        · subst e
          rw [List.getElem?_set_self (by omega)]
          have := X1.out
          simp [ints, this]
        · rw [List.getElem?_set_ne (by omega)]
          exact HC.out j (by omega)
      case measure => simp [intOf]; omega
    · obtain rfl : k = n := by omega
      go_wp2
      go_ret
      refine ⟨_, rfl, ?_, HBW.out⟩
      have e : cs = ints xs := by
        apply List.ext_getElem?
        intro j
        by_cases hj : j < k
        · exact HC.out j hj
        · have clen : cs.length = k := by have := HO.out.1; omega
          rw [List.getElem?_eq_none (by omega), List.getElem?_eq_none (by rw [ints_len, L1.out]; omega)]
      exact e ▸ HO.out

/-- laws.toIntS, at any slice of integers. -/
theorem to_ints {B : Nat} {v : Value} {xs : List Int} {w : World} (h : Rd B w v (ints xs)) (hB : B ≤ w.heap.size) (hn : xs.length ≤ 17592186044416) :
    Calls Try.prog 28 #[v] w fun e w' => ∃ r, e = .returned r ∧ w'.ownsRow w.heap.size 3 1 r xs.length (ints xs) ∧ Below w.heap.size w w' := by
  rcases h.ints_cases with ⟨rfl, a, ca, rfl⟩ | ⟨b, off, ca, rfl, hlt, -, hc⟩
  · exact to_ints_full a ca 0 [] w (by omega) rfl (fun h => by omega)
  · exact to_ints_full _ ca xs.length xs w hn rfl (fun _ => ⟨b, off, rfl, by omega, hc⟩)
end Go.Proofs.Ytdheakjjnaifkaa
namespace Go.Proofs.Ytdheakjjnaifkaa
set_option maxRecDepth 20000
open Go.RowKit

set_option maxHeartbeats 400000 in
theorem eq_ints_len (a b : Option Addr) (n m ca cb : Nat) (w : World) (hne : n ≠ m) :
    Calls Try.prog 19 #[.slice a n ca, .slice b m cb] w fun e w' => e = .returned (.bool false) ∧ w = w' := by
  have hq : ((n : Int) != (m : Int)) = true := by simp; omega
  go_enter Try.func19, Try.ntmps19
  go_wp2
  go_ret
  exact ⟨rfl, rfl⟩

set_option maxHeartbeats 400000 in
theorem eq_ints_nil (a b : Option Addr) (ca cb : Nat) (w : World) :
    Calls Try.prog 19 #[.slice a 0 ca, .slice b 0 cb] w fun e w' => e = .returned (.bool true) ∧ w = w' := by
  go_enter Try.func19, Try.ntmps19
  go_wp2
  go_loop [5] (fun i => i = .int .i64 0) (fun _ => 0)
  case atStart => rfl
  case round =>
    subst hrel
    go_wp2
    go_ret
    exact ⟨rfl, rfl⟩

set_option maxHeartbeats 400000 in
theorem eq_ints_full (b off cap b' off' cap' n : Nat) (xs ys : List Int) (w : World) (hn : n ≤ 281474976710656) (hx : xs.length = n) (hy : ys.length = n)
    (hcx : ∀ i (h : i < xs.length), w.cell? ⟨b, off + i, none⟩ = some (.int .i64 xs[i])) (hcy : ∀ i (h : i < ys.length), w.cell? ⟨b', off' + i, none⟩ = some (.int .i64 ys[i])) :
    Calls Try.prog 19 #[.slice (some ⟨b, off, none⟩) n cap, .slice (some ⟨b', off', none⟩) n cap'] w fun e w' => e = .returned (.bool (decide (xs = ys))) ∧ ∃ q, w' = w.drewN q := by
  have HX := Lib.hid hcx
  have HY := Lib.hid hcy
  have L1 := Lib.hid hx
  have L2 := Lib.hid hy
  clear hcx hcy hx hy
  go_enter Try.func19, Try.ntmps19
  go_wp2
  go_loopw [5] (fun i wr => ∃ k : Nat, k ≤ n ∧ i = .int .i64 k ∧ Hid (xs.take k = ys.take k) ∧ ∃ q, wr = w.drewN q) (fun i _ => n - (intOf i).toNat)
  case atStart => exact ⟨0, by omega, rfl, rfl, 0, rfl⟩
  case round =>
    obtain ⟨k, hk, rfl, HE, q, rfl⟩ := hrel
    by_cases hlt : k < n
    · obtain ⟨x, c1, X1⟩ := ints_cell L1.out HX.out hlt
      obtain ⟨y, c2, Y1⟩ := ints_cell L2.out HY.out hlt
      by_cases hxy : x = y
      · subst hxy
        go_wp2
        go_quiet (fail)
        go_wp2
        go_roundw
        case rel => exact ⟨k + 1, by omega, by go_num, take_step HE.out X1.out Y1.out, _, by first | rfl | (simp only [World.drewN_drewN]; rfl)⟩
        case measure => simp [intOf]; omega
      · have hq : (x != y) = true := by simpa using hxy
        have HN := Lib.hid (ne_of_step X1.out Y1.out hxy)
        clear hxy
        go_wp2
        go_quiet (fail)
        go_wp2
        go_ret
        exact ⟨by rw [decide_eq_false HN.out]; rfl, _, by first | rfl | (simp only [World.drewN_drewN]; rfl)⟩
    · obtain rfl : k = n := by omega
      go_wp2
      go_ret
      exact ⟨by have h := HE.out; rw [List.take_of_length_le (by rw [L1.out]; omega), List.take_of_length_le (by rw [L2.out]; omega)] at h; rw [decide_eq_true h]; rfl, q, rfl⟩

/-- laws.eqIntS, at any two slices of integers. -/
theorem eq_ints {B B' : Nat} {va vb : Value} {xs ys : List Int} {w : World} (ha : Rd B w va (ints xs)) (hb : Rd B' w vb (ints ys)) (hn : xs.length ≤ 281474976710656) :
    Calls Try.prog 19 #[va, vb] w fun e w' => e = .returned (.bool (decide (xs = ys))) ∧ ∃ q, w' = w.drewN q := by
  have same0 : ∀ (a b : Option Addr) (ca cb : Nat), Calls Try.prog 19 #[.slice a 0 ca, .slice b 0 cb] w fun e w' => e = .returned (.bool true) ∧ w = w' := fun a b ca cb => eq_ints_nil a b ca cb w
  rcases ha.ints_cases with ⟨rfl, a, ca, rfl⟩ | ⟨b, off, ca, rfl, -, -, hca⟩
  · rcases hb.ints_cases with ⟨rfl, a', ca', rfl⟩ | ⟨b', off', ca', rfl, -, -, hcb⟩
    · exact (same0 _ _ _ _).mono fun e w' ⟨he, hw⟩ => ⟨he, 0, hw.symm⟩
    · by_cases h0 : ys = []
      · subst h0
        exact (same0 _ _ _ _).mono fun e w' ⟨he, hw⟩ => ⟨he, 0, hw.symm⟩
      · exact (eq_ints_len _ _ _ _ _ _ w (by have := List.length_pos_iff.2 h0; omega)).mono fun e w' ⟨he, hw⟩ => ⟨by rw [he, decide_eq_false (fun h => h0 h.symm)], 0, hw.symm⟩
  · rcases hb.ints_cases with ⟨rfl, a', ca', rfl⟩ | ⟨b', off', ca', rfl, -, -, hcb⟩
    · by_cases h0 : xs = []
      · subst h0
        exact (same0 _ _ _ _).mono fun e w' ⟨he, hw⟩ => ⟨he, 0, hw.symm⟩
      · exact (eq_ints_len _ _ _ _ _ _ w (by have := List.length_pos_iff.2 h0; simp; omega)).mono fun e w' ⟨he, hw⟩ => ⟨by rw [he, decide_eq_false h0], 0, hw.symm⟩
    · by_cases hl : xs.length = ys.length
      · rw [← hl]
        exact eq_ints_full b off ca b' off' ca' xs.length xs ys w hn rfl hl.symm hca hcb
      · exact (eq_ints_len _ _ _ _ _ _ w hl).mono fun e w' ⟨he, hw⟩ => ⟨by rw [he, decide_eq_false (fun h => hl (by rw [h]))], 0, hw.symm⟩
end Go.Proofs.Ytdheakjjnaifkaa
namespace Go.Proofs.Ytdheakjjnaifkaa
set_option maxRecDepth 20000
open Go.RowKit

/-- Outside of the blocks from lo to hi nothing has changed. -/
def KeptOut (w w' : World) (lo hi : Nat) : Prop := w'.os = w.os ∧ w'.tape = w.tape ∧ w'.output = w.output ∧ w.heap.size ≤ w'.heap.size ∧ ∀ b, b < w.heap.size → (b < lo ∨ hi ≤ b) → w'.heap[b]? = w.heap[b]?
theorem KeptOut.refl (w : World) (lo hi : Nat) : KeptOut w w lo hi := ⟨rfl, rfl, rfl, Nat.le_refl _, fun _ _ _ => rfl⟩
theorem KeptOut.trans {w w1 w2 : World} {lo hi : Nat} (h : KeptOut w w1 lo hi) (h2 : KeptOut w1 w2 lo hi) : KeptOut w w2 lo hi :=
  ⟨h2.1.trans h.1, h2.2.1.trans h.2.1, h2.2.2.1.trans h.2.2.1, Nat.le_trans h.2.2.2.1 h2.2.2.2.1, fun b hb hx => (h2.2.2.2.2 b (Nat.lt_of_lt_of_le hb h.2.2.2.1) hx).trans (h.2.2.2.2 b hb hx)⟩
theorem KeptOut.wide {w w1 : World} {lo hi lo' hi' : Nat} (h : KeptOut w w1 lo hi) (h1 : lo' ≤ lo) (h2 : hi ≤ hi') : KeptOut w w1 lo' hi' :=
  ⟨h.1, h.2.1, h.2.2.1, h.2.2.2.1, fun b hb hx => h.2.2.2.2 b hb (by omega)⟩
theorem KeptOut.of {w w1 : World} {lo hi : Nat} {r : Option Nat} (h : w.grownBy w1 r) (hr : ∀ g, r = some g → lo ≤ g ∧ g < hi) : KeptOut w w1 lo hi :=
  ⟨h.os, h.tape, h.output, h.size, fun b hb hx => h.block b hb (fun e => by have := hr b e.symm; omega)⟩
theorem KeptOut.below {w w1 : World} {lo hi B : Nat} {w0 : World} (h : KeptOut w w1 lo hi) (hb : Below B w0 w) (hB : B ≤ lo) (hs : B ≤ w.heap.size) : Below B w0 w1 := by
  have h3 : Below B w w1 := ⟨h.1, h.2.1, h.2.2.1, h.2.2.2.1, fun b hlt => h.2.2.2.2 b (by omega) (.inl (by omega))⟩
  exact hb.trans h3
theorem KeptOut.cell {w w1 : World} {lo hi : Nat} (h : KeptOut w w1 lo hi) {b o : Nat} {x : Value} (hc : w.cell? ⟨b, o, none⟩ = some x) (hb : b < w.heap.size) (hd : b < lo ∨ hi ≤ b) : w1.cell? ⟨b, o, none⟩ = some x :=
  (World.cell?_of_block (w := w) (h.2.2.2.2 b hb hd)).trans hc
theorem KeptOut.rd {w w1 : World} {lo hi B : Nat} {v : Value} {xs : List Value} (h : KeptOut w w1 lo hi) (hr : Rd B w v xs) (hB : B ≤ lo) (hs : B ≤ w.heap.size) : Rd B w1 v xs := by
  rcases hr with hr | ⟨b, off, cap, hv, hlt, hcp, hc⟩
  · exact .inl hr
  · exact .inr ⟨b, off, cap, hv, hlt, hcp, fun i u hi => h.cell (hc i u hi) (by omega) (.inl (by omega))⟩
theorem KeptOut.of_below {w w1 : World} {lo hi : Nat} (h : Below w.heap.size w w1) : KeptOut w w1 lo hi := ⟨h.os, h.tape, h.output, h.size, fun b hb _ => h.block b hb⟩
end Go.Proofs.Ytdheakjjnaifkaa
namespace Go.Proofs.Ytdheakjjnaifkaa
set_option maxRecDepth 20000
open Go.RowKit

/-- v is a row of integers xs of the call's own, whose block, if it has one, lies from lo to hi. -/
def Own (w : World) (lo hi : Nat) (v : Value) (xs : List Int) : Prop :=
  w.ownsRow lo 3 1 v xs.length (ints xs) ∧ (∀ g, v.ownBlock = some g → g < hi) ∧ hi ≤ w.heap.size
/-- What a function that makes a row answers. -/
def NewRow (w : World) (xs : List Int) (e : Ending) (w' : World) : Prop := ∃ r, e = .returned r ∧ Own w' w.heap.size w'.heap.size r xs ∧ Below w.heap.size w w'
theorem Own.of {w : World} {lo n : Nat} {v : Value} {xs : List Int} (h : w.ownsRow lo 3 1 v n (ints xs)) (hn : xs.length = n) : Own w lo w.heap.size v xs :=
  ⟨hn ▸ h, fun g hg => (h.lt g hg).2, Nat.le_refl _⟩
theorem Own.nil (w : World) (lo : Nat) : Own w lo w.heap.size (.slice none 0 0) [] := ⟨World.ownsRow_nil _ _ _ _, (fun g hg => by cases hg), Nat.le_refl _⟩
theorem Own.lo {w : World} {lo hi : Nat} {v : Value} {xs : List Int} (h : Own w lo hi v xs) : ∀ g, v.ownBlock = some g → lo ≤ g := fun g hg => (h.1.lt g hg).1
theorem Own.kept {w w' : World} {lo hi : Nat} {v : Value} {xs : List Int} {row : Option Nat} (h : Own w lo hi v xs) (hg : w.grownBy w' row) (hne : ∀ g, row = some g → g < lo ∨ hi ≤ g) : Own w' lo hi v xs :=
  ⟨h.1.kept (row := row) hg (by
    cases hv : v.ownBlock with
    | none => exact .inl rfl
    | some g =>
      refine .inr fun e => ?_
      have h1 := h.2.1 g hv
      have h2 := h.lo g hv
      rcases hne g e.symm with h3 | h3 <;> omega), h.2.1, Nat.le_trans h.2.2 hg.size⟩
theorem Own.below {w w' : World} {lo hi B : Nat} {v : Value} {xs : List Int} (h : Own w lo hi v xs) (hb : Below B w w') (hB : w.heap.size ≤ B) : Own w' lo hi v xs :=
  h.kept (row := none) ⟨hb.os, hb.tape, hb.output, hb.size, fun k hk _ => hb.block k (Nat.lt_of_lt_of_le hk hB)⟩ (fun g hg => by cases hg)
theorem Own.rd {w : World} {lo hi : Nat} {v : Value} {xs : List Int} (h : Own w lo hi v xs) : Rd hi w v (ints xs) := by
  rcases Rd.of_own h.1 with ⟨h1, a, cap, rfl⟩ | ⟨b, off, cap, rfl, h2, h3⟩
  · exact .inl ⟨h1, a, cap, rfl⟩
  · exact .inr ⟨b, off, cap, rfl, h.2.1 b rfl, h3⟩
theorem Rd.kept {B : Nat} {w w' : World} {v : Value} {xs : List Value} {row : Option Nat} (h : Rd B w v xs) (hg : w.grownBy w' row) (hB : B ≤ w.heap.size) (hne : ∀ g, row = some g → B ≤ g) : Rd B w' v xs := by
  rcases h with h | ⟨b, off, cap, hv, hlt, hcp, hc⟩
  · exact .inl h
  · refine .inr ⟨b, off, cap, hv, hlt, hcp, fun i u hi => ?_⟩
    have hb : w'.heap[b]? = w.heap[b]? := hg.block b (by omega) (fun e => by have := hne b e.symm; omega)
    rw [← hc i u hi]
    exact World.cell?_of_block (w := w) hb
theorem below_of_drewN {w w' : World} {q : Nat} (h : w' = w.drewN q) : Below w.heap.size w w' := h ▸ below_drewN (Below.refl _ _) q

def marksI (s n : Nat) : List Int := (List.range n).map fun i => ((s + i : Nat) : Int)
theorem marksI_len (s n : Nat) : (marksI s n).length = n := by simp [marksI]
theorem marksI_at (s n i : Nat) (h : i < n) : (marksI s n)[i]? = some ((s + i : Nat) : Int) := by simp [marksI, h]
theorem grownBy_setCell {w w1 : World} {r : Option Nat} (h : w.grownBy w1 r) {p : Addr} (hp : some p.block = r) (u : Value) : w.grownBy (w1.setCell p u) r :=
  ⟨h.os, h.tape, h.output, by simpa using h.size, fun k hk hr => (Below.heap_setCell w1 p u k (fun e => hr (by rw [e, hp]))).trans (h.block k hk hr)⟩

set_option maxHeartbeats 400000 in
theorem marks_full (g cap n B s : Nat) (xs : List Value) (w : World) (hn : n ≤ 4611686018427387904) (hs : s ≤ 2305843009213693952) (hown : w.ownsRow B 3 1 (.slice (some ⟨g, 0, none⟩) n cap) n xs) :
    Calls Try.prog 21 #[.slice (some ⟨g, 0, none⟩) n cap, .int .i64 s] w fun e w' => e = .returned (.int .i64 ((s + n : Nat) : Int)) ∧ w'.ownsRow B 3 1 (.slice (some ⟨g, 0, none⟩) n cap) n (ints (marksI s n)) ∧ w.grownBy w' (some g) := by
  have OW := Lib.hid hown
  clear hown
  go_enter Try.func21, Try.ntmps21
  go_wp2
  go_loopw [1, 5] (fun q i wr => ∃ (k : Nat) (cs : List Value), k ≤ n ∧ i = .int .i64 k ∧ q = .int .i64 ((s + k : Nat) : Int) ∧ Hid (wr.ownsRow B 3 1 (.slice (some ⟨g, 0, none⟩) n cap) n cs) ∧ Hid (∀ j, j < k → cs[j]? = (ints (marksI s n))[j]?) ∧ Hid (w.grownBy wr (some g))) (fun _ i _ => n - (intOf i).toNat)
  case atStart => exact ⟨0, xs, by omega, rfl, rfl, OW, fun j hj => by omega, ⟨rfl, rfl, rfl, Nat.le_refl _, fun _ _ _ => rfl⟩⟩
  case round =>
    obtain ⟨k, cs, hk, rfl, rfl, HO, HC, HG⟩ := hrel
    obtain ⟨q, hq⟩ : ∃ q, q = s + k := ⟨_, rfl⟩
    rw [← hq]
    have HQ := Lib.hid hq
    have hq2 : q ≤ 6917529027641081856 := by omega
    clear hq
    by_cases hlt : k < n
    · have clen : cs.length = n := by have := HO.out.1; omega
      have c3 : wr.cell? ⟨g, k, none⟩ = some (cs[k]'(by omega)) := by
        rw [HO.out.cellAt k (by omega)]; exact List.getElem?_eq_getElem _
      have f3 := HO.out.frozenAt k
      have ST := Lib.hid (HO.out.stored k (.int .i64 (q : Int)))
      go_wp2
      go_roundw
      case rel =>
        refine ⟨k + 1, cs.set k (.int .i64 (q : Int)), by omega, by go_num, by rw [show s + (k + 1) = q + 1 from by rw [HQ.out]; omega]; go_num, ST.out.1, ?_, grownBy_setCell HG.out rfl _⟩
        intro j hj
        by_cases e : j = k
        · subst e
          rw [List.getElem?_set_self (by omega), ints_at _ _ (by rw [marksI_len]; omega)]
          simp [marksI, HQ.out]
        · rw [List.getElem?_set_ne (by omega)]
          exact HC.out j (by omega)
      case measure => simp [intOf]; omega
    · obtain rfl : k = n := by omega
      go_wp2
      go_ret
      have e : cs = ints (marksI s k) := by
        apply List.ext_getElem?
        intro j
        by_cases hj : j < k
        · exact HC.out j hj
        · have clen : cs.length = k := by have := HO.out.1; omega
          rw [List.getElem?_eq_none (by omega), List.getElem?_eq_none (by rw [ints_len, marksI_len]; omega)]
      exact ⟨by rw [← HQ.out]; rfl, e ▸ HO.out, HG.out⟩

set_option maxHeartbeats 400000 in
theorem marks_none (s : Nat) (w : World) :
    Calls Try.prog 21 #[.slice none 0 0, .int .i64 s] w fun e w' => e = .returned (.int .i64 s) ∧ w = w' := by
  go_enter Try.func21, Try.ntmps21
  go_wp2
  go_loop [1, 5] (fun q i => q = .int .i64 s ∧ i = .int .i64 0) (fun _ _ => 0)
  case atStart => exact ⟨rfl, rfl⟩
  case round =>
    obtain ⟨rfl, rfl⟩ := hrel
    go_wp2
    go_ret
    exact ⟨rfl, rfl⟩

/-- laws.markIntS on a row of the call's own, from the mark s on. -/
theorem marks_from {lo hi : Nat} {v : Value} {xs : List Int} {w : World} {z : Int} (s : Nat) (hz : z = (s : Int)) (h : Own w lo hi v xs) (hn : xs.length ≤ 4611686018427387904) (hs : s ≤ 2305843009213693952) :
    Calls Try.prog 21 #[v, .int .i64 z] w fun e w' => e = .returned (.int .i64 ((s + xs.length : Nat) : Int)) ∧ Own w' lo hi v (marksI s xs.length) ∧ w.grownBy w' v.ownBlock := by
  subst hz
  obtain ⟨hown, hlt, hsz⟩ := h
  rcases hown.2 with ⟨rfl, h0⟩ | ⟨g, cap, cur, rfl, -⟩
  · rw [h0]
    exact (marks_none s w).mono fun e w' ⟨he, hw⟩ => ⟨he, hw ▸ ⟨World.ownsRow_nil _ _ _ _, hlt, hsz⟩, hw ▸ ⟨rfl, rfl, rfl, Nat.le_refl _, fun _ _ _ => rfl⟩⟩
  · exact (marks_full g cap _ lo s _ w hn hs hown).mono fun e w' ⟨he, ho, hg⟩ => ⟨he, ⟨by rw [marksI_len]; exact ho, hlt, Nat.le_trans hsz hg.size⟩, hg⟩

set_option maxHeartbeats 400000 in
theorem helds_full (a : Option Addr) (cap n s : Nat) (w : World) (hn : n ≤ 4611686018427387904) (hs : s ≤ 2305843009213693952)
    (ha : 0 < n → ∃ b off, a = some ⟨b, off, none⟩ ∧ ∀ i, i < n → w.cell? ⟨b, off + i, none⟩ = some (.int .i64 ((s + i : Nat) : Int))) :
    Calls Try.prog 22 #[.slice a n cap, .int .i64 s] w fun e w' => e = .returned (.int .i64 ((s + n : Nat) : Int)) ∧ w = w' := by
  have HA := Lib.hid ha
  clear ha
  go_enter Try.func22, Try.ntmps22
  go_wp2
  go_loop [1, 5] (fun q i => ∃ k : Nat, k ≤ n ∧ i = .int .i64 k ∧ q = .int .i64 ((s + k : Nat) : Int)) (fun _ i => n - (intOf i).toNat)
  case atStart => exact ⟨0, by omega, rfl, rfl⟩
  case round =>
    obtain ⟨k, hk, rfl, rfl⟩ := hrel
    obtain ⟨q, hq⟩ : ∃ q, q = s + k := ⟨_, rfl⟩
    rw [← hq]
    have HQ := Lib.hid hq
    have hq2 : q ≤ 6917529027641081856 := by omega
    by_cases hlt : k < n
    · obtain ⟨b, off, rfl, hcell⟩ := HA.out (by omega)
      have c1 := hcell k hlt
      rw [← hq] at c1
      clear hcell hq
      go_wp2
      go_round
      case rel => exact ⟨k + 1, by omega, by go_num, by rw [show s + (k + 1) = q + 1 from by rw [HQ.out]; omega]; go_num⟩
      case measure => simp [intOf]; omega
    · obtain rfl : k = n := by omega
      clear hq
      go_wp2
      go_ret
      exact ⟨by rw [show ((s : Int) + (k : Int)) = (q : Int) from by have := HQ.out; omega]; rfl, rfl⟩
/-- laws.heldIntS finds the marks again. -/
theorem helds_from {B n : Nat} {v : Value} {w : World} {z : Int} (s : Nat) (hz : z = (s : Int)) (hr : Rd B w v (ints (marksI s n))) (hn : n ≤ 4611686018427387904) (hs : s ≤ 2305843009213693952) :
    Calls Try.prog 22 #[v, .int .i64 z] w fun e w' => e = .returned (.int .i64 ((s + n : Nat) : Int)) ∧ w = w' := by
  subst hz
  rcases hr.ints_cases with ⟨h0, a, ca, rfl⟩ | ⟨b, off, ca, rfl, hlt, -, hc⟩
  · have e : n = 0 := by have := congrArg List.length h0; rw [marksI_len] at this; simpa using this
    subst e
    exact helds_full a ca 0 s w (by omega) hs (fun h => by omega)
  · rw [marksI_len]
    refine helds_full _ ca n s w hn hs (fun _ => ⟨b, off, rfl, fun i hi => ?_⟩)
    have h := hc i (by rw [marksI_len]; exact hi)
    rw [h]
    have h2 := marksI_at s n i hi
    rw [List.getElem?_eq_getElem (by rw [marksI_len]; exact hi)] at h2
    rw [Option.some.inj h2]
/-- laws.toIntS, laws.eqIntS in the laws' words. -/
theorem to_row {B : Nat} {v : Value} {xs : List Int} {w : World} (h : Rd B w v (ints xs)) (hB : B ≤ w.heap.size) (hn : xs.length ≤ 17592186044416) :
    Calls Try.prog 28 #[v] w (NewRow w xs) :=
  (to_ints h hB hn).mono fun _ _ ⟨r, he, ho, hb⟩ => ⟨r, he, Own.of ho rfl, hb⟩
theorem eq_rows {B B' : Nat} {va vb : Value} {xs ys : List Int} {w : World} (ha : Rd B w va (ints xs)) (hb : Rd B' w vb (ints ys)) (he : xs = ys) (hn : xs.length ≤ 281474976710656) :
    Calls Try.prog 19 #[va, vb] w fun e w' => e = .returned (.bool true) ∧ Below w.heap.size w w' :=
  (eq_ints ha hb hn).mono fun _ _ ⟨h1, _, h2⟩ => ⟨by rw [h1, decide_eq_true he], below_of_drewN h2⟩
end Go.Proofs.Ytdheakjjnaifkaa
