
/- l02Draw, MakeRing, MakeElem: a valid ring, an element of it. -/
import Derived.Test.YtgabcdploeledaaMakeRing
import Derived.Test.YtgabcdploeledaaZero
import Derived.Test.YtgabcdploeledaaPow2
import Derived.Test.YtgabcdploeledaaPlusSpec
import Derived.Deep.RegionHeld3
namespace Go.Proofs.Ytgabcdploeledaa
set_option maxRecDepth 20000
open Go.RowKit

set_option maxHeartbeats 400000 in
theorem cur_once {cb B : Nat} {v : Value} {bs : List UInt8} {w : World} (n : Nat) (hn : 0 < n) (hn2 : n ≤ 256) (hc : CurOk w cb B v bs) :
    Calls Try.prog 134 #[.pointer (some ⟨cb, 0, none⟩), .int .i64 n] w fun e w' => ∃ b, e = .returned (.bool b) ∧ CurOk w' cb B v bs ∧ KeptOut w w' cb (cb + 1) := by
  have HC := Lib.hid hc
  clear hc
  go_enter Try.func134, Try.ntmps134
  go_wp2_with fail
  refine (cur_below n hn hn2 HC.out).mono ?_
  rintro e w1 ⟨x, rfl, hx, h1, k1⟩
  have H1 := Lib.hid h1
  have K1 := Lib.hid k1
  clear h1 k1
  go_wp2
  go_ret
  exact ⟨_, rfl, H1.out, K1.out⟩
theorem Own.widen {w : World} {lo lo' hi hi' : Nat} {v : Value} {xs : List Int} (h : Own w lo hi v xs) (h1 : lo' ≤ lo) (h2 : hi ≤ hi') (h3 : hi' ≤ w.heap.size) : Own w lo' hi' v xs :=
  ⟨h.1.mono h1, fun g hg => Nat.lt_of_lt_of_le (h.2.1 g hg) h2, h3⟩
/-- What is carried along the drawing of an element. -/
structure ES (w0 w : World) (cb B : Nat) (v : Value) (bs : List UInt8) (rb : Nat) (k p n : Int) : Prop where
  cur : CurOk w cb B v bs
  box : BoxAt w rb k p n
  bel : Below B w0 w
  lt : rb < w.heap.size
  ne : cb < rb
  sz : B ≤ w.heap.size
  up : w0.heap.size ≤ w.heap.size
  kp : KeptOut w0 w cb (cb + 1)
  lo0 : w0.heap.size ≤ rb
theorem ES.step {w0 w w1 : World} {cb B : Nat} {v : Value} {bs : List UInt8} {rb : Nat} {k p n : Int} (h : ES w0 w cb B v bs rb k p n) (hb : Below w.heap.size w w1) : ES w0 w1 cb B v bs rb k p n :=
  ⟨h.cur.below hb, h.box.below hb h.lt, h.bel.trans (hb.mono h.sz), Nat.lt_of_lt_of_le h.lt hb.size, h.ne, Nat.le_trans h.sz hb.size, Nat.le_trans h.up hb.size, h.kp.trans (KeptOut.of_below hb), h.lo0⟩
theorem ES.kept {w0 w w1 : World} {cb B : Nat} {v : Value} {bs : List UInt8} {rb : Nat} {k p n : Int} (h : ES w0 w cb B v bs rb k p n) (hk : KeptOut w w1 cb (cb + 1)) (hc : CurOk w1 cb B v bs) : ES w0 w1 cb B v bs rb k p n := by
  have hs := h.cur.lo
  have hn := h.ne
  have hl := h.lt
  exact ⟨hc, hk.box h.box hl (.inr (by omega)), hk.below h.bel hs.1 (by omega), by have := hk.2.2.2.1; omega, hn, Nat.le_trans h.sz hk.2.2.2.1, Nat.le_trans h.up hk.2.2.2.1, h.kp.trans hk, h.lo0⟩
theorem ES.start {w : World} {cb B : Nat} {v : Value} {bs : List UInt8} (hc : CurOk w cb B v bs) (hB : B ≤ w.heap.size) (k p n : Int) (T : TypeId) : ES w (w.alloc (.cells #[.int .i64 k, .int .i64 p, .int .i64 n] T)) cb B v bs w.heap.size k p n := by
  have hs := hc.lo
  exact ⟨hc.below ((Below.refl _ _).alloc (Nat.le_refl _) _), BoxAt.new w k p n T, (Below.refl _ _).alloc hB _, by simp, hs.2, by simp; omega, by simp, KeptOut.of_below ((Below.refl _ _).alloc (Nat.le_refl _) _), Nat.le_refl _⟩
theorem ES.set {w0 w : World} {cb B : Nat} {v : Value} {bs : List UInt8} {rb : Nat} {k p n : Int} (h : ES w0 w cb B v bs rb k p n) {g o : Nat} (hg : rb < g) (u : Value) : ES w0 (w.setCell ⟨g, o, none⟩ u) cb B v bs rb k p n := by
  have hb : Below g w (w.setCell ⟨g, o, none⟩ u) := (Below.refl _ _).setCell (p := ⟨g, o, none⟩) (Nat.le_refl _) u
  have hs := h.cur.lo
  have hn := h.ne
  exact ⟨h.cur.below_at hb (by omega), h.box.below hb hg, h.bel.trans (hb.mono (by omega)), by simpa using h.lt, hn, by simpa using h.sz, by simpa using h.up,
    ⟨h.kp.1, h.kp.2.1, h.kp.2.2.1, by simpa using h.up, fun b hb1 hx => (Below.heap_setCell w ⟨g, o, none⟩ u b (by have := h.lo0; show b ≠ g; omega)).trans (h.kp.2.2.2.2 b hb1 hx)⟩, h.lo0⟩
theorem KeptOut.ownRow {w w1 : World} {lo hi B g m cap : Nat} {E : TypeId} {xs : List Value} (h : KeptOut w w1 lo hi) (ho : w.ownsRow B E 1 (.slice (some ⟨g, 0, none⟩) m cap) m xs) (hd : g < lo ∨ hi ≤ g) : w1.ownsRow B E 1 (.slice (some ⟨g, 0, none⟩) m cap) m xs := by
  refine ⟨ho.1, ?_⟩
  have hl := (ho.lt g rfl).2
  rcases ho.2 with ⟨hn, _⟩ | ⟨g', cap', cur, hv, hg, hc, r⟩
  · cases hn
  · refine .inr ⟨g', cap', cur, hv, hg, ?_, r⟩
    have : g' = g := by simp at hv; exact hv.1.symm
    subst this
    rw [h.2.2.2.2 g' hl hd]
    exact hc
/-- What a drawn element answers, and that all but the cursor stays. -/
def ElemPostK (cb B : Nat) (v : Value) (bs : List UInt8) (k p n : Int) (w : World) (e : Ending) (w' : World) : Prop := ∃ u xs, e = .returned u ∧ ElemV k p n xs ∧ Own w' w.heap.size w'.heap.size u xs ∧ CurOk w' cb B v bs ∧ Below B w w' ∧ KeptOut w w' cb (cb + 1)
/-- What a drawn element answers. -/
def ElemPost (cb B : Nat) (v : Value) (bs : List UInt8) (k p n : Int) (w : World) (e : Ending) (w' : World) : Prop := ∃ u xs, e = .returned u ∧ ElemV k p n xs ∧ Own w' w.heap.size w'.heap.size u xs ∧ CurOk w' cb B v bs ∧ Below B w w'

set_option maxHeartbeats 6400000 in
set_option maxRecDepth 100000 in
theorem draw_elem_k {cb B : Nat} {v : Value} {bs : List UInt8} {k p n : Int} {w : World} (hr : ringB k p n = true) (hc : CurOk w cb B v bs) (hB : B ≤ w.heap.size) :
    Calls Try.prog 156 #[.pointer (some ⟨cb, 0, none⟩), ringV k p n] w (ElemPostK cb B v bs k p n w) := by
  have R0 := Lib.hid (ES.start hc hB k p n 31)
  have HR := Lib.hid hr
  obtain ⟨m, hm, hm1, hm2⟩ := width_nat hr
  obtain ⟨t, ht⟩ : ∃ t, t = topI k p n := ⟨_, rfl⟩
  have htb : 1 ≤ t ∧ t ≤ 1048576 := by rw [ht]; exact ring_top hr
  have HT := Lib.hid ht
  have HM := Lib.hid hm
  obtain ⟨BB, hBB⟩ : ∃ BB, BB = w.heap.size := ⟨_, rfl⟩
  have HBB := Lib.hid hBB
  obtain ⟨i0, hi, hz0, hz1, hz2⟩ := info_parts infoInt
  clear hc hr ht hm hBB
  go_enter Try.func156, Try.ntmps156
  go_wp2_with fail
  refine (cur_below 6 (by omega) (by omega) R0.out.cur).mono ?_
  rintro e w1 ⟨x, rfl, hx, hc, hk⟩
  have R1 := Lib.hid (R0.out.kept hk hc)
  clear hc hk R0
  obtain ⟨c0, c1, c2⟩ := R1.out.box
  by_cases x0 : x = 0
  · subst x0
    go_wp2_with fail
    refine (zero_spec k p n _ HR.out).mono ?_
    rintro e w2 ⟨u, rfl, ho, hb⟩
    have R2 := Lib.hid (R1.out.step hb)
    have HO := Lib.hid (Own.widen (lo' := w.heap.size) ho R1.out.up (Nat.le_refl _) (Nat.le_refl _))
    clear ho hb
    go_wp2
    go_ret
    exact ⟨u, _, rfl, zeroL_elem HR.out, HO.out, R2.out.cur, R2.out.bel, R2.out.kp⟩
  by_cases x1 : x = 1
  · subst x1
    go_wp2_with fail
    refine (one_spec k p n _ HR.out).mono ?_
    rintro e w2 ⟨u, rfl, ho, hb⟩
    have R2 := Lib.hid (R1.out.step hb)
    have HO := Lib.hid (Own.widen (lo' := w.heap.size) ho R1.out.up (Nat.le_refl _) (Nat.le_refl _))
    clear ho hb
    go_wp2
    go_ret
    exact ⟨u, _, rfl, oneL_elem HR.out, HO.out, R2.out.cur, R2.out.bel, R2.out.kp⟩
  have e0 : ((x : Int) == 0) = false := by simp; omega
  have e1 : ((x : Int) == 1) = false := by simp; omega
  go_wp2_with fail
  refine (width_spec k p n _).mono ?_
  rw [HM.out]
  rintro e w2 ⟨rfl, hb⟩
  have R2 := Lib.hid (R1.out.step hb)
  have hBs : BB ≤ w2.heap.size := by rw [HBB.out]; exact R2.out.up
  clear hb c0 c1 c2 R1
  go_wp2_with (at_make; refine wpList_make_full _ rfl _ _ 24 rfl BB 3 i0 (.int .i64 0) 1 Try.underlying24 hi hz0 hz1 .i64 .i64 _ _ m rfl rfl rfl rfl (by rw [hz2]; omega) (by unfold maxLen; omega) (by exact hBs) ?_; intro w3 hown hgrow)
  rw [zeros_make, ← ints_zeros] at hown
  have R3 := Lib.hid (R2.out.step ((Below.refl _ _).grown hgrow (Nat.le_refl _) (fun j hj => by cases hj)))
  have OW := Lib.hid hown
  have hg : w.heap.size < w2.heap.size := R2.out.lt
  have HW0 : Hid ((zerosL m).length = m ∧ Within t (zerosL m)) := Lib.hid ⟨by simp [zerosL], fun z hz => by
    simp [zerosL] at hz; omega⟩
  clear hown hgrow hi hz0 hz1 hz2 R2
  go_loopw [22] (fun i wr => ∃ (j : Nat) (zs : List Int), j ≤ m ∧ i = .int .i64 j ∧ Hid (zs.length = m ∧ Within t zs) ∧ Hid (ES w wr cb B v bs w.heap.size k p n) ∧ Hid (wr.ownsRow BB 3 1 (.slice (some ⟨w2.heap.size, 0, none⟩) m m) m (ints zs))) (fun i _ => m - (intOf i).toNat)
  case atStart => exact ⟨0, zerosL m, by omega, rfl, HW0, R3, OW⟩
  case round =>
    clear R3 OW HW0
    obtain ⟨j, zs, hj, rfl, HZ, RR, OW⟩ := hrel
    by_cases hlt : j < m
    · obtain ⟨c0, c1, c2⟩ := RR.out.box
      by_cases hq : t + 1 < 256
      · have hqd : decide (t + 1 < 256) = true := by simpa using hq
        obtain ⟨nn, hnn⟩ : ∃ nn : Nat, t + 1 = (nn : Int) := ⟨(t + 1).toNat, by omega⟩
        have hn1 : 0 < nn := by omega
        have hn2 : nn ≤ 256 := by omega
        have hn3 : (nn : Int) ≤ t + 1 := by omega
        have NNH := Lib.hid hnn
        clear hnn
        go_wp2_with fail
        refine (top_spec k p n _ HR.out).mono ?_
        rw [← HT.out]
        rintro e w4 ⟨rfl, hb⟩
        have R4 := Lib.hid (RR.out.step hb)
        have O4 := Lib.hid (own_row_by OW.out hb)
        clear hb c0 c1 c2
        go_wp2_with fail
        rw [NNH.out]
        refine (cur_below nn hn1 hn2 R4.out.cur).mono ?_
        rintro e w5 ⟨y, rfl, hy, hc, hk⟩
        have R5 := Lib.hid (R4.out.kept hk hc)
        have O5 := Lib.hid (hk.ownRow O4.out (.inr (by have := R4.out.ne; omega)))
        obtain ⟨q0, hq0, c3⟩ := row_slot (j := j) O5 (by rw [HZ.out.1]; exact hlt)
        have f3 := O5.out.frozenAt j
        have R6 := Lib.hid (R5.out.set (g := w2.heap.size) (o := j) hg (.int .i64 (y : Int)))
        have O6 : Hid ((w5.setCell ⟨w2.heap.size, j, none⟩ (.int .i64 (y : Int))).ownsRow BB 3 1 (.slice (some ⟨w2.heap.size, 0, none⟩) m m) m (ints (zs.set j (y : Int)))) := by
          have h := (O5.out.stored j (.int .i64 (y : Int))).1
          rw [← ints_set] at h
          exact h
        have Z6 : Hid ((zs.set j (y : Int)).length = m ∧ Within t (zs.set j (y : Int))) := Lib.hid ⟨by rw [List.length_set]; exact HZ.out.1, fun z hz => by
          rcases List.mem_or_eq_of_mem_set hz with h | h
          · exact HZ.out.2 z h
          · omega⟩
        clear hc hk hq0
        go_wp2_with fail
        refine (cur_once 12 (by omega) (by omega) R6.out.cur).mono ?_
        rintro e w7 ⟨b, rfl, hc, hk⟩
        have R7 := Lib.hid (R6.out.kept hk hc)
        have O7 := Lib.hid (hk.ownRow O6.out (.inr (by have := R6.out.ne; omega)))
        clear hc hk c3 f3
        obtain ⟨c0, c1, c2⟩ := R7.out.box
        cases b with
        | false =>
          go_wp2
          go_roundw
          case rel => exact ⟨j + 1, _, by omega, by go_num, Z6, R7, O7⟩
          case measure => simp [intOf]; omega
        | true =>
          go_wp2_with fail
          refine (top_spec k p n _ HR.out).mono ?_
          rw [← HT.out]
          rintro e w8 ⟨rfl, hb⟩
          have R8 := Lib.hid (R7.out.step hb)
          have O8 := Lib.hid (own_row_by O7.out hb)
          obtain ⟨q1, hq1, c4⟩ := row_slot (j := j) O8 (by rw [Z6.out.1]; exact hlt)
          have f4 := O8.out.frozenAt j
          have R9 := Lib.hid (R8.out.set (g := w2.heap.size) (o := j) hg (.int .i64 t))
          have O9 : Hid ((w8.setCell ⟨w2.heap.size, j, none⟩ (.int .i64 t)).ownsRow BB 3 1 (.slice (some ⟨w2.heap.size, 0, none⟩) m m) m (ints ((zs.set j (y : Int)).set j t))) := by
            have h := (O8.out.stored j (.int .i64 t)).1
            rw [← ints_set] at h
            exact h
          have Z9 : Hid (((zs.set j (y : Int)).set j t).length = m ∧ Within t ((zs.set j (y : Int)).set j t)) := Lib.hid ⟨by rw [List.length_set]; exact Z6.out.1, fun z hz => by
            rcases List.mem_or_eq_of_mem_set hz with h | h
            · exact Z6.out.2 z h
            · omega⟩
          clear hb hq1 c0 c1 c2
          go_wp2
          go_roundw
          case rel => exact ⟨j + 1, _, by omega, by go_num, Z9, R9, O9⟩
          case measure => simp [intOf]; omega
      · have hqd : decide (t + 1 < 256) = false := by simpa using hq
        obtain ⟨nn, hnn⟩ : ∃ nn : Nat, nn = 256 := ⟨_, rfl⟩
        have hn1 : 0 < nn := by omega
        have hn2 : nn ≤ 256 := by omega
        have hn3 : (nn : Int) ≤ t + 1 := by omega
        have NNH := Lib.hid (show (256 : Int) = (nn : Int) by omega)
        clear hnn
        go_wp2_with fail
        refine (top_spec k p n _ HR.out).mono ?_
        rw [← HT.out]
        rintro e w4 ⟨rfl, hb⟩
        have R4 := Lib.hid (RR.out.step hb)
        have O4 := Lib.hid (own_row_by OW.out hb)
        clear hb c0 c1 c2
        go_wp2_with fail
        rw [NNH.out]
        refine (cur_below nn hn1 hn2 R4.out.cur).mono ?_
        rintro e w5 ⟨y, rfl, hy, hc, hk⟩
        have R5 := Lib.hid (R4.out.kept hk hc)
        have O5 := Lib.hid (hk.ownRow O4.out (.inr (by have := R4.out.ne; omega)))
        obtain ⟨q0, hq0, c3⟩ := row_slot (j := j) O5 (by rw [HZ.out.1]; exact hlt)
        have f3 := O5.out.frozenAt j
        have R6 := Lib.hid (R5.out.set (g := w2.heap.size) (o := j) hg (.int .i64 (y : Int)))
        have O6 : Hid ((w5.setCell ⟨w2.heap.size, j, none⟩ (.int .i64 (y : Int))).ownsRow BB 3 1 (.slice (some ⟨w2.heap.size, 0, none⟩) m m) m (ints (zs.set j (y : Int)))) := by
          have h := (O5.out.stored j (.int .i64 (y : Int))).1
          rw [← ints_set] at h
          exact h
        have Z6 : Hid ((zs.set j (y : Int)).length = m ∧ Within t (zs.set j (y : Int))) := Lib.hid ⟨by rw [List.length_set]; exact HZ.out.1, fun z hz => by
          rcases List.mem_or_eq_of_mem_set hz with h | h
          · exact HZ.out.2 z h
          · omega⟩
        clear hc hk hq0
        go_wp2_with fail
        refine (cur_once 12 (by omega) (by omega) R6.out.cur).mono ?_
        rintro e w7 ⟨b, rfl, hc, hk⟩
        have R7 := Lib.hid (R6.out.kept hk hc)
        have O7 := Lib.hid (hk.ownRow O6.out (.inr (by have := R6.out.ne; omega)))
        clear hc hk c3 f3
        obtain ⟨c0, c1, c2⟩ := R7.out.box
        cases b with
        | false =>
          go_wp2
          go_roundw
          case rel => exact ⟨j + 1, _, by omega, by go_num, Z6, R7, O7⟩
          case measure => simp [intOf]; omega
        | true =>
          go_wp2_with fail
          refine (top_spec k p n _ HR.out).mono ?_
          rw [← HT.out]
          rintro e w8 ⟨rfl, hb⟩
          have R8 := Lib.hid (R7.out.step hb)
          have O8 := Lib.hid (own_row_by O7.out hb)
          obtain ⟨q1, hq1, c4⟩ := row_slot (j := j) O8 (by rw [Z6.out.1]; exact hlt)
          have f4 := O8.out.frozenAt j
          have R9 := Lib.hid (R8.out.set (g := w2.heap.size) (o := j) hg (.int .i64 t))
          have O9 : Hid ((w8.setCell ⟨w2.heap.size, j, none⟩ (.int .i64 t)).ownsRow BB 3 1 (.slice (some ⟨w2.heap.size, 0, none⟩) m m) m (ints ((zs.set j (y : Int)).set j t))) := by
            have h := (O8.out.stored j (.int .i64 t)).1
            rw [← ints_set] at h
            exact h
          have Z9 : Hid (((zs.set j (y : Int)).set j t).length = m ∧ Within t ((zs.set j (y : Int)).set j t)) := Lib.hid ⟨by rw [List.length_set]; exact Z6.out.1, fun z hz => by
            rcases List.mem_or_eq_of_mem_set hz with h | h
            · exact Z6.out.2 z h
            · omega⟩
          clear hb hq1 c0 c1 c2
          go_wp2
          go_roundw
          case rel => exact ⟨j + 1, _, by omega, by go_num, Z9, R9, O9⟩
          case measure => simp [intOf]; omega
    · obtain rfl : j = m := by omega
      go_wp2
      go_ret
      refine ⟨_, zs, rfl, ⟨by rw [HZ.out.1, HM.out], by rw [← HT.out]; exact HZ.out.2⟩, ?_, RR.out.cur, RR.out.bel, RR.out.kp⟩
      have h := Own.of OW.out HZ.out.1
      rw [HBB.out] at h
      exact h

theorem draw_elem {cb B : Nat} {v : Value} {bs : List UInt8} {k p n : Int} {w : World} (hr : ringB k p n = true) (hc : CurOk w cb B v bs) (hB : B ≤ w.heap.size) :
    Calls Try.prog 156 #[.pointer (some ⟨cb, 0, none⟩), ringV k p n] w (ElemPost cb B v bs k p n w) :=
  (draw_elem_k hr hc hB).mono fun _ _ ⟨u, xs, h1, h2, h3, h4, h5, _⟩ => ⟨u, xs, h1, h2, h3, h4, h5⟩
theorem Rd.heap2 {w w1 : World} {v : Value} {xs : List Value} (h : Rd w.heap.size w v xs) (hh : w1.heap = w.heap) : Rd w1.heap.size w1 v xs := by
  rw [show w1.heap.size = w.heap.size from by rw [hh]]
  rcases h with h | ⟨b, off, cap, hv, hlt, hcp, hc⟩
  · exact .inl h
  · exact .inr ⟨b, off, cap, hv, hlt, hcp, fun i u hi => (cur_heap hh _).trans (hc i u hi)⟩
theorem Below.heap2 {w w1 w2 : World} (h : Below w1.heap.size w1 w2) (hh : w1.heap = w.heap) (h1 : w1.os = w.os) (h2 : w1.tape = w.tape) (h3 : w1.output = w.output) : Below w.heap.size w w2 :=
  ⟨h.os.trans h1, h.tape.trans h2, h.output.trans h3, by rw [← hh]; exact h.size, fun b hb => (h.block b (by rw [hh]; exact hb)).trans (by rw [hh])⟩
end Go.Proofs.Ytgabcdploeledaa
namespace Go.Proofs.Ytgabcdploeledaa
set_option maxRecDepth 20000
open Go.RowKit

set_option maxHeartbeats 800000 in
/-- MakeRing. -/
theorem make_ring {v : Value} {bs : List UInt8} {w : World} (n : Nat) (hn : n ≤ 1000) (hr : Rd w.heap.size w v (bytes8 bs)) (hl : bs.length ≤ 1048576) :
    Calls Try.prog 33 #[v, .int .i64 n] w fun e w' => ∃ k p q, e = .returned (ringV k p q) ∧ ringB k p q = true ∧ Below w.heap.size w w' := by
  have HR := Lib.hid hr
  have HL := Lib.hid hl
  clear hr hl
  go_enter Try.func33, Try.ntmps33
  go_wp2_with fail
  have HR1 := Lib.hid (HR.out.below ((Below.refl w.heap.size w).alloc (Nat.le_refl _) (.cells #[.int .i64 0, .int .i64 0, .int .i64 0] 31)) (Nat.le_refl _))
  have hz1 : w.heap.size ≤ (w.alloc (.cells #[.int .i64 0, .int .i64 0, .int .i64 0] 31)).heap.size := by simp
  refine (cur_at n hn (HR1.out.mono hz1) HL.out).mono ?_
  rintro e w1 ⟨cb, rfl, hc, hb1⟩
  have HC1 := Lib.hid hc
  have HB1 := Lib.hid (((Below.refl w.heap.size w).alloc (Nat.le_refl _) _).trans (hb1.mono hz1))
  have BX := Lib.hid ((BoxAt.new w 0 0 0 31).below hb1 (by simp))
  have hcb := hc.lo
  have FR : Hid (∀ o, w1.frozen? ⟨w.heap.size, o, none⟩ = false) := Lib.hid (fun o => (hb1.frozen (p := ⟨w.heap.size, o, none⟩) (by simp)).trans (by simp))
  have hlt : w.heap.size < cb := by have := hcb.1; simp at this; omega
  clear hc hb1
  go_wp2_with fail
  refine (draw_ring HC1.out).mono ?_
  rintro e w2 ⟨k, p, q, rfl, hk, hc2, hko⟩
  have hb2 := hko.below (Below.refl _ w1) hcb.1 (Nat.le_trans hcb.1 (Nat.le_of_lt hcb.2))
  have BX2 := Lib.hid (BX.out.below hb2 (by simp))
  have HB2 := Lib.hid (HB1.out.trans (hb2.mono hz1))
  have f0 := (hb2.frozen (p := ⟨w.heap.size, 0, none⟩) (by simp)).trans (FR.out 0)
  have f1 := (hb2.frozen (p := ⟨w.heap.size, 1, none⟩) (by simp)).trans (FR.out 1)
  have f2 := (hb2.frozen (p := ⟨w.heap.size, 2, none⟩) (by simp)).trans (FR.out 2)
  obtain ⟨c0, c1, c2⟩ := BX2.out
  have HK := Lib.hid hk
  clear hk hc2 hb2 hko
  go_wp2
  refine bodyPost_ret (v := ringV k p q) (by simp [results, Try.results33, go_sem, c0, c1, c2]) rfl ?_
  exact ⟨k, p, q, rfl, HK.out, ((HB2.out.setCell (Nat.le_refl _) _).setCell (Nat.le_refl _) _).setCell (Nat.le_refl _) _⟩
end Go.Proofs.Ytgabcdploeledaa
