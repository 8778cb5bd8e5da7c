
/- MakeRing: a valid ring. -/
import Derived.Test.YtgabcdploeledaaCur
import Derived.Test.YtgabcdploeledaaRing
import Derived.Test.YtgabcdploeledaaNested
namespace Go.Proofs.Ytgabcdploeledaa
set_option maxRecDepth 20000
open Go.RowKit

def primeCheck (n : Nat) : Bool := decide (2 ≤ n) && decide (n ≤ 1000003) && (List.range 1001).all fun d => decide (d < 2) || decide (n < d * d) || (n % d != 0)
theorem prime_dec {n : Nat} (h : primeCheck n = true) : primeB (n : Int) = true := by
  unfold primeCheck at h
  simp only [Bool.and_eq_true, decide_eq_true_eq, List.all_eq_true, List.mem_range, Bool.or_eq_true, bne_iff_ne] at h
  obtain ⟨⟨h1, h2⟩, h3⟩ := h
  refine prime_of (by omega) (by omega) fun d hd hdd hm => ?_
  have e : ((d * d : Nat) : Int) = (d : Int) * d := by simp
  have hd2 : d ≤ 1000 := root_lt (by omega) hdd
  rcases h3 d (by omega) with (h4 | h4) | h4
  · omega
  · omega
  · apply h4
    have : ((n % d : Nat) : Int) = 0 := by simpa using hm
    omega
theorem p2 : primeB 2 = true := prime_dec (n := 2) (by kernel_rfl)
theorem p3 : primeB 3 = true := prime_dec (n := 3) (by kernel_rfl)
theorem p5 : primeB 5 = true := prime_dec (n := 5) (by kernel_rfl)
theorem p7 : primeB 7 = true := prime_dec (n := 7) (by kernel_rfl)
theorem p17 : primeB 17 = true := prime_dec (n := 17) (by kernel_rfl)
theorem p97 : primeB 97 = true := prime_dec (n := 97) (by kernel_rfl)
theorem p101 : primeB 101 = true := prime_dec (n := 101) (by kernel_rfl)
theorem p1000003 : primeB 1000003 = true := prime_dec (n := 1000003) (by kernel_rfl)
theorem mk2 {z : Int} (h : z ∈ [2, 3, 7, 97, 1000003]) : ringB 2 z 0 = true := by
  simp at h
  rcases h with rfl | rfl | rfl | rfl | rfl <;> simp [ringB, p2, p3, p7, p97, p1000003]
theorem mkCap {k z : Int} (hk : k = 3 ∨ k = 4 ∨ k = 5) (h : z ∈ [1, 2, 9, 40, 1000000]) : ringB k z 0 = true := by
  simp at h
  unfold ringB
  rw [if_neg (by omega), if_neg (by omega), if_pos hk]
  rcases h with rfl | rfl | rfl | rfl | rfl <;> simp
theorem mk6 {z : Int} (h : z ∈ [1, 3, 5, 20]) : ringB 6 0 z = true := by
  simp at h
  rcases h with rfl | rfl | rfl | rfl <;> simp [ringB]
theorem mk7 {z n : Int} (h : z ∈ [2, 5, 101]) (h1 : 1 ≤ n) (h2 : n ≤ 4) : ringB 7 z n = true := by
  simp at h
  rcases h with rfl | rfl | rfl <;> simp [ringB, p2, p5, p101] <;> omega
theorem mk8 {z : Int} (h : z ∈ [3, 17, 97, 1000003]) : ringB 8 z 0 = true := by
  simp at h
  rcases h with rfl | rfl | rfl | rfl <;> simp [ringB, p3, p17, p97, p1000003]
theorem CurOk.below_at {w w1 : World} {cb B B' : Nat} {v : Value} {bs : List UInt8} (h : CurOk w cb B v bs) (hb : Below B' w w1) (hs : cb < B') : CurOk w1 cb B v bs := by
  obtain ⟨i, h, c⟩ := h
  exact ⟨i, h, ⟨(hb.cell (p := ⟨cb, 0, none⟩) hs).trans c.c0, (hb.cell (p := ⟨cb, 1, none⟩) hs).trans c.c1, (hb.cell (p := ⟨cb, 2, none⟩) hs).trans c.c2, c.hi, c.h1, c.h2, (hb.frozen (p := ⟨cb, 1, none⟩) hs).trans c.f1, (hb.frozen (p := ⟨cb, 2, none⟩) hs).trans c.f2, c.hB, Nat.lt_of_lt_of_le c.hs hb.size, c.rd.below hb (by have := c.hB; omega), c.len⟩⟩
theorem CurOk.below {w w1 : World} {cb B : Nat} {v : Value} {bs : List UInt8} (h : CurOk w cb B v bs) (hb : Below w.heap.size w w1) : CurOk w1 cb B v bs := by
  obtain ⟨i, q, c⟩ := h
  exact CurOk.below_at ⟨i, q, c⟩ hb c.hs
theorem CurOk.lo {w : World} {cb B : Nat} {v : Value} {bs : List UInt8} (h : CurOk w cb B v bs) : B ≤ cb ∧ cb < w.heap.size := by
  obtain ⟨i, h, c⟩ := h
  exact ⟨c.hB, c.hs⟩
/-- What a drawn ring answers. -/
def RingPost (cb B : Nat) (v : Value) (bs : List UInt8) (w : World) (e : Ending) (w' : World) : Prop := ∃ k p n, e = .returned (ringV k p n) ∧ ringB k p n = true ∧ CurOk w' cb B v bs ∧ KeptOut w w' cb (cb + 1)
theorem ring_post {cb B : Nat} {v : Value} {bs : List UInt8} {w w' : World} {k p n : Int} (h1 : ringB k p n = true) (h2 : CurOk w' cb B v bs) (h3 : KeptOut w w' cb (cb + 1)) : RingPost cb B v bs w (.returned (ringV k p n)) w' := ⟨k, p, n, rfl, h1, h2, h3⟩

/-- What is carried along a drawing: the cursor, the result's variable, the frame. -/
structure RS (w0 w : World) (cb B : Nat) (v : Value) (bs : List UInt8) (rb : Nat) : Prop where
  cur : CurOk w cb B v bs
  box : BoxAt w rb 0 0 0
  fr : ∀ o, w.frozen? ⟨rb, o, none⟩ = false
  bel : KeptOut w0 w cb (cb + 1)
  lt : rb < w.heap.size
  ne : cb < rb
  base : w0.heap.size ≤ rb
theorem RS.alloc {w0 w : World} {cb B : Nat} {v : Value} {bs : List UInt8} {rb : Nat} (h : RS w0 w cb B v bs rb) (o : Obj) : RS w0 (w.alloc o) cb B v bs rb := by
  have hb := (Below.refl w.heap.size w).alloc (Nat.le_refl _) o
  have hs := h.cur.lo
  exact ⟨h.cur.below hb, h.box.below hb h.lt, fun q => (hb.frozen (p := ⟨rb, q, none⟩) h.lt).trans (h.fr q), h.bel.trans (KeptOut.of_below hb), by simp; have := h.lt; omega, h.ne, h.base⟩
theorem KeptOut.frozen {w w1 : World} {lo hi b o : Nat} (h : KeptOut w w1 lo hi) (hb : b < w.heap.size) (hd : b < lo ∨ hi ≤ b) : w1.frozen? ⟨b, o, none⟩ = w.frozen? ⟨b, o, none⟩ :=
  World.frozen?_of_block (w := w) (h.2.2.2.2 b hb hd)
theorem RS.kept {w0 w w1 : World} {cb B : Nat} {v : Value} {bs : List UInt8} {rb : Nat} (h : RS w0 w cb B v bs rb) (hk : KeptOut w w1 cb (cb + 1)) (hc : CurOk w1 cb B v bs) : RS w0 w1 cb B v bs rb := by
  have hs := h.cur.lo
  have hn := h.ne
  have hl := h.lt
  exact ⟨hc, hk.box h.box hl (.inr (by omega)), fun q => (hk.frozen hl (.inr (by omega))).trans (h.fr q), h.bel.trans hk, by have := hk.2.2.2.1; omega, hn, h.base⟩
theorem KeptOut.setNew {w0 w : World} {lo hi : Nat} (h : KeptOut w0 w lo hi) {q : Addr} (hq : w0.heap.size ≤ q.block) (u : Value) : KeptOut w0 (w.setCell q u) lo hi :=
  ⟨h.1, h.2.1, h.2.2.1, by simpa using h.2.2.2.1, fun b hb hx => (Below.heap_setCell w q u b (by omega)).trans (h.2.2.2.2 b hb hx)⟩
theorem RS.start {w : World} {cb B : Nat} {v : Value} {bs : List UInt8} (hc : CurOk w cb B v bs) (T : TypeId) : RS w (w.alloc (.cells #[.int .i64 0, .int .i64 0, .int .i64 0] T)) cb B v bs w.heap.size := by
  have hs := hc.lo
  refine ⟨hc.below ((Below.refl _ _).alloc (Nat.le_refl _) _), BoxAt.new w 0 0 0 T, fun o => by simp, KeptOut.of_below ((Below.refl _ _).alloc (Nat.le_refl _) _), by simp, hs.2, Nat.le_refl _⟩
theorem RS.put {w0 w : World} {cb B : Nat} {v : Value} {bs : List UInt8} {rb : Nat} (h : RS w0 w cb B v bs rb) (x y z : Value) : CurOk (((w.setCell ⟨rb, 0, none⟩ x).setCell ⟨rb, 1, none⟩ y).setCell ⟨rb, 2, none⟩ z) cb B v bs ∧ KeptOut w0 (((w.setCell ⟨rb, 0, none⟩ x).setCell ⟨rb, 1, none⟩ y).setCell ⟨rb, 2, none⟩ z) cb (cb + 1) := by
  have hn := h.ne
  have hb := h.base
  refine ⟨h.cur.below_at (B' := rb) ((((Below.refl rb w).setCell (p := ⟨rb, 0, none⟩) (Nat.le_refl _) x).setCell (p := ⟨rb, 1, none⟩) (Nat.le_refl _) y).setCell (p := ⟨rb, 2, none⟩) (Nat.le_refl _) z) hn, ((h.bel.setNew ?_ x).setNew ?_ y).setNew ?_ z⟩ <;> exact hb
theorem RS.facts {w0 w : World} {cb B : Nat} {v : Value} {bs : List UInt8} {rb : Nat} (h : RS w0 w cb B v bs rb) : w.cell? ⟨rb, 0, none⟩ = some (.int .i64 0) ∧ w.cell? ⟨rb, 1, none⟩ = some (.int .i64 0) ∧ w.cell? ⟨rb, 2, none⟩ = some (.int .i64 0) ∧ w.frozen? ⟨rb, 0, none⟩ = false ∧ w.frozen? ⟨rb, 1, none⟩ = false ∧ w.frozen? ⟨rb, 2, none⟩ = false :=
  ⟨h.box.1, h.box.2.1, h.box.2.2, h.fr 0, h.fr 1, h.fr 2⟩

set_option maxHeartbeats 12800000 in
set_option maxRecDepth 100000 in
theorem draw_ring {cb B : Nat} {v : Value} {bs : List UInt8} {w : World} (hc : CurOk w cb B v bs) :
    Calls Try.prog 80 #[.pointer (some ⟨cb, 0, none⟩)] w (RingPost cb B v bs w) := by
  have R0 := Lib.hid (RS.start hc 31)
  obtain ⟨rb, hrb⟩ : ∃ rb, rb = w.heap.size := ⟨_, rfl⟩
  have HRB := Lib.hid hrb
  clear hc hrb
  go_enter Try.func80, Try.ntmps80
  go_wp2_with fail
  refine (cur_below 8 (by omega) (by omega) R0.out.cur).mono ?_
  rintro e w1 ⟨x, rfl, hx, hc, hk⟩
  have R1 := Lib.hid (R0.out.kept hk hc)
  clear hc hk R0
  obtain ⟨c0, c1, c2, f0, f1, f2⟩ := R1.out.facts
  have hcases : x = 0 ∨ x = 1 ∨ x = 2 ∨ x = 3 ∨ x = 4 ∨ x = 5 ∨ x = 6 ∨ x = 7 := by omega
  clear hx
  rcases hcases with rfl | rfl | rfl | rfl | rfl | rfl | rfl | rfl
  · go_wp2
    refine bodyPost_ret (v := ringV 1 0 0) (by simp [results, Try.results80, go_sem, c0, c1, c2]) rfl ?_
    obtain ⟨g1, g2⟩ := R1.out.put (.int .i64 1) (.int .i64 0) (.int .i64 0)
    exact ring_post (by simp [ringB]) g1 g2
  · have RA1 := Lib.hid (R1.out.alloc (.cells #[.int .i64 2, .int .i64 3, .int .i64 7, .int .i64 97, .int .i64 1000003] 3))
    clear c0 c1 c2 f0 f1 f2
    obtain ⟨c0, c1, c2, f0, f1, f2⟩ := R1.out.facts
    go_wp2_with fail
    refine (cur_pick (m := 5) (zs := [2, 3, 7, 97, 1000003]) rfl (by omega) (by omega) RA1.out.cur (by have := R1.out.cur.lo; omega) (by simp) (fun i hi => by match i, hi with | 0, _ => simp [World.cell?_alloc_at] | 1, _ => simp [World.cell?_alloc_at] | 2, _ => simp [World.cell?_alloc_at] | 3, _ => simp [World.cell?_alloc_at] | 4, _ => simp [World.cell?_alloc_at])).mono ?_
    rintro e w2 ⟨z, rfl, hz, hc, hk⟩
    have R2 := Lib.hid (RA1.out.kept hk hc)
    have Hz := Lib.hid hz
    clear hc hk hz c0 c1 c2 f0 f1 f2
    obtain ⟨c0, c1, c2, f0, f1, f2⟩ := R2.out.facts
    go_wp2
    refine bodyPost_ret (v := ringV 2 z 0) (by simp [results, Try.results80, go_sem, c0, c1, c2]) rfl ?_
    obtain ⟨g1, g2⟩ := R2.out.put (.int .i64 2) (.int .i64 z) (.int .i64 0)
    exact ring_post (mk2 Hz.out) g1 g2
  · have RA1 := Lib.hid (R1.out.alloc (.cells #[.int .i64 1, .int .i64 2, .int .i64 9, .int .i64 40, .int .i64 1000000] 3))
    clear c0 c1 c2 f0 f1 f2
    obtain ⟨c0, c1, c2, f0, f1, f2⟩ := R1.out.facts
    go_wp2_with fail
    refine (cur_pick (m := 5) (zs := [1, 2, 9, 40, 1000000]) rfl (by omega) (by omega) RA1.out.cur (by have := R1.out.cur.lo; omega) (by simp) (fun i hi => by match i, hi with | 0, _ => simp [World.cell?_alloc_at] | 1, _ => simp [World.cell?_alloc_at] | 2, _ => simp [World.cell?_alloc_at] | 3, _ => simp [World.cell?_alloc_at] | 4, _ => simp [World.cell?_alloc_at])).mono ?_
    rintro e w2 ⟨z, rfl, hz, hc, hk⟩
    have R2 := Lib.hid (RA1.out.kept hk hc)
    have Hz := Lib.hid hz
    clear hc hk hz c0 c1 c2 f0 f1 f2
    obtain ⟨c0, c1, c2, f0, f1, f2⟩ := R2.out.facts
    go_wp2
    refine bodyPost_ret (v := ringV 3 z 0) (by simp [results, Try.results80, go_sem, c0, c1, c2]) rfl ?_
    obtain ⟨g1, g2⟩ := R2.out.put (.int .i64 3) (.int .i64 z) (.int .i64 0)
    exact ring_post (mkCap (by omega) Hz.out) g1 g2
  · have RA1 := Lib.hid (R1.out.alloc (.cells #[.int .i64 1, .int .i64 2, .int .i64 9, .int .i64 40, .int .i64 1000000] 3))
    clear c0 c1 c2 f0 f1 f2
    obtain ⟨c0, c1, c2, f0, f1, f2⟩ := R1.out.facts
    go_wp2_with fail
    refine (cur_pick (m := 5) (zs := [1, 2, 9, 40, 1000000]) rfl (by omega) (by omega) RA1.out.cur (by have := R1.out.cur.lo; omega) (by simp) (fun i hi => by match i, hi with | 0, _ => simp [World.cell?_alloc_at] | 1, _ => simp [World.cell?_alloc_at] | 2, _ => simp [World.cell?_alloc_at] | 3, _ => simp [World.cell?_alloc_at] | 4, _ => simp [World.cell?_alloc_at])).mono ?_
    rintro e w2 ⟨z, rfl, hz, hc, hk⟩
    have R2 := Lib.hid (RA1.out.kept hk hc)
    have Hz := Lib.hid hz
    clear hc hk hz c0 c1 c2 f0 f1 f2
    obtain ⟨c0, c1, c2, f0, f1, f2⟩ := R2.out.facts
    go_wp2
    refine bodyPost_ret (v := ringV 4 z 0) (by simp [results, Try.results80, go_sem, c0, c1, c2]) rfl ?_
    obtain ⟨g1, g2⟩ := R2.out.put (.int .i64 4) (.int .i64 z) (.int .i64 0)
    exact ring_post (mkCap (by omega) Hz.out) g1 g2
  · have RA1 := Lib.hid (R1.out.alloc (.cells #[.int .i64 1, .int .i64 2, .int .i64 9, .int .i64 40, .int .i64 1000000] 3))
    clear c0 c1 c2 f0 f1 f2
    obtain ⟨c0, c1, c2, f0, f1, f2⟩ := R1.out.facts
    go_wp2_with fail
    refine (cur_pick (m := 5) (zs := [1, 2, 9, 40, 1000000]) rfl (by omega) (by omega) RA1.out.cur (by have := R1.out.cur.lo; omega) (by simp) (fun i hi => by match i, hi with | 0, _ => simp [World.cell?_alloc_at] | 1, _ => simp [World.cell?_alloc_at] | 2, _ => simp [World.cell?_alloc_at] | 3, _ => simp [World.cell?_alloc_at] | 4, _ => simp [World.cell?_alloc_at])).mono ?_
    rintro e w2 ⟨z, rfl, hz, hc, hk⟩
    have R2 := Lib.hid (RA1.out.kept hk hc)
    have Hz := Lib.hid hz
    clear hc hk hz c0 c1 c2 f0 f1 f2
    obtain ⟨c0, c1, c2, f0, f1, f2⟩ := R2.out.facts
    go_wp2
    refine bodyPost_ret (v := ringV 5 z 0) (by simp [results, Try.results80, go_sem, c0, c1, c2]) rfl ?_
    obtain ⟨g1, g2⟩ := R2.out.put (.int .i64 5) (.int .i64 z) (.int .i64 0)
    exact ring_post (mkCap (by omega) Hz.out) g1 g2
  · have RA1 := Lib.hid (R1.out.alloc (.cells #[.int .i64 1, .int .i64 3, .int .i64 5, .int .i64 20] 3))
    clear c0 c1 c2 f0 f1 f2
    obtain ⟨c0, c1, c2, f0, f1, f2⟩ := R1.out.facts
    go_wp2_with fail
    refine (cur_pick (m := 4) (zs := [1, 3, 5, 20]) rfl (by omega) (by omega) RA1.out.cur (by have := R1.out.cur.lo; omega) (by simp) (fun i hi => by match i, hi with | 0, _ => simp [World.cell?_alloc_at] | 1, _ => simp [World.cell?_alloc_at] | 2, _ => simp [World.cell?_alloc_at] | 3, _ => simp [World.cell?_alloc_at])).mono ?_
    rintro e w2 ⟨z, rfl, hz, hc, hk⟩
    have R2 := Lib.hid (RA1.out.kept hk hc)
    have Hz := Lib.hid hz
    clear hc hk hz c0 c1 c2 f0 f1 f2
    obtain ⟨c0, c1, c2, f0, f1, f2⟩ := R2.out.facts
    go_wp2
    refine bodyPost_ret (v := ringV 6 0 z) (by simp [results, Try.results80, go_sem, c0, c1, c2]) rfl ?_
    obtain ⟨g1, g2⟩ := R2.out.put (.int .i64 6) (.int .i64 0) (.int .i64 z)
    exact ring_post (mk6 Hz.out) g1 g2
  · have RA1 := Lib.hid (R1.out.alloc (.cells #[.int .i64 2, .int .i64 5, .int .i64 101] 3))
    clear c0 c1 c2 f0 f1 f2
    obtain ⟨c0, c1, c2, f0, f1, f2⟩ := R1.out.facts
    go_wp2_with fail
    refine (cur_pick (m := 3) (zs := [2, 5, 101]) rfl (by omega) (by omega) RA1.out.cur (by have := R1.out.cur.lo; omega) (by simp) (fun i hi => by match i, hi with | 0, _ => simp [World.cell?_alloc_at] | 1, _ => simp [World.cell?_alloc_at] | 2, _ => simp [World.cell?_alloc_at])).mono ?_
    rintro e w2 ⟨z, rfl, hz, hc, hk⟩
    have R2 := Lib.hid (RA1.out.kept hk hc)
    have Hz := Lib.hid hz
    clear hc hk hz c0 c1 c2 f0 f1 f2
    obtain ⟨c0, c1, c2, f0, f1, f2⟩ := R2.out.facts
    go_wp2_with fail
    refine (cur_below 4 (by omega) (by omega) R2.out.cur).mono ?_
    rintro e w3 ⟨q, rfl, hq, hc, hk⟩
    have R3 := Lib.hid (R2.out.kept hk hc)
    clear hc hk c0 c1 c2 f0 f1 f2
    obtain ⟨c0, c1, c2, f0, f1, f2⟩ := R3.out.facts
    go_wp2
    refine bodyPost_ret (v := ringV 7 z (1 + (q : Int))) (by simp [results, Try.results80, go_sem, c0, c1, c2]) rfl ?_
    obtain ⟨g1, g2⟩ := R3.out.put (.int .i64 7) (.int .i64 z) (.int .i64 (1 + (q : Int)))
    exact ring_post (mk7 Hz.out (by omega) (by omega)) g1 g2
  · have RA1 := Lib.hid (R1.out.alloc (.cells #[.int .i64 3, .int .i64 17, .int .i64 97, .int .i64 1000003] 3))
    clear c0 c1 c2 f0 f1 f2
    obtain ⟨c0, c1, c2, f0, f1, f2⟩ := R1.out.facts
    go_wp2_with fail
    refine (cur_pick (m := 4) (zs := [3, 17, 97, 1000003]) rfl (by omega) (by omega) RA1.out.cur (by have := R1.out.cur.lo; omega) (by simp) (fun i hi => by match i, hi with | 0, _ => simp [World.cell?_alloc_at] | 1, _ => simp [World.cell?_alloc_at] | 2, _ => simp [World.cell?_alloc_at] | 3, _ => simp [World.cell?_alloc_at])).mono ?_
    rintro e w2 ⟨z, rfl, hz, hc, hk⟩
    have R2 := Lib.hid (RA1.out.kept hk hc)
    have Hz := Lib.hid hz
    clear hc hk hz c0 c1 c2 f0 f1 f2
    obtain ⟨c0, c1, c2, f0, f1, f2⟩ := R2.out.facts
    go_wp2
    refine bodyPost_ret (v := ringV 8 z 0) (by simp [results, Try.results80, go_sem, c0, c1, c2]) rfl ?_
    obtain ⟨g1, g2⟩ := R2.out.put (.int .i64 8) (.int .i64 z) (.int .i64 0)
    exact ring_post (mk8 Hz.out) g1 g2
end Go.Proofs.Ytgabcdploeledaa
