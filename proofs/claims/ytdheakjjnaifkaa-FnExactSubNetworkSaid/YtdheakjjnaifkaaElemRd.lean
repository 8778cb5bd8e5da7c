
/- (Tensor).elem: the part of the data that is an element. -/
import Derived.Test.YtdheakjjnaifkaaTensorOk2
import Derived.Test.YtdheakjjnaifkaaElemAt
namespace Go.Proofs.Ytdheakjjnaifkaa
set_option maxRecDepth 20000
open Go.RowKit

theorem getL_some {wd n j : Nat} {X : List Int} {x : Int} (h : (getL wd X n)[j]? = some x) : X[n * wd + j]? = some x := by
  unfold getL at h
  have hj := (List.getElem?_eq_some_iff.1 h).1
  rw [List.length_take] at hj
  rw [List.getElem?_take_of_lt (by omega), List.getElem?_drop] at h
  exact h
set_option maxHeartbeats 1600000 in
/-- (Tensor).elem: the part of Data. -/
theorem elem_part {b off cx mx ml cl md cd : Nat} {al ad : Option Addr} {k p q : Int} {w : World} (wd n : Nat) (hw : widthI k q = (wd : Int)) (hw1 : 1 ≤ wd) (hw2 : wd ≤ 6) (hn : n ≤ 4096) (hlen : n * wd + wd ≤ mx) (hcc : mx ≤ cx) :
    Calls Try.prog 108 #[tenV (.slice al ml cl) (.slice ad md cd) (.slice (some ⟨b, off, none⟩) mx cx), ringV k p q, .int .i64 n] w fun e w' => e = .returned (.slice (some ⟨b, off + n * wd, none⟩) wd (cx - n * wd)) ∧ Below w.heap.size w w' := by
  have H0 : Hid (Held w ((w.alloc (.cells #[.slice al ml cl, .slice ad md cd, .slice (some ⟨b, off, none⟩) mx cx] 55)).alloc (.cells #[.int .i64 k, .int .i64 p, .int .i64 q] 30)) (ringTen (w.heap.size + 1) w.heap.size k p q (.slice al ml cl) (.slice ad md cd) (.slice (some ⟨b, off, none⟩) mx cx))) := by
    have h := ((Held.refl w).box3 (.slice al ml cl) (.slice ad md cd) (.slice (some ⟨b, off, none⟩) mx cx) 55).box3 (.int .i64 k) (.int .i64 p) (.int .i64 q) 30
    simp only [World.size_alloc] at h
    exact h
  obtain ⟨s, hs⟩ : ∃ s, s = n * wd := ⟨_, rfl⟩
  have hsb : s ≤ 24576 := by rw [hs]; exact Nat.mul_le_mul hn hw2
  rw [← hs] at hlen ⊢
  have HW := Lib.hid hw
  have hm1 : (n : Int) * (wd : Int) = (s : Int) := by rw [hs]; simp
  have hm2 : ((n : Int) + 1) * (wd : Int) = ((s + wd : Nat) : Int) := by rw [Int.add_mul, Int.one_mul, hm1]; simp
  obtain ⟨se, hse⟩ : ∃ se, se = s + wd := ⟨_, rfl⟩
  rw [← hse] at hm2
  have hw3 : IntKind.i64.wrap ((s : Int)) = s := IntWalk.i64_in _ (by omega)
  have hw4 : IntKind.i64.wrap ((se : Int)) = se := IntWalk.i64_in _ (by omega)
  have hw5 : IntKind.i64.wrap ((n : Int) + 1) = (n : Int) + 1 := IntWalk.i64_in _ (by omega)
  have hg1 : (0 : Int) ≤ (s : Int) := by omega
  have hg2 : (s : Int) ≤ (se : Int) := by omega
  have hg3 : (se : Int) ≤ (cx : Int) := by omega
  have hne : ¬ cx = s := by omega
  have HE : Hid (Value.slice (some ⟨b, off + s, none⟩) (se - s) (cx - s) = .slice (some ⟨b, off + s, none⟩) wd (cx - s)) := by show _ = _; rw [hse, Nat.add_sub_cancel_left]
  clear hw hs hse hlen hcc
  go_enter Try.func108, Try.ntmps108
  go_wp2_with fail
  refine (Held.call H0 (width_impl k p q _)).mono ?_
  rw [HW.out]
  rintro e w1 ⟨rfl, H1, c0, c1, c2, d0, d1, d2, -⟩
  go_wp2
  go_ret
  exact ⟨by rw [← HE.out]; rfl, H1.out.1⟩
/-- (Tensor).elem, as it is read. -/
theorem elem_rd {B : Nat} {lv dv xv : Value} {k p q : Int} {L D X : List Int} {w : World} (wd j : Nat) (h : RdT B w lv dv xv L D X) (hB : B ≤ w.heap.size) (hw : widthI k q = (wd : Int)) (hw1 : 1 ≤ wd) (hw2 : wd ≤ 6) (hj : j ≤ 4096) (hlen : j * wd + wd ≤ X.length) :
    Calls Try.prog 108 #[tenV lv dv xv, ringV k p q, .int .i64 j] w fun e w' => ∃ v, e = .returned v ∧ Rd B w' v (ints (getL wd X j)) ∧ Below w.heap.size w w' := by
  obtain ⟨al, cl, rfl, -⟩ := ints_form h.l
  obtain ⟨ad, cd, rfl, -⟩ := ints_form h.d
  have hgl := getL_len (w := wd) (X := X) (n := j) hlen
  rcases h.x.ints_cases with ⟨rfl, -⟩ | ⟨b, off, cx, rfl, hb, hcx, hc⟩
  · simp at hlen; omega
  · refine (elem_part (b := b) (off := off) (cx := cx) (mx := X.length) (ml := L.length) (cl := cl) (md := D.length) (cd := cd) (al := al) (ad := ad) (k := k) (p := p) (q := q) (w := w) wd j hw hw1 hw2 hj hlen hcx).mono ?_
    rintro e w' ⟨rfl, hbl⟩
    refine ⟨_, rfl, .inr ⟨b, off + j * wd, cx - j * wd, by rw [ints_len, hgl], hb, by rw [ints_len, hgl]; omega, fun i u hu => ?_⟩, hbl⟩
    unfold ints at hu
    rw [List.getElem?_map] at hu
    obtain ⟨x, hx, rfl⟩ := Option.map_eq_some_iff.1 hu
    have h1 := getL_some hx
    obtain ⟨h2, h3⟩ := List.getElem?_eq_some_iff.1 h1
    refine (hbl.cell (p := ⟨b, off + j * wd + i, none⟩) (Nat.lt_of_lt_of_le hb hB)).trans ?_
    rw [Nat.add_assoc, hc _ h2, h3]
end Go.Proofs.Ytdheakjjnaifkaa
