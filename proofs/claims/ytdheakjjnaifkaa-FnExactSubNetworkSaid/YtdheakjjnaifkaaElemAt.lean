
/- spec.ElemAt. -/
import Derived.Test.YtdheakjjnaifkaaRs
import Derived.Test.YtdheakjjnaifkaaTensorOk
import Derived.Test.YtdheakjjnaifkaaTensorOk2
namespace Go.Proofs.Ytdheakjjnaifkaa
set_option maxRecDepth 20000
open Go.RowKit

theorem getL_len {w : Nat} {X : List Int} {n : Nat} (h : n * w + w ≤ X.length) : (getL w X n).length = w := by
  unfold getL
  rw [List.length_take, List.length_drop]
  omega
theorem getL_at {w : Nat} {X : List Int} {n i : Nat} (hi : i < w) : (getL w X n)[i]? = X[n * w + i]? := by
  unfold getL
  rw [List.getElem?_take_of_lt hi, List.getElem?_drop]
set_option maxHeartbeats 1600000 in
theorem get_spec {B : Nat} {lv dv xv : Value} {k p q : Int} {L D X : List Int} {w : World} (wd n : Nat) (h : RdT B w lv dv xv L D X) (hB : B ≤ w.heap.size) (hw : widthI k q = (wd : Int)) (hw1 : 1 ≤ wd) (hw2 : wd ≤ 6) (hn : n ≤ 4096) (hlen : n * wd + wd ≤ X.length) (hX : X.length ≤ 281474976710656) :
    Calls Try.prog 90 #[ringV k p q, tenV lv dv xv, .int .i64 n] w (NewRow w (getL wd X n)) := by
  have H0 := Lib.hid (Held.ringTen w k p q lv dv xv 30 55)
  have HX0 := Lib.hid h.x
  have HB0 := Lib.hid hB
  have HW := Lib.hid hw
  obtain ⟨al, cl, rfl, -⟩ := ints_form h.l
  obtain ⟨ad, cd, rfl, -⟩ := ints_form h.d
  obtain ⟨b, off, cx, rfl, hbB, hcc, hc⟩ : ∃ b off cx, xv = .slice (some ⟨b, off, none⟩) X.length cx ∧ b < B ∧ X.length ≤ cx ∧ ∀ i (hi : i < X.length), w.cell? ⟨b, off + i, none⟩ = some (.int .i64 X[i]) := by
    rcases h.x.ints_cases with ⟨rfl, -⟩ | h
    · simp at hlen; omega
    · exact h
  obtain ⟨ml, hml⟩ : ∃ m, m = L.length := ⟨_, rfl⟩
  obtain ⟨md, hmd⟩ : ∃ m, m = D.length := ⟨_, rfl⟩
  obtain ⟨mx, hmx⟩ : ∃ m, m = X.length := ⟨_, rfl⟩
  obtain ⟨s, hs⟩ : ∃ s, s = n * wd := ⟨_, rfl⟩
  have hsb : s ≤ 24576 := by rw [hs]; exact Nat.mul_le_mul hn hw2
  rw [← hml, ← hmd, ← hmx] at H0
  rw [← hml, ← hmd]
  rw [← hmx] at hcc hX ⊢
  rw [← hs] at hlen
  have hlen2 : s + wd ≤ mx := by omega
  have HC : Hid (∀ j u, (ints (getL wd X n))[j]? = some u → w.cell? ⟨b, off + (s + j), none⟩ = some u) := Lib.hid fun j u hj => by
    have hlt : j < wd := by
      have := (List.getElem?_eq_some_iff.1 hj).1
      rw [ints_len, getL_len (by rw [← hs]; omega)] at this
      exact this
    have e : (ints (getL wd X n))[j]? = (ints X)[s + j]? := by
      unfold ints
      rw [List.getElem?_map, List.getElem?_map, getL_at hlt, hs]
    rw [e, ints_at X (s + j) (by omega)] at hj
    rw [hc (s + j) (by omega)]
    exact hj
  have HGL := Lib.hid (getL_len (w := wd) (X := X) (n := n) (by rw [← hs]; omega))
  have HBS := Lib.hid (Nat.lt_of_lt_of_le hbB hB)
  obtain ⟨i0, hi, hz0, hz1, hz2⟩ := info_parts infoInt
  have J0 := Lib.hid hi
  have J1 := Lib.hid hz0
  have J2 := Lib.hid hz1
  have J3 := Lib.hid hz2
  have hm1 : (n : Int) * (wd : Int) = (s : Int) := by rw [hs]; simp
  have hw3 : IntKind.i64.wrap ((s : Int)) = s := IntWalk.i64_in _ (by omega)
  have hw4 : IntKind.i64.wrap ((s : Int) + (wd : Int)) = (s : Int) + wd := IntWalk.i64_in _ (by omega)
  have hg1 : (0 : Int) ≤ (s : Int) := by omega
  have hg2 : (s : Int) ≤ (s : Int) + (wd : Int) := by omega
  have hg3 : (s : Int) + (wd : Int) ≤ (cx : Int) := by omega
  clear h hB hw hc hi hz0 hz1 hz2 hml hmd hmx hs hbB
  go_enter Try.func90, Try.ntmps90
  go_wp2_with fail
  refine (Held.call H0 (width_spec k p q _)).mono ?_
  rw [HW.out]
  rintro e w1 ⟨rfl, H1, c0, c1, c2, d0, d1, d2, -⟩
  have HL := Lib.hid (World.ownsRow_lit (base := w.heap.size) (e := 3) (size := 1) w1 #[] 0 H1.out.1.size (by unfold maxLen; omega) rfl)
  have HN : Hid (∀ j u, (ints (getL wd X n))[j]? = some u → (w1.alloc (.cells #[] 3)).cell? ((⟨b, off + s, none⟩ : Addr).add j) = some u) := Lib.hid fun j u hj => by
    rw [Addr.add_lit, Nat.add_assoc, ← HC.out j u hj]
    exact ((H1.out.1.alloc H1.out.1.size _).cell (p := ⟨b, off + (s + j), none⟩) HBS.out)
  have hzz : w.heap.size + 1 < w1.heap.size := H1.out.2.2 (w.heap.size + 1, 0, .slice al ml cl) (by simp)
  clear c0 c1 c2 d0 d1
  go_wp2_with (at_builtin; go_must (refine wpList_append_own _ rfl _ _ 25 rfl w.heap.size 3 i0 (.int .i64 0) 1 8 Try.underlying25 J0.out J1.out J2.out J3.out rfl (by decide) _ _ _ rfl HL.out ⟨b, off + s, none⟩ wd (cx - s) (ints (getL wd X n)) ?c0 ?c1 HN.out (one_cells _) ?c2 ?c3 ?c4 ?_))
  case c0 => show Value.slice (some ⟨b, off + s, none⟩) (s + wd - s) (cx - s) = _; rw [Nat.add_sub_cancel_left]
  case c1 => rw [ints_len, HGL.out, Nat.mul_one]
  case c2 => unfold maxLen; omega
  case c3 => omega
  case c4 => have := H1.out.1.size; simp; omega
  intro v' w2 hown hg _
  have RES : Hid (NewRow w (getL wd X n) (.returned v') w2) := Lib.hid ⟨v', rfl, Own.of (n := 0 + wd) (by simpa using hown) (by rw [HGL.out]; omega), by
    have := (H1.out.1.alloc H1.out.1.size (.cells #[] 3)).grown hg (by have := H1.out.1.size; simp; omega) (fun j hj => by cases hj; exact H1.out.1.size)
    exact this⟩
  clear hown hg
  go_wp2
  go_ret
  exact RES.out

/-- The element with an index, or nothing. -/
noncomputable def elemAtL (k p n : Int) (L D X ix : List Int) : List Int := if 0 ≤ offsetI L D ix ∧ tensorB k p n L D X = true then getL (widthI k n).toNat X (offsetI L D ix).toNat else []
theorem elemAtL_len (k p n : Int) (L D X ix : List Int) : (elemAtL k p n L D X ix).length ≤ 6 := by
  unfold elemAtL
  split
  · rename_i h
    have := ring_width (tensorB_inv h.2).1
    unfold getL
    rw [List.length_take]; omega
  · simp
end Go.Proofs.Ytdheakjjnaifkaa
