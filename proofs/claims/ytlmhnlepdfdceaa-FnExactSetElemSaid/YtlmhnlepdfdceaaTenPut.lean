
/- spec.l05Put: an element is put into a row of the call's own. -/
import Derived.Test.YtlmhnlepdfdceaaTenCopy
import Derived.StillTailTactics
namespace Go.Proofs.Ytlmhnlepdfdceaa
set_option maxRecDepth 20000
set_option maxRecDepth 20000
open Go.RowKit

/-- The first j integers of x stand at s. -/
def putTo (s j : Nat) (X x : List Int) : List Int := X.take s ++ (x.take j ++ X.drop (s + j))
theorem putTo_len {s j : Nat} {X x : List Int} (h : s + x.length ≤ X.length) (hj : j ≤ x.length) : (putTo s j X x).length = X.length := by
  unfold putTo; simp only [List.length_append, List.length_take, List.length_drop]; omega
theorem putTo_zero (s : Nat) (X x : List Int) : putTo s 0 X x = X := by simp [putTo]
theorem putTo_set {s j : Nat} {X x : List Int} {a : Int} (h : s + x.length ≤ X.length) (hj : x[j]? = some a) : (putTo s j X x).set (s + j) a = putTo s (j + 1) X x := by
  have hlt := (List.getElem?_eq_some_iff.1 hj).1
  have ha := (List.getElem?_eq_some_iff.1 hj).2
  have h1 : (X.take s).length = s := by rw [List.length_take]; omega
  have h2 : (x.take j).length = j := by rw [List.length_take]; omega
  have h3 : X.drop (s + j) = X[s + j]'(by omega) :: X.drop (s + (j + 1)) := by rw [List.drop_eq_getElem_cons (by omega)]; rfl
  unfold putTo
  rw [List.set_append_right _ _ (by omega), h1, Nat.add_sub_cancel_left, List.set_append_right _ _ (by omega), h2, Nat.sub_self, h3, List.set_cons_zero, List.take_add_one, hj]
  simp
theorem putTo_full {s : Nat} {X x : List Int} : putTo s x.length X x = putL X s x := by simp [putTo, putL]
theorem ints_put (xs : List Int) (i : Nat) (x : Int) : ints (xs.set i x) = (ints xs).set i (.int .i64 x) := by simp [ints, List.map_set]
theorem own_slot {w : World} {B g m cap j : Nat} {zs : List Int} (h : Hid (w.ownsRow B 3 1 (.slice (some ⟨g, 0, none⟩) m cap) m (ints zs))) (hj : j < zs.length) : ∃ x, w.cell? ⟨g, j, none⟩ = some (.int .i64 x) := by
  have hl : (ints zs).length = m * 1 := h.out.1
  rw [ints_len] at hl
  exact ⟨zs[j], by rw [h.out.cellAt j (by omega), ints_at _ _ hj]⟩
theorem put_step {w : World} {B g m cap s j : Nat} {X x : List Int} {a : Int} (h : Hid (w.ownsRow B 3 1 (.slice (some ⟨g, 0, none⟩) m cap) m (ints (putTo s j X x)))) (hl : s + x.length ≤ X.length) (ha : x[j]? = some a) :
    Hid ((w.drew.setCell ⟨g, s + j, none⟩ (.int .i64 a)).ownsRow B 3 1 (.slice (some ⟨g, 0, none⟩) m cap) m (ints (putTo s (j + 1) X x))) := by
  have h1 : w.drew.ownsRow B 3 1 (.slice (some ⟨g, 0, none⟩) m cap) m (ints (putTo s j X x)) := h.out
  have h2 := (h1.stored (s + j) (.int .i64 a)).1
  rw [← ints_put, putTo_set hl ha] at h2
  exact h2
theorem grownBy_drew {w w1 : World} {r : Option Nat} (h : w.grownBy w1 r) : w.grownBy w1.drew r := ⟨h.os, h.tape, h.output, h.size, h.block⟩

set_option maxHeartbeats 1600000 in
theorem put_spec {B lo hi : Nat} {lv dv xv iv : Value} {k p q : Int} {X x : List Int} {w : World} (wd n : Nat) (ml cl md cd : Nat) (al ad : Option Addr) (hl : lv = .slice al ml cl) (hd : dv = .slice ad md cd) (hx : Own w lo hi xv X) (hi' : Rd B w iv (ints x)) (hB : B ≤ lo) (hw : widthI k q = (wd : Int)) (hw1 : 1 ≤ wd) (hw2 : wd ≤ 6) (hxl : x.length = wd) (hn : n ≤ 4096) (hlen : n * wd + wd ≤ X.length) (hX : X.length ≤ 281474976710656) :
    Calls Try.prog 58 #[ringV k p q, tenV lv dv xv, .int .i64 n, iv] w fun e w' => e = .returned (.tuple #[]) ∧ Own w' lo hi xv (putL X (n * wd) x) ∧ w.grownBy w' xv.ownBlock := by
  subst hl hd
  have H0 := Lib.hid (Held.ringTen w k p q (.slice al ml cl) (.slice ad md cd) xv 34 27)
  obtain ⟨g, cap, rfl, hglo⟩ : ∃ g cap, xv = .slice (some ⟨g, 0, none⟩) X.length cap ∧ lo ≤ g := by
    rcases hx.1.2 with ⟨-, hnil⟩ | ⟨g, cap, cur, e, hb, -⟩
    · exfalso; rw [hnil] at hlen; generalize n * wd = z at hlen; omega
    · exact ⟨g, cap, e, hb⟩
  have hghi : g < w.heap.size := Nat.lt_of_lt_of_le (hx.2.1 g rfl) hx.2.2
  obtain ⟨ai, b, off, ci, rfl, rfl, hbB, hc⟩ : ∃ (ai : Option Addr) (b off ci : Nat), ai = some ⟨b, off, none⟩ ∧ iv = .slice ai wd ci ∧ b < B ∧ ∀ i (hi : i < x.length), w.cell? ⟨b, off + i, none⟩ = some (.int .i64 x[i]) := by
    rcases hi'.ints_cases with ⟨h, -⟩ | ⟨b, off, ci, e, hb, -, hc⟩
    · rw [h] at hxl; simp at hxl; omega
    · exact ⟨_, b, off, ci, rfl, by rw [e, hxl], hb, hc⟩
  obtain ⟨mx, hmx⟩ : ∃ m, m = X.length := ⟨_, rfl⟩
  obtain ⟨s, hs⟩ : ∃ s, s = n * wd := ⟨_, rfl⟩
  have hsb : s ≤ 24576 := by rw [hs]; exact Nat.mul_le_mul hn hw2
  have HXO := Lib.hid hx
  rw [← hmx] at H0 hX HXO ⊢
  rw [← hs] at hlen
  have hlen2 : s + wd ≤ mx := by omega
  have HM := Lib.hid hmx
  have HS := Lib.hid hs
  have HC := Lib.hid hc
  have HXL := Lib.hid hxl
  have HW := Lib.hid hw
  have hbg : b ≠ g := by omega
  have hbs : b < w.heap.size := by omega
  have hm1 : (n : Int) * (wd : Int) = (s : Int) := by rw [hs]; simp
  have hw3 : IntKind.i64.wrap ((s : Int)) = s := IntWalk.i64_in _ (by omega)
  clear hx hi' hB hw hc hmx hs hxl hn hlen
  go_enter Try.func58, Try.ntmps58
  go_wp2_with fail
  refine (Held.call H0 (width_spec k p q _)).mono ?_
  rw [HW.out]
  rintro e w1 ⟨rfl, H1, -⟩
  have G1 : Hid (w.grownBy w1 (some g)) := Lib.hid (by have hb := H1.out.1; exact ⟨hb.os, hb.tape, hb.output, hb.size, fun k hk _ => hb.block k hk⟩)
  have O1 : Hid (w1.ownsRow lo 3 1 (.slice (some ⟨g, 0, none⟩) mx cap) mx (ints (putTo s 0 X x))) := Lib.hid (by
    rw [putTo_zero]
    have h := (HXO.out.below H1.out.1 (Nat.le_refl _)).1
    rw [← HM.out] at h; exact h)
  have C1 := Lib.hid H1.out.2.1
  clear H1
  go_wp2
  go_loopw [14] (fun i wr => ∃ j : Nat, j ≤ wd ∧ i = .int .i64 j ∧ Hid (w.grownBy wr (some g)) ∧ Hid (wr.ownsRow lo 3 1 (.slice (some ⟨g, 0, none⟩) mx cap) mx (ints (putTo s j X x))) ∧ Hid (CellsAt wr (ringTen w.heap.size (w.heap.size + 1) k p q (.slice al ml cl) (.slice ad md cd) (.slice (some ⟨g, 0, none⟩) mx cap)))) (fun i _ => wd - (intOf i).toNat)
  case atStart => exact ⟨0, by omega, rfl, G1, O1, C1⟩
  case round =>
    clear G1 O1 C1
    obtain ⟨j, hj, rfl, HG, HO, HCE⟩ := hrel
    by_cases hlt : j < wd
    · obtain ⟨a, e1, X1⟩ := ints_cell HXL.out HC.out hlt
      obtain ⟨-, -, -, -, -, t2, -⟩ := HCE.out
      have d1 : wr.cell? ⟨b, off + j, none⟩ = some (.int .i64 a) := by
        rw [← e1]
        exact World.cell?_of_block (w := w) (HG.out.block b hbs (fun e => hbg (by injection e)))
      obtain ⟨y, y1⟩ := own_slot (j := s + j) HO (by rw [putTo_len (by rw [HXL.out, ← HM.out]; omega) (by rw [HXL.out]; omega), ← HM.out]; omega)
      have f1 := HO.out.frozenAt (s + j)
      have hw4 : IntKind.i64.wrap ((s : Int) + (j : Int)) = (s : Int) + j := IntWalk.i64_in _ (by omega)
      have hg0 : (0 : Int) ≤ (s : Int) + j := by omega
      have hg1 : ((s : Int) + j).toNat = s + j := by omega
      clear e1
      go_wp2
      go_still_tail 11, (by kernel_rfl)
      change wpList _ _ _ _ _ wr.drew
      go_wp2
      refine ⟨⟨j + 1, by omega, by go_num, ?_, ?_, ?_⟩, by simp [intOf]; omega⟩
      · have := (HO.out.stored (s + j) (.int .i64 a)).2
        exact grownBy_setCell (grownBy_drew HG.out) rfl _
      · exact put_step HO (by rw [HXL.out, ← HM.out]; omega) X1.out
      · exact HCE.out.set (fun x hx e => by
          simp only [List.mem_cons, List.not_mem_nil, or_false] at hx
          rcases hx with rfl | rfl | rfl | rfl | rfl | rfl <;> simp at e <;> omega) _ _
    · obtain rfl : j = wd := by omega
      go_wp2
      refine bodyPost_end (v := .tuple #[]) (by simp [results, Try.results58, go_sem]) rfl ?_
      refine ⟨rfl, ?_, HG.out⟩
      have h := HO.out
      have e : putTo s j X x = putL X (n * j) x := by rw [← HS.out, ← putTo_full, HXL.out]
      rw [e] at h
      have hl : (putL X (n * j) x).length = mx := by have := h.1; rw [ints_len, Nat.mul_one] at this; exact this
      exact ⟨hl ▸ h, HXO.out.2.1, Nat.le_trans HXO.out.2.2 HG.out.size⟩
end Go.Proofs.Ytlmhnlepdfdceaa
