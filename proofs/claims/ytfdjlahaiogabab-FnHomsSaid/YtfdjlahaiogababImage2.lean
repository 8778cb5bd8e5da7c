
/- The image under any valid homomorphism: impl's method, spec's function. -/
import Derived.Test.YtfdjlahaiogababMapSpec
import Derived.Test.YtfdjlahaiogababHomLaw
namespace Go.Proofs.Ytfdjlahaiogabab
set_option maxRecDepth 20000
open Go.RowKit

/-- What is known of a valid homomorphism and an element of its first ring. -/
theorem homB_parts {fk fp fn tk tp tn hk ha : Int} (h : homB fk fp fn tk tp tn hk ha = true) : ringB fk fp fn = true ∧ ringB tk tp tn = true ∧ HomV fk fp fn tk tp tn hk ha := by
  unfold homB at h
  rw [Bool.and_eq_true, Bool.and_eq_true, decide_eq_true_eq] at h
  exact h
theorem elem_row {B : Nat} {v : Value} {k p n : Int} {xs : List Int} {w : World} (hk : ringB k p n = true) (he : ElemV k p n xs) (hr : Rd B w v (ints xs)) (hB : B ≤ w.heap.size) :
    ∃ b off cap x, v = .slice (some ⟨b, off, none⟩) xs.length cap ∧ b < w.heap.size ∧ xs.length ≤ cap ∧ 0 < xs.length ∧ xs.length ≤ 6 ∧ xs[0]?.getD 0 = x ∧ w.cell? ⟨b, off, none⟩ = some (.int .i64 x) ∧ 0 ≤ x ∧ x ≤ topI k p n ∧ ∀ i (h : i < xs.length), w.cell? ⟨b, off + i, none⟩ = some (.int .i64 xs[i]) := by
  have h1 := ring_width hk
  have h2 := he.1
  rcases hr.ints_cases with ⟨h0, a, cap, rfl⟩ | ⟨b, off, cap, rfl, hlt, hcp, hc⟩
  · subst h0; simp at h2; omega
  · have h3 : 0 < xs.length := by omega
    have h4 := he.2 (xs[0]'h3) (List.getElem_mem h3)
    exact ⟨b, off, cap, xs[0]'h3, rfl, by omega, hcp, h3, by omega, by rw [List.getElem?_eq_getElem h3]; rfl, hc 0 h3, h4.1, h4.2, hc⟩
theorem elem_small {k p n : Int} {xs : List Int} (hk : ringB k p n = true) (he : ElemV k p n xs) : ∀ x ∈ xs, 0 ≤ x ∧ x ≤ 1048576 := fun x hx => ⟨(he.2 x hx).1, Int.le_trans (he.2 x hx).2 (ring_top hk).2⟩
theorem take_one {xs : List Int} {x : Int} (h : 0 < xs.length) (hx : xs[0]?.getD 0 = x) : xs.take 1 = [x] := by
  cases xs with
  | nil => simp at h
  | cons y ys => simp at hx ⊢; exact hx
theorem min_of_lt {x p : Int} (h : p < x) : min x p = p := by omega
theorem min_of_le {x p : Int} (h : x ≤ p) : min x p = x := by omega

/-- (*checkedHom).image. -/
theorem image_any {B b : Nat} {v : Value} {fk fp fn tk tp tn hk ha : Int} {xs : List Int} {w : World} (hB8 : Box8 w b fk fp fn tk tp tn hk ha) (hb : b < w.heap.size) (hh : homB fk fp fn tk tp tn hk ha = true) (he : ElemV fk fp fn xs) (hr : Rd B w v (ints xs)) (hB : B ≤ w.heap.size) :
    Calls Try.prog 93 #[.pointer (some ⟨b, 0, none⟩), v] w (NewRow w (imageL fk tk tp tn hk ha xs)) := by
  obtain ⟨hf, ht, hv⟩ := homB_parts hh
  obtain ⟨bx, ox, cx, x, rfl, hbx, hcx, h0, h6, hx0, hx, hx1, hx2, hc⟩ := elem_row hf he hr hB
  have hrf := ring_cases hf
  have hrt := ring_cases ht
  have hl := he.1
  rcases hv with ⟨rfl, rfl, rfl, q1, q2⟩ | ⟨rfl, rfl, rfl, q1, q2⟩ | ⟨rfl, rfl, rfl, rfl, q1⟩ | ⟨n3, n4, n6, rfl, hv⟩
  · rw [show imageL 6 1 tp tn 3 ha xs = bitL (bits .and .i64 (x / 2 ^ ha.toNat) 1 == 1) by simp [imageL, hx0]]
    exact image_3 b bx ox cx xs.length 6 fp fn 1 tp tn ha x w hB8 hx h0 q1 (by omega)
  · rw [show imageL 5 1 tp tn 4 ha xs = bitL (decide (ha ≤ x)) by simp [imageL, hx0]]
    exact image_4 b bx ox cx xs.length 5 fp fn 1 tp tn ha x w hB8 hx h0
  · have hrt2 := root_iff q1
    rw [show imageL 8 2 tp tn 6 ha xs = [hornV ha tp xs.reverse] by simp [imageL]]
    exact image_6 b bx ox cx xs.length 8 tp fn 2 tp tn ha xs w hB8 hbx rfl hc h6 (by have := hrt2.1; omega) hrt2.2.1 (by omega) (fun y hy => by have h5 := he.2 y hy; unfold topI at h5; simp at h5; omega)
  · rcases hv with ⟨rfl, rfl, rfl, rfl⟩ | ⟨rfl, q1, rfl⟩ | ⟨rfl, rfl, rfl, rfl⟩ | ⟨rfl, rfl, hcut⟩ | ⟨rfl, rfl, q1⟩
    · rw [show imageL fk fk fp fn 1 0 xs = xs.take xs.length by simp [imageL, ← hl]]
      exact image_d1 b bx ox cx xs.length xs.length fk fp fn fk fp fn 0 xs w hB8 hbx rfl hc hl.symm (Nat.le_refl _) h6 hcx
    · rcases q1 with rfl | rfl
      · rw [show imageL 3 1 tp tn 2 0 xs = bitL (decide (0 < x)) by simp [imageL, hx0]]
        exact image_2b b bx ox cx xs.length 3 fp fn 1 tp tn 0 x w hB8 hx h0 (by decide)
      · rw [show imageL 4 1 tp tn 2 0 xs = bitL (x == 0) by simp [imageL, hx0]]
        exact image_2a b bx ox cx xs.length fp fn 1 tp tn 0 x w hB8 hx h0
    · rw [show imageL 7 2 tp tn 5 0 xs = xs.take 1 by simp [imageL, widthI]]
      exact image_d5 b bx ox cx xs.length 1 7 tp fn 2 tp tn 0 xs w hB8 hbx rfl hc (by simp [widthI]) (by omega) h6 hcx
    · refine image_7 b bx ox cx xs.length tk fp fn tk tp tn 0 w hB8 _ ?_
      by_cases k7 : tk = 7
      · subst k7
        obtain ⟨q, rfl⟩ := Int.eq_ofNat_of_zero_le (show 0 ≤ tn by omega)
        rw [show imageL 7 7 tp (q : Int) 7 0 xs = xs.take q by simp [imageL, cutL]]
        unfold widthI at hl
        unfold CutV at hcut
        simp at hl hcut
        exact cut_7 b bx ox cx xs.length q 7 fp fn tp 7 0 xs w hB8 hbx rfl hc (by omega) h6 hcx
      · by_cases k6 : tk = 6
        · subst k6
          rw [show imageL 6 6 tp tn 7 0 xs = [bits .and .i64 x (topI 6 tp tn)] by simp [imageL, cutL, hx0]]
          exact cut_6 b bx ox cx xs.length 6 fp fn tp tn 7 0 x w hB8 hb hbx hx h0 ht
        · by_cases hlt : tp < x
          · rw [show imageL tk tk tp tn 7 0 xs = [tp] by simp [imageL, cutL, hx0, k7, k6, min_of_lt hlt]]
            exact cut_oa b bx ox cx xs.length tk fp fn tk tp tn 7 0 x w hB8 hx h0 (by simpa using k7) (by simpa using k6) hlt
          · rw [show imageL tk tk tp tn 7 0 xs = [x] by simp [imageL, cutL, hx0, k7, k6]; omega]
            exact cut_ob b bx ox cx xs.length tk fp fn tk tp tn 7 0 x w hB8 hx h0 (by simpa using k7) (by simpa using k6) (by omega)
    · by_cases hz : x = 0
      · rw [show imageL 1 tk tp tn 8 0 xs = zeroL tk tp tn by simp [imageL, hx0, hz]]
        exact image_8a b bx ox cx xs.length 1 fp fn tk tp tn 0 x w hB8 hx h0 hz ht
      · rw [show imageL 1 tk tp tn 8 0 xs = oneL tk tp tn by simp [imageL, hx0, hz]]
        exact image_8b b bx ox cx xs.length 1 fp fn tk tp tn 0 x w hB8 hx h0 (by simpa using hz) ht
/-- spec.l03Map. -/
theorem map_any {B : Nat} {v : Value} {fk fp fn tk tp tn hk ha : Int} {xs : List Int} {w : World} (hh : homB fk fp fn tk tp tn hk ha = true) (he : ElemV fk fp fn xs) (hr : Rd B w v (ints xs)) (hB : B ≤ w.heap.size) :
    Calls Try.prog 141 #[ringV fk fp fn, ringV tk tp tn, homV hk ha, v] w (NewRow w (imageL fk tk tp tn hk ha xs)) := by
  obtain ⟨hf, ht, hv⟩ := homB_parts hh
  obtain ⟨bx, ox, cx, x, rfl, hbx, hcx, h0, h6, hx0, hx, hx1, hx2, hc⟩ := elem_row hf he hr hB
  have hrf := ring_cases hf
  have hrt := ring_cases ht
  have hl := he.1
  rcases hv with ⟨rfl, rfl, rfl, q1, q2⟩ | ⟨rfl, rfl, rfl, q1, q2⟩ | ⟨rfl, rfl, rfl, rfl, q1⟩ | ⟨n3, n4, n6, rfl, hv⟩
  · rw [show imageL 6 1 tp tn 3 ha xs = bitL (bits .and .i64 (x / 2 ^ ha.toNat) 1 == 1) by simp [imageL, hx0]]
    exact map_3 bx ox cx xs.length 6 fp fn 1 tp tn ha x w hbx hx h0 q1 (by omega)
  · rw [show imageL 5 1 tp tn 4 ha xs = bitL (decide (ha ≤ x)) by simp [imageL, hx0]]
    exact map_4 bx ox cx xs.length 5 fp fn 1 tp tn ha x w hbx hx h0
  · have hrt2 := root_iff q1
    have hl4 : xs.length = 4 := by unfold widthI at hl; simp at hl; omega
    rw [show imageL 8 2 tp tn 6 ha xs = [hornV ha tp xs.reverse] by simp [imageL], hl4]
    exact map_6 bx ox cx tp fn 2 tp tn ha xs w hbx hl4 hc (by have := hrt2.1; omega) hrt2.2.1 (by omega) (fun y hy => by have h5 := he.2 y hy; unfold topI at h5; simp at h5; omega)
  · rcases hv with ⟨rfl, rfl, rfl, rfl⟩ | ⟨rfl, q1, rfl⟩ | ⟨rfl, rfl, rfl, rfl⟩ | ⟨rfl, rfl, hcut⟩ | ⟨rfl, rfl, q1⟩
    · rw [show imageL fk fk fp fn 1 0 xs = xs by simp [imageL, ← hl]]
      exact map_1 bx ox cx xs.length fk fp fn fk fp fn 0 xs w hbx rfl hc h6
    · rcases q1 with rfl | rfl
      · rw [show imageL 3 1 tp tn 2 0 xs = bitL (decide (0 < x)) by simp [imageL, hx0]]
        exact map_23 bx ox cx xs.length fp fn 1 tp tn 0 x w hbx hx h0
      · have hb : (x == 0) = !decide (0 < x) := by rw [Bool.eq_iff_iff]; simp; omega
        rw [show imageL 4 1 tp tn 2 0 xs = bitL (!decide (0 < x)) by rw [← hb]; simp [imageL, hx0]]
        exact map_24 bx ox cx xs.length fp fn 1 tp tn 0 x w hbx hx h0
    · rw [show imageL 7 2 tp tn 5 0 xs = [x] by simp [imageL, widthI]; exact take_one h0 hx0]
      exact map_5 bx ox cx xs.length 7 tp fn 2 tp tn 0 x w hbx hx h0
    · by_cases k7 : tk = 7
      · subst k7
        obtain ⟨q, rfl⟩ := Int.eq_ofNat_of_zero_le (show 0 ≤ tn by omega)
        rw [show imageL 7 7 tp (q : Int) 7 0 xs = xs.take q by simp [imageL, cutL]]
        unfold widthI at hl
        unfold CutV at hcut
        simp at hl hcut
        exact map_77 bx ox cx xs.length q fp fn 7 tp 0 xs w hbx rfl hc h6 (by omega) hcx
      · by_cases k6 : tk = 6
        · subst k6
          rw [show imageL 6 6 tp tn 7 0 xs = [bits .and .i64 x (topI 6 tp tn)] by simp [imageL, cutL, hx0]]
          exact map_76 bx ox cx xs.length fp fn tp tn 0 x w hbx hx h0 ht
        · by_cases hlt : tp < x
          · rw [show imageL tk tk tp tn 7 0 xs = [tp] by simp [imageL, cutL, hx0, k7, k6, min_of_lt hlt]]
            exact map_7oa bx ox cx xs.length tk fp fn tk tp tn 0 x w hbx hx h0 (by simpa using k7) (by simpa using k6) hlt
          · rw [show imageL tk tk tp tn 7 0 xs = [x] by simp [imageL, cutL, hx0, k7, k6]; omega]
            exact map_7ob bx ox cx xs.length tk fp fn tk tp tn 0 x w hbx hx h0 (by simpa using k7) (by simpa using k6) (by omega)
    · have hx3 : x = 0 ∨ x = 1 := by unfold topI at hx2; simp at hx2; omega
      rcases hx3 with hz | hz
      · rw [show imageL 1 tk tp tn 8 0 xs = zeroL tk tp tn by simp [imageL, hx0, hz]]
        exact map_8a bx ox cx xs.length 1 fp fn tk tp tn 0 x w hbx hx h0 (by simp [hz]) ht
      · rw [show imageL 1 tk tp tn 8 0 xs = oneL tk tp tn by simp [imageL, hx0, hz]]
        exact map_8b bx ox cx xs.length 1 fp fn tk tp tn 0 x w hbx hx h0 hz ht
end Go.Proofs.Ytfdjlahaiogabab
