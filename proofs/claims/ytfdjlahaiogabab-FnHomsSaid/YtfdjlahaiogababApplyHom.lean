
/- ApplyHom, both. -/
import Derived.Test.YtfdjlahaiogababImage2
import Derived.Test.YtfdjlahaiogababCount2
namespace Go.Proofs.Ytfdjlahaiogabab
set_option maxRecDepth 20000
open Go.RowKit

noncomputable def applyL (fk fp fn tk tp tn hk ha : Int) (xs : List Int) : List Int := if (homB fk fp fn tk tp tn hk ha && elemB fk fp fn xs) = true then imageL fk tk tp tn hk ha xs else []
theorem zeroL_len {k p n : Int} (h : ringB k p n = true) : (zeroL k p n).length ≤ 6 := by
  obtain ⟨m, hm, h1, h2⟩ := width_nat h
  simp [zeroL, hm]; omega
theorem oneL_len {k p n : Int} (h : ringB k p n = true) : (oneL k p n).length ≤ 6 := by
  obtain ⟨m, hm, h1, h2⟩ := width_nat h
  simp [oneL, hm]; omega
theorem image_len {fk fp fn tk tp tn hk ha : Int} {xs : List Int} (hh : homB fk fp fn tk tp tn hk ha = true) (he : ElemV fk fp fn xs) : (imageL fk tk tp tn hk ha xs).length ≤ 6 := by
  obtain ⟨hf, ht, -⟩ := homB_parts hh
  have h1 := ring_width hf
  have h2 := he.1
  have h3 := zeroL_len ht
  have h4 := oneL_len ht
  unfold imageL cutL bitL
  repeat' split
  all_goals (try simp only [List.length_cons, List.length_nil, List.length_take]); omega
theorem apply_len (fk fp fn tk tp tn hk ha : Int) (xs : List Int) : (applyL fk fp fn tk tp tn hk ha xs).length ≤ 6 := by
  unfold applyL
  by_cases h : (homB fk fp fn tk tp tn hk ha && elemB fk fp fn xs) = true
  · rw [if_pos h]
    rw [Bool.and_eq_true] at h
    exact image_len h.1 (elemB_true.1 h.2)
  · rw [if_neg h]; simp

set_option maxRecDepth 100000 in
set_option maxHeartbeats 800000 in
/-- impl.ApplyHom. -/
theorem apply_impl {B : Nat} {v : Value} {fk fp fn tk tp tn hk ha : Int} {xs : List Int} {w : World} (hr : Rd B w v (ints xs)) (hB : B ≤ w.heap.size) (hn : xs.length ≤ 281474976710656) :
    Calls Try.prog 71 #[ringV fk fp fn, ringV tk tp tn, homV hk ha, v] w (NewRow w (applyL fk fp fn tk tp tn hk ha xs)) := by
  obtain ⟨a, cap, rfl, -⟩ := ints_form hr
  obtain ⟨len, hlen⟩ : ∃ len, len = xs.length := ⟨_, rfl⟩
  rw [← hlen] at hr hn ⊢
  have H0 := Lib.hid (Inv3.box w fk fp fn tk tp tn hk ha 31 45)
  have HX := Lib.hid hr
  have HLEN := Lib.hid hlen
  obtain ⟨ok, hok⟩ : ∃ ok, ok = homB fk fp fn tk tp tn hk ha := ⟨_, rfl⟩
  obtain ⟨el, hel⟩ : ∃ el, el = elemB fk fp fn xs := ⟨_, rfl⟩
  obtain ⟨r, hres⟩ : ∃ r, r = applyL fk fp fn tk tp tn hk ha xs := ⟨_, rfl⟩
  rw [← hres]
  have HO := Lib.hid hok
  have HE := Lib.hid hel
  have HR := Lib.hid (show r = if (ok && el) = true then imageL fk tk tp tn hk ha xs else [] by rw [hres, hok, hel]; rfl)
  have hn2 := Lib.hid (show xs.length ≤ 281474976710656 by rw [← hlen]; exact hn)
  clear hr hlen hok hel hres
  go_enter Try.func71, Try.ntmps71
  go_wp2_with fail
  refine (check_any fk fp fn tk tp tn hk ha _).mono ?_
  rw [← HO.out]
  rintro e w1 ⟨hb, h1⟩
  have HV1 := Lib.hid (H0.out.step hb)
  clear hb
  cases ok with
  | false =>
    obtain rfl : e = .returned (.pointer none) := by simpa using h1
    go_wp2
    go_ret
    rw [HR.out]
    exact nil_row HV1.out.bel
  | true =>
    rw [if_pos rfl] at h1
    obtain ⟨b, rfl, h2, h3, h4⟩ := h1
    have HB8 := Lib.hid (⟨h2, h3, h4⟩ : _ ∧ _ ∧ _)
    have hring := (homB_parts HO.out.symm).1
    have HRB := Lib.hid hring
    have HHO : Hid (holdsB fk fp fn [xs] = el) := Lib.hid (by rw [HE.out]; simp [holdsB, hring])
    clear h2 h3 h4 hring
    have hsz : w1.heap.size < (w1.alloc (.cells #[.slice a len cap] 24)).heap.size := by simp
    have HRR := Lib.hid (RdRows.one (B := B) (b := w1.heap.size) (w1 := w1.alloc (.cells #[.slice a len cap] 24)) (xs := xs) (v := .slice a len cap) ((HX.out.below HV1.out.bel hB).below ((Below.refl w1.heap.size w1).alloc (Nat.le_refl _) (.cells #[.slice a len cap] 24)) (Nat.le_trans hB HV1.out.bel.size)) (Nat.le_trans hB HV1.out.bel.size) (by simp [World.cell?_alloc_at]))
    obtain ⟨c0, c1, c2, d0, d1, d2, e0, e1⟩ := HV1.out.cells
    go_wp2_with fail
    refine (holds_impl HRR.out (by simp) (by simp) (by simpa using hn2.out)).mono ?_
    rw [HHO.out]
    rintro e w2 ⟨rfl, hb2⟩
    have HV2 := Lib.hid (HV1.out.step (((Below.refl w1.heap.size w1).alloc (Nat.le_refl _) (.cells #[.slice a len cap] 24)).trans (hb2.mono (Nat.le_of_lt hsz))))
    have HB9 := Lib.hid ((HB8.out.2.2.below ((Below.refl w1.heap.size w1).alloc (Nat.le_refl _) (.cells #[.slice a len cap] 24)) HB8.out.2.1).below hb2 (Nat.lt_trans HB8.out.2.1 hsz))
    have hbs2 : b < w2.heap.size := Nat.lt_of_lt_of_le HB8.out.2.1 (Nat.le_trans (Nat.le_of_lt hsz) hb2.size)
    have HS2 := Lib.hid hbs2
    clear hb2 c0 c1 c2 d0 d1 d2 e0 e1 hsz hbs2
    cases el with
    | false =>
      go_wp2
      go_ret
      rw [HR.out]
      exact nil_row HV2.out.bel
    | true =>
      go_wp2_with fail
      refine (image_any HB9.out HS2.out HO.out.symm (elemB_true.1 HE.out.symm) (HX.out.below HV2.out.bel hB) (Nat.le_trans hB HV2.out.bel.size)).mono ?_
      intro e w3 h3
      obtain ⟨v, rfl, ho, hb3⟩ := row_pass HV2.out.bel h3
      clear h3
      have HOW : Hid (Own w3 w.heap.size w3.heap.size v r) := Lib.hid (by rw [HR.out]; exact ho)
      have HBW := Lib.hid hb3
      clear ho hb3
      go_wp2
      go_ret
      exact ⟨v, rfl, HOW.out, HBW.out⟩

end Go.Proofs.Ytfdjlahaiogabab
