
/- AddElem, both. -/
import Derived.Test.YtfdjlahaiogabaaPlusSpec
import Derived.Test.YtfdjlahaiogabaaZero
import Derived.Test.YtfdjlahaiogabaaMulHigh
namespace Go.Proofs.Ytfdjlahaiogabaa
set_option maxRecDepth 20000
open Go.RowKit

noncomputable def twoOk (k p n : Int) (xs ys : List Int) : Bool := ringB k p n && (elemB k p n xs && elemB k p n ys)
noncomputable def addElemL (k p n : Int) (xs ys : List Int) : List Int := if twoOk k p n xs ys = true then plusL k p xs ys else []
theorem twoOk_parts {k p n : Int} {xs ys : List Int} (h : twoOk k p n xs ys = true) : ringB k p n = true ∧ ElemV k p n xs ∧ ElemV k p n ys := by
  unfold twoOk at h
  rw [Bool.and_eq_true, Bool.and_eq_true] at h
  exact ⟨h.1, elemB_true.1 h.2.1, elemB_true.1 h.2.2⟩
theorem addElem_len (k p n : Int) (xs ys : List Int) : (addElemL k p n xs ys).length ≤ 6 := by
  unfold addElemL
  by_cases h : twoOk k p n xs ys = true
  · rw [if_pos h]
    have h1 := twoOk_parts h
    have h2 := ring_width h1.1
    have h3 := h1.2.1.1
    simp [plusL]; omega
  · rw [if_neg h]; simp

end Go.Proofs.Ytfdjlahaiogabaa
namespace Go.Proofs.Ytfdjlahaiogabaa
set_option maxRecDepth 20000
open Go.RowKit

theorem mul_spec {B : Nat} {vx vy : Value} {k p n : Int} {xs ys : List Int} {w : World} (hr : ringB k p n = true) (hx : Rd B w vx (ints xs)) (hy : Rd B w vy (ints ys)) (hB : B ≤ w.heap.size) (ex : ElemV k p n xs) (ey : ElemV k p n ys) :
    Calls Try.prog 136 #[ringV k p n, vx, vy] w (NewRow w (timesL k p xs ys)) := by
  have h2 := ring_top hr
  have hc := ring_cases hr
  have l1 := ex.1
  have l2 := ey.1
  have h1 := ring_width hr
  have hl : ys.length = xs.length := by omega
  by_cases hk : k = 7 ∨ k = 8
  · have q1 : 1 ≤ xs.length := by omega
    have q2 : xs.length ≤ 6 := by omega
    have q3 : 2 ≤ p := by omega
    have q4 : p ≤ 1000003 := by omega
    have htop : topI k p n ≤ p := by unfold topI; rw [if_neg (by omega), if_neg (by omega), if_pos (by omega)]; omega
    have q5 : Within p xs := fun x hx => by have := ex.2 x hx; omega
    have q6 : Within p ys := fun x hx => by have := ey.2 x hx; omega
    have g1 : (k == 1) = false := by simp; omega
    have g2 : (k == 2) = false := by simp; omega
    have g3 : (k == 3) = false := by simp; omega
    have g4 : (k == 4) = false := by simp; omega
    have g5 : (k == 5) = false := by simp; omega
    have g6 : (k == 6) = false := by simp; omega
    have g8 : (k == 8) = true → xs.length = 4 := fun h => by
      have h8 : k = 8 := by simpa using h
      have hw : widthI k n = 4 := by rw [h8]; rfl
      omega
    have e : timesL k p xs ys = (List.range xs.length).map fun c => convC xs.length (k == 8) (fun i => xs.getD i 0) (fun i => ys.getD i 0) c % p := by
      unfold timesL
      rw [if_neg (by omega), if_neg (by omega), if_neg (by omega), if_neg (by omega)]
    rw [e]
    obtain ⟨ax, cx, rfl, hax⟩ := ints_form hx
    obtain ⟨ay, cy, rfl, hay⟩ := ints_form hy
    rw [hl]
    exact poly_spec_full ax ay cx cy xs.length B k p n xs ys w rfl hl q1 q2 hB q5 q6 (k == 8) rfl g1 g2 g3 g4 g5 g6 g8 q3 q4 hax (fun h => hay (hl ▸ h))
  have hwd : widthI k n = 1 := by unfold widthI; rw [if_neg (by omega), if_neg (by omega)]
  have q1 : xs.length = 1 := by omega
  have q2 : ys.length = 1 := by omega
  have hrp := ring_p hr
  obtain ⟨bx, ox, cx, rfl, hbx, hcx⟩ := rd_one hx q1 hB
  obtain ⟨by_, oy, cy, rfl, hby, hcy⟩ := rd_one hy q2 hB
  have g1 := ex.2.getD (by omega) 0
  have g2 := ey.2.getD (by omega) 0
  have ec : ∀ q : Int, (List.range xs.length).map (fun c => convC xs.length ((2 : Int) == 8) (fun i => xs.getD i 0) (fun i => ys.getD i 0) c % q) = [xs.getD 0 0 * ys.getD 0 0 % q] := fun q => by
    rw [q1]
    simp [convC, sumN, dC, List.range_succ]
  unfold timesL
  rcases hc with ⟨rfl, g⟩ | ⟨rfl, g⟩ | ⟨rfl, g⟩ | ⟨rfl, g⟩ | ⟨rfl, g⟩ | ⟨rfl, g⟩ | ⟨rfl, g⟩ | ⟨rfl, g⟩
  · exact mul_k1 bx ox by_ oy cx cy p n _ _ w hbx hby hcx hcy
  · rw [if_neg (by omega), if_neg (by omega), if_neg (by omega), if_neg (by omega)]
    have e2 := ec p
    generalize xs.getD 0 0 = a at *
    generalize ys.getD 0 0 = b at *
    rw [e2]
    exact mul_k2 bx ox by_ oy cx cy p n a b w hbx hby hcx hcy g1.1 (by omega) g2.1 (by omega) (a * b) rfl (by omega) (by omega)
  all_goals
    clear ec
    generalize xs.getD 0 0 = a at *
    generalize ys.getD 0 0 = b at *
  · rw [if_neg (by omega), if_pos rfl]
    by_cases hq : p < a * b
    · rw [show min (a * b) p = p from by omega]
      exact mul_k3a bx ox by_ oy cx cy p n a b w hbx hby hcx hcy g1.1 (by omega) g2.1 (by omega) (a * b) rfl hq
    · rw [show min (a * b) p = a * b from by omega]
      exact mul_k3b bx ox by_ oy cx cy p n a b w hbx hby hcx hcy g1.1 (by omega) g2.1 (by omega) (a * b) rfl (by omega)
  · rw [if_neg (by omega), if_neg (by omega), if_pos rfl]
    by_cases hq : p < a + b
    · rw [show min (a + b) p = p from by omega]
      exact mul_k4a bx ox by_ oy cx cy p n a b w hbx hby hcx hcy g1.1 (by omega) g2.1 (by omega) hq
    · rw [show min (a + b) p = a + b from by omega]
      exact mul_k4b bx ox by_ oy cx cy p n a b w hbx hby hcx hcy g1.1 (by omega) g2.1 (by omega) (by omega)
  · rw [if_neg (by omega), if_neg (by omega), if_neg (by omega), if_pos rfl]
    by_cases hq : b < a
    · rw [show min a b = b from by omega]
      exact mul_k5a bx ox by_ oy cx cy p n a b w hbx hby hcx hcy hq
    · rw [show min a b = a from by omega]
      exact mul_k5b bx ox by_ oy cx cy p n a b w hbx hby hcx hcy (by omega)
  · exact mul_k6 bx ox by_ oy cx cy p n a b w hbx hby hcx hcy
  · exact absurd (.inl rfl) hk
  · exact absurd (.inr rfl) hk

noncomputable def mulElemL (k p n : Int) (xs ys : List Int) : List Int := if twoOk k p n xs ys = true then timesL k p xs ys else []
theorem mulElem_len (k p n : Int) (xs ys : List Int) : (mulElemL k p n xs ys).length ≤ 6 := by
  unfold mulElemL
  by_cases h : twoOk k p n xs ys = true
  · rw [if_pos h]
    have h1 := twoOk_parts h
    have h2 := ring_width h1.1
    have h3 := h1.2.1.1
    have h5 : xs.length ≤ 6 := by omega
    unfold timesL
    split
    · simp
    · split
      · simp
      · split
        · simp
        · split
          · simp
          · simpa using h5
  · rw [if_neg h]; simp

end Go.Proofs.Ytfdjlahaiogabaa
