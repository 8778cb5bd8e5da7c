
/- spec.ZeroTensor. -/
import Derived.Test.YtlmhnlepdfdceaaZeroTen
namespace Go.Proofs.Ytlmhnlepdfdceaa
set_option maxRecDepth 20000
set_option maxRecDepth 20000
open Go.RowKit

/-- What a function answers that makes a tensor and says whether. -/
def NewTenB (w : World) (L D X : List Int) (b : Bool) (e : Ending) (w' : World) : Prop := ∃ lv dv xv, e = .returned (.tuple #[tenV lv dv xv, .bool b]) ∧ OwnG w' w.heap.size w'.heap.size [(lv, L), (dv, D), (xv, X)] ∧ Below w.heap.size w w'
theorem NewTenB.nils {w w' : World} {b : Bool} (h : Below w.heap.size w w') : NewTenB w [] [] [] b (.returned (.tuple #[tenV nilV nilV nilV, .bool b])) w' :=
  ⟨_, _, _, rfl, OwnG.three (Own.nils h.size) (Own.nils (Nat.le_refl _)) (Own.nils (Nat.le_refl _)) (Nat.le_refl _) h.size (Nat.le_refl _), h⟩
noncomputable def zeroTenB (k p q : Int) (L D : List Int) : Bool := ringB k p q && decide (0 ≤ sizeI L D)
noncomputable def zeroTenL (k p q : Int) (D : List Int) : List Int := repL (zeroL k p q) (prodL D).toNat
set_option maxHeartbeats 1600000 in
theorem zero_tensor_spec {B : Nat} {lv dv : Value} {k p q : Int} {L D : List Int} {w : World} (hl : Rd B w lv (ints L)) (hd : Rd B w dv (ints D)) (hB : B ≤ w.heap.size) (h1 : L.length ≤ 281474976710656) (h2 : D.length ≤ 281474976710656) :
    Calls Try.prog 33 #[ringV k p q, lv, dv] w (NewTenB w (if zeroTenB k p q L D = true then L else []) (if zeroTenB k p q L D = true then D else []) (if zeroTenB k p q L D = true then zeroTenL k p q D else []) (zeroTenB k p q L D)) := by
  have HL0 := Lib.hid hl
  have HD0 := Lib.hid hd
  have HB := Lib.hid hB
  have T0 := Lib.hid (Bx.two w (.int .i64 k) (.int .i64 p) (.int .i64 q) nilV nilV nilV 34 27)
  have HR := Lib.hid (fun (w1 : World) => ring_ok_spec k p q w1)
  have HS := Lib.hid (fun (w1 : World) (hb : Below w.heap.size w w1) => size_spec (lv := lv) (dv := dv) (xv := nilV) (X := []) ⟨HL0.out.below hb HB.out, HD0.out.below hb HB.out, .inl ⟨rfl, none, 0, rfl⟩⟩ (Nat.le_trans HB.out hb.size) ⟨h1, h2, by simp⟩)
  obtain ⟨rb, hrb⟩ : ∃ b, b = ringB k p q := ⟨_, rfl⟩
  obtain ⟨s, hs⟩ : ∃ s, s = sizeI L D := ⟨_, rfl⟩
  obtain ⟨zb, hzb⟩ : ∃ b, b = zeroTenB k p q L D := ⟨_, rfl⟩
  rw [← hrb] at HR
  rw [← hs] at HS
  rw [← hzb]
  have HZB : Hid (zb = (rb && decide (0 ≤ s))) := by show _ = _; rw [hzb, hrb, hs]; rfl
  have HRB := Lib.hid hrb
  have HSI := Lib.hid hs
  obtain ⟨al, cl, rfl, -⟩ := ints_form hl
  obtain ⟨ad, cd, rfl, -⟩ := ints_form hd
  clear hl hd hB h1 h2 hrb hs hzb
  obtain ⟨-, r0, r1, r2, -⟩ := T0.out.1
  cases rb with
  | false =>
    obtain rfl : zb = false := by rw [HZB.out]; rfl
    simp only [Bool.false_eq_true, if_false]
    go_enter Try.func33, Try.ntmps33
    go_wp2_with fail
    refine (HR.out _).mono ?_
    clear r0 r1 r2
    rintro e w1 ⟨rfl, hb⟩
    have T1 := Lib.hid (And.intro (T0.out.1.step hb) (T0.out.2.step hb))
    clear hb
    obtain ⟨-, t0, t1, t2, fr, -, -⟩ := T1.out.2
    have f0 := fr 0
    have f1 := fr 1
    have f2 := fr 2
    clear fr
    go_wp2
    refine bodyPost_ret (v := .tuple #[tenV nilV nilV nilV, .bool false]) (by simp [results, Try.results33, go_sem, t0, t1, t2]) rfl ?_
    exact NewTenB.nils (((T1.out.2.bel.setCell (by simp) _).setCell (by simp) _).setCell (by simp) _)
  | true =>
    by_cases h0 : 0 ≤ s
    · obtain rfl : zb = true := by rw [HZB.out]; simpa using h0
      simp only [if_true]
      have hsz := sizeI_cases L D
      rw [← HSI.out] at hsz
      obtain ⟨hs1, hax, hp1, hp2⟩ : s = prodL D ∧ AxesV L D ∧ 1 ≤ prodL D ∧ prodL D ≤ 4096 := by
        rcases hsz with h | h
        · omega
        · exact h
      have hcap : capI D = ((prodL D).toNat : Int) := by
        have h := (capI_is (fun d hd => (hax.2.2.2.1 d hd).1)).1
        omega
      have HZT := Lib.hid (fun (w1 : World) (hb : Below w.heap.size w w1) => zero_ten_spec (k := k) (p := p) (q := q) (prodL D).toNat (HL0.out.below hb HB.out) (HD0.out.below hb HB.out) (Nat.le_trans HB.out hb.size) (by have := hax.1; omega) (by have := hax.1; have := hax.2.1; omega) HRB.out.symm hax.2.2.2.1 hcap (by omega))
      have q1 : decide (s < 0) = false := by simpa using h0
      have q2 : ¬ s < 0 := by omega
      clear hsz hs1 hax hp1 hp2 hcap h0
      go_enter Try.func33, Try.ntmps33
      go_wp2_with fail
      refine (HR.out _).mono ?_
      clear r0 r1 r2
      rintro e w1 ⟨rfl, hb⟩
      have T1 := Lib.hid (And.intro (T0.out.1.step hb) (T0.out.2.step hb))
      clear hb
      go_wp2_with fail
      refine (HS.out _ T1.out.1.bel).mono ?_
      rintro e w2 ⟨rfl, hb⟩
      have T2 := Lib.hid (And.intro (T1.out.1.step hb) (T1.out.2.step hb))
      clear hb
      obtain ⟨-, r0, r1, r2, -⟩ := T2.out.1
      go_wp2_with fail
      refine (HZT.out _ T2.out.1.bel).mono ?_
      clear r0 r1 r2
      rintro e w3 ⟨l', d', x', rfl, hO, hb⟩
      have T3 := Lib.hid (T2.out.2.step hb)
      have Z3 := Lib.hid hb.size
      have LT2 := Lib.hid T2.out.2.lt
      have OG := Lib.hid hO
      obtain ⟨o1, o2, o3⟩ := hO.rows
      obtain ⟨a1, c1, rfl, -⟩ := ints_form o1.rd
      obtain ⟨a2, c2, rfl, -⟩ := ints_form o2.rd
      obtain ⟨a3, c3, rfl, -⟩ := ints_form o3.rd
      obtain ⟨m3, hm3⟩ : ∃ m, m = (repL (zeroL k p q) (prodL D).toNat).length := ⟨_, rfl⟩
      rw [← hm3] at OG ⊢
      clear hO hb o1 o2 o3 hm3
      obtain ⟨-, t0, t1, t2, fr, -, -⟩ := T3.out
      have f0 := fr 0
      have f1 := fr 1
      have f2 := fr 2
      clear fr
      go_wp2
      refine bodyPost_ret (v := .tuple #[tenV (.slice a1 L.length c1) (.slice a2 D.length c2) (.slice a3 m3 c3), .bool true]) (by simp [results, Try.results33, go_sem, t0, t1, t2]) rfl ?_
      have lt2 := LT2.out
      have z3 := Z3.out
      have b2 := T2.out.1.bel.size
      obtain ⟨o1, o2, o3⟩ := OG.out.rows
      refine ⟨_, _, _, rfl, ?_, ((T3.out.bel.setCell (by simp) _).setCell (by simp) _).setCell (by simp) _⟩
      exact OwnG.wide (lo := w2.heap.size) (hi := w3.heap.size) (OwnG.of3 OG.out.2 (Own.set (Own.set (Own.set o1 (by omega) _) (by omega) _) (by omega) _) (Own.set (Own.set (Own.set o2 (by omega) _) (by omega) _) (by omega) _) (Own.set (Own.set (Own.set o3 (by omega) _) (by omega) _) (by omega) _)) b2 (by simp) (by simp)
    · obtain rfl : zb = false := by rw [HZB.out]; simpa using h0
      simp only [Bool.false_eq_true, if_false]
      have q1 : decide (s < 0) = true := by simpa using h0
      have q2 : s < 0 := by omega
      clear h0
      go_enter Try.func33, Try.ntmps33
      go_wp2_with fail
      refine (HR.out _).mono ?_
      clear r0 r1 r2
      rintro e w1 ⟨rfl, hb⟩
      have T1 := Lib.hid (And.intro (T0.out.1.step hb) (T0.out.2.step hb))
      clear hb
      go_wp2_with fail
      refine (HS.out _ T1.out.1.bel).mono ?_
      rintro e w2 ⟨rfl, hb⟩
      have T2 := Lib.hid (T1.out.2.step hb)
      clear hb
      obtain ⟨-, t0, t1, t2, fr, -, -⟩ := T2.out
      have f0 := fr 0
      have f1 := fr 1
      have f2 := fr 2
      clear fr
      go_wp2
      refine bodyPost_ret (v := .tuple #[tenV nilV nilV nilV, .bool false]) (by simp [results, Try.results33, go_sem, t0, t1, t2]) rfl ?_
      exact NewTenB.nils (((T2.out.bel.setCell (by simp) _).setCell (by simp) _).setCell (by simp) _)
/-- No integers, written so that two of them are told apart. -/
def noneL (_ : Nat) : List Int := []
theorem scalar_law {B : Nat} {v : Value} {k p n : Int} {xs : List Int} {w : World} (h : Rd B w v (ints xs)) (hB : B ≤ w.heap.size) (hn : xs.length ≤ 1099511627776) :
    Calls Try.prog 35 #[ringV k p n, v] w (NewTen w (noneL 0) (noneL 1) (scalarL k p n xs)) := scalar_spec h hB hn
theorem scalarL_len (k p n : Int) (xs : List Int) : (scalarL k p n xs).length ≤ xs.length := by unfold scalarL; split <;> simp
theorem zeroL_len (k p n : Int) (h : ringB k p n = true) : (zeroL k p n).length ≤ 6 := by
  obtain ⟨m, h1, h2, h3⟩ := width_nat h
  unfold zeroL; simp [h1]; omega
theorem zero_if_len (k p n : Int) (L D : List Int) : (if zeroTenB k p n L D = true then zeroTenL k p n D else []).length ≤ 24576 := by
  split
  · rename_i h
    unfold zeroTenB at h
    simp only [Bool.and_eq_true, decide_eq_true_eq] at h
    unfold zeroTenL
    rw [repL_len]
    have h1 := zeroL_len k p n h.1
    have h2 : (prodL D).toNat ≤ 4096 := by
      rcases sizeI_cases L D with h3 | ⟨_, _, _, h3⟩
      · omega
      · omega
    exact Nat.le_trans (Nat.mul_le_mul h2 h1) (by omega)
  · simp
theorem if_len {b : Bool} {L : List Int} {m : Nat} (h : L.length ≤ m) : (if b = true then L else []).length ≤ m := by
  split
  · exact h
  · exact Nat.zero_le _
theorem putL_len {X x : List Int} {s : Nat} : (putL X s x).length ≤ X.length + x.length := by unfold putL; simp only [List.length_append, List.length_take, List.length_drop]; omega
theorem set_lens {k p q : Int} {L D X ix x : List Int} (h : setB k p q L D X ix x = true) : L.length ≤ 12 ∧ D.length ≤ 12 ∧ X.length ≤ 24576 ∧ x.length ≤ 6 := by
  unfold setB at h
  simp only [Bool.and_eq_true, decide_eq_true_eq] at h
  obtain ⟨-, h2, h3⟩ := h
  obtain ⟨hrb, hs0, hxl, -⟩ := tensorB_inv h2
  have hwd := ring_width hrb
  unfold okElemB at h3
  simp only [Bool.and_eq_true] at h3
  have hx := (elemB_true.1 h3.2).1
  rcases sizeI_cases L D with h | ⟨h4, h5, h6, h7⟩
  · omega
  · have h8 : sizeI L D * widthI k q ≤ 4096 * widthI k q := Int.mul_le_mul_of_nonneg_right (by omega) (by omega)
    have := h5.1
    have := h5.2.1
    omega
theorem set_len_L (k p q : Int) (L D X ix x : List Int) : (if setB k p q L D X ix x = true then L else []).length ≤ 12 := by
  split
  · exact (set_lens ‹_›).1
  · exact Nat.zero_le _
theorem set_len_D (k p q : Int) (L D X ix x : List Int) : (if setB k p q L D X ix x = true then D else []).length ≤ 12 := by
  split
  · exact (set_lens ‹_›).2.1
  · exact Nat.zero_le _
theorem set_len_X (k p q : Int) (L D X ix x : List Int) : (if setB k p q L D X ix x = true then setElemL k q L D X ix x else []).length ≤ 24582 := by
  split
  · have h := set_lens ‹setB k p q L D X ix x = true›
    exact Nat.le_trans putL_len (by omega)
  · exact Nat.zero_le _
end Go.Proofs.Ytlmhnlepdfdceaa
