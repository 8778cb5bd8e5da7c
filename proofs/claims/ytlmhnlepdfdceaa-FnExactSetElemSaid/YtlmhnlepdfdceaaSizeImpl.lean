
/- impl.TensorSize. -/
import Derived.Test.YtlmhnlepdfdceaaLabels
import Derived.Test.YtlmhnlepdfdceaaTensorOk
namespace Go.Proofs.Ytlmhnlepdfdceaa
set_option maxRecDepth 20000
set_option maxRecDepth 20000
open Go.RowKit

theorem axes_labels {L D : List Int} (h : labelsB L = false) : ¬ AxesV L D := fun hv => by
  have := labelsB_true.2 (show LabelsV L from ⟨hv.2.2.1, hv.2.2.2.2⟩)
  rw [h] at this; cases this
theorem sizeI_none {L D : List Int} (h : ¬ AxesV L D) : sizeI L D = -1 := by
  unfold sizeI
  rw [if_neg (by simp [axesB_false h])]
theorem sizeI_yes {L D : List Int} (h : AxesV L D) (hp : prodL D ≤ 4096) : sizeI L D = prodL D := by
  unfold sizeI
  rw [if_pos ⟨axesB_true.2 h, hp⟩]
theorem sizeI_big {L D : List Int} (hp : 4096 < prodL D) : sizeI L D = -1 := by
  unfold sizeI
  rw [if_neg (by omega)]
theorem prodL_pow {D : List Int} (h : ∀ d ∈ D, 1 ≤ d ∧ d ≤ 8) : prodL D ≤ ((8 ^ D.length : Nat) : Int) := by
  induction D with
  | nil => rw [prodL_nil]; simp
  | cons d r ih =>
    have h1 := h d (by simp)
    have h2 := ih (fun x hx => h x (by simp [hx]))
    have h3 := prodL_pos (D := r) (fun x hx => (h x (by simp [hx])).1)
    rw [prodL_cons, List.length_cons, Nat.pow_succ, Int.natCast_mul, Int.mul_comm]
    exact Int.mul_le_mul h2 h1.2 (by omega) (by omega)
theorem prodL_max {D : List Int} (h : ∀ d ∈ D, 1 ≤ d ∧ d ≤ 8) (hl : D.length ≤ 12) : prodL D ≤ 68719476736 := by
  have h1 := prodL_pow h
  have h2 : 8 ^ D.length ≤ 8 ^ 12 := Nat.pow_le_pow_right (by omega) hl
  have h3 : 8 ^ 12 = 68719476736 := by decide
  omega
theorem prodL_step {D : List Int} {j : Nat} {d : Int} (h : D[j]? = some d) : prodL (D.take (j + 1)) = prodL (D.take j) * d := by
  rw [List.take_add_one, h]
  exact prodL_snoc _ _

set_option maxHeartbeats 1600000 in
theorem size_impl {B : Nat} {lv dv xv : Value} {L D X : List Int} {w : World} (h : RdT B w lv dv xv L D X) (hB : B ≤ w.heap.size) (hn : LenT L D X) (hI : allI L) :
    Calls Try.prog 14 #[tenV lv dv xv] w fun e w' => e = .returned (.int .i64 (sizeI L D)) ∧ Below w.heap.size w w' := by
  have H0 := Lib.hid ((Held.refl w).box3 lv dv xv 27)
  have HT := Lib.hid (h.below H0.out.1 hB)
  have hBB := Nat.le_trans hB H0.out.1.size
  have HN := Lib.hid hn
  have RD := Lib.hid h.d
  have HB0 := Lib.hid hB
  obtain ⟨al, cl, rfl, -⟩ := ints_form h.l
  obtain ⟨ad, cd, rfl, -⟩ := ints_form h.d
  obtain ⟨ax, cx, rfl, -⟩ := ints_form h.x
  obtain ⟨ml, hml⟩ : ∃ m, m = L.length := ⟨_, rfl⟩
  obtain ⟨md, hmd⟩ : ∃ m, m = D.length := ⟨_, rfl⟩
  obtain ⟨mx, hmx⟩ : ∃ m, m = X.length := ⟨_, rfl⟩
  rw [← hmd] at RD
  rw [← hml, ← hmd, ← hmx] at H0 HT hBB ⊢
  have HLB := Lib.hid (labels_impl HT.out.l hBB HN.out.l hI)
  obtain ⟨r, hr⟩ : ∃ r, r = sizeI L D := ⟨_, rfl⟩
  rw [← hr]
  have HR := Lib.hid hr
  have HL := Lib.hid hml
  have HD := Lib.hid hmd
  clear h hB hBB hn hml hmd hmx hr hI
  by_cases h12 : 12 < ml
  · have HF : Hid (r = -1) := by
      show r = -1
      rw [HR.out]
      exact sizeI_none (fun hv => by have := hv.1; have := HL.out; omega)
    have q1 : decide ((12 : Int) < ml) = true := by simp; omega
    clear HLB
    go_enter Try.func14, Try.ntmps14
    go_wp2
    go_ret
    exact ⟨by rw [HF.out]; rfl, H0.out.1⟩
  have q1 : decide ((12 : Int) < ml) = false := by simp; omega
  by_cases hne : md = ml
  case neg =>
    have HF : Hid (r = -1) := by
      show r = -1
      rw [HR.out]
      exact sizeI_none (fun hv => by have := hv.2.1; have := HL.out; have := HD.out; omega)
    have q2 : ((md : Int) != (ml : Int)) = true := by simp; omega
    clear HLB hne
    go_enter Try.func14, Try.ntmps14
    go_wp2
    go_ret
    exact ⟨by rw [HF.out]; rfl, H0.out.1⟩
  have q2 : ((md : Int) != (ml : Int)) = false := by simp; omega
  have HNE := Lib.hid hne
  have hm : md ≤ 12 := by omega
  clear hne h12
  cases hlb : labelsB L with
  | false =>
    have HF : Hid (r = -1) := by
      show r = -1
      rw [HR.out]
      exact sizeI_none (axes_labels hlb)
    rw [hlb] at HLB
    clear hlb
    go_enter Try.func14, Try.ntmps14
    go_wp2_with fail
    refine (Held.call H0 HLB.out).mono ?_
    rintro e w1 ⟨rfl, H1, c0, c1, c2, -⟩
    go_wp2
    go_ret
    exact ⟨by rw [HF.out]; rfl, H1.out.1⟩
  | true =>
    have HLV := Lib.hid (labelsB_true.1 hlb)
    rw [hlb] at HLB
    clear hlb
    go_enter Try.func14, Try.ntmps14
    go_wp2_with fail
    refine (Held.call H0 HLB.out).mono ?_
    rintro e w1 ⟨rfl, H1, c0, c1, c2, -⟩
    have RD1 := Lib.hid (RD.out.below H1.out.1 HB0.out)
    have HW := Lib.hid H1.out.1
    clear HLB H0 H1 RD
    go_wp2
    go_loop [3, 28] (fun s i => ∃ (j : Nat) (c : Int), j ≤ md ∧ i = .int .i64 j ∧ s = .int .i64 c ∧ 1 ≤ c ∧ c ≤ 68719476736 ∧ Hid (c = prodL (D.take j)) ∧ Hid (∀ d ∈ D.take j, 1 ≤ d ∧ d ≤ 8)) (fun _ i => md - (intOf i).toNat)
    case atStart => exact ⟨0, 1, by omega, rfl, rfl, by omega, by omega, (by simp [prodL] : (1 : Int) = prodL (D.take 0)), (by simp : ∀ d ∈ D.take 0, 1 ≤ d ∧ d ≤ 8)⟩
    case round =>
      obtain ⟨j, c, hj, rfl, rfl, hc1, hc2, HC, HV⟩ := hrel
      by_cases hlt : j < md
      · obtain ⟨d, D1⟩ : ∃ d, Hid (D[j]? = some d) := ⟨_, List.getElem?_eq_getElem (by rw [← HD.out]; exact hlt)⟩
        obtain ⟨b, off, rfl, hbB, e1⟩ := RD1.out.cellAt D1.out
        clear hbB
        by_cases h1 : d < 1
        · have HF : Hid (r = -1) := by
            show r = -1
            rw [HR.out]
            exact sizeI_none (fun hv => by have := hv.2.2.2.1 d (List.mem_of_getElem? D1.out); omega)
          go_wp2
          go_ret
          exact ⟨by rw [HF.out]; rfl, HW.out⟩
        · by_cases h8 : 8 < d
          · have HF : Hid (r = -1) := by
              show r = -1
              rw [HR.out]
              exact sizeI_none (fun hv => by have := hv.2.2.2.1 d (List.mem_of_getElem? D1.out); omega)
            have q4 : decide ((8 : Int) < d) = true := by simpa using h8
            go_wp2
            go_ret
            exact ⟨by rw [HF.out]; rfl, HW.out⟩
          · have q4 : decide ((8 : Int) < d) = false := by simpa using h8
            have hm1 : c * d ≤ 68719476736 * 8 := Int.mul_le_mul hc2 (by omega) (by omega) (by omega)
            have hm2 : 1 * 1 ≤ c * d := Int.mul_le_mul hc1 (by omega) (by omega) (by omega)
            have hw : IntKind.i64.wrap (c * d) = c * d := IntWalk.i64_in _ (by omega)
            have HV2 : Hid (∀ d ∈ D.take (j + 1), 1 ≤ d ∧ d ≤ 8) := by
              show ∀ d ∈ D.take (j + 1), 1 ≤ d ∧ d ≤ 8
              intro y hy
              rw [List.take_add_one, D1.out] at hy
              simp only [Option.toList_some, List.mem_append, List.mem_singleton] at hy
              rcases hy with hy | rfl
              · exact HV.out y hy
              · omega
            have HC2 : Hid (c * d = prodL (D.take (j + 1))) := by
              show _ = _
              rw [prodL_step D1.out, ← HC.out]
            have hc3 : c * d ≤ 68719476736 := by rw [HC2.out]; exact prodL_max HV2.out (by rw [List.length_take]; omega)
            clear hm1
            go_wp2
            go_round
            case rel => exact ⟨j + 1, c * d, by omega, by go_num, rfl, by omega, hc3, HC2, HV2⟩
            case measure => simp [intOf]; omega
      · have hnlt : ¬ (j : Int) < (md : Int) := by omega
        have htake : D.take j = D := List.take_of_length_le (by rw [← HD.out]; omega)
        have hcc := HC.out
        have hvv := HV.out
        rw [htake] at hcc hvv
        have HAV : Hid (AxesV L D) := ⟨by rw [← HL.out, ← HNE.out]; exact hm, by rw [← HL.out, ← HD.out]; exact HNE.out.symm, HLV.out.1, hvv, HLV.out.2⟩
        by_cases hgt : 4096 < c
        · have HF : Hid (r = -1) := by
            show r = -1
            rw [HR.out]
            exact sizeI_big (by rw [← hcc]; exact hgt)
          have q4 : decide ((4096 : Int) < c) = true := by simpa using hgt
          clear hcc hvv htake hlt
          go_wp2
          go_ret
          exact ⟨by rw [HF.out]; rfl, HW.out⟩
        · have HF : Hid (r = c) := by
            show r = c
            rw [HR.out, sizeI_yes HAV.out (by rw [← hcc]; omega), ← hcc]
          have q4 : decide ((4096 : Int) < c) = false := by simpa using hgt
          clear hcc hvv htake hlt
          go_wp2
          go_ret
          exact ⟨by rw [HF.out]; rfl, HW.out⟩
end Go.Proofs.Ytlmhnlepdfdceaa
