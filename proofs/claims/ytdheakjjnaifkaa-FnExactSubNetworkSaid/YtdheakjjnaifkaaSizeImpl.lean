
/- impl.areLabels: each label is held against those ahead of it; impl.TensorSize. -/
import Derived.Test.YtdheakjjnaifkaaTensorOk
import Derived.Test.YtdheakjjnaifkaaOpen
import Derived.Test.YtdheakjjnaifkaaFindInt
import Derived.Lib.Hide
namespace Go.Proofs.Ytdheakjjnaifkaa
set_option maxRecDepth 20000
open Go.RowKit

/-- Are these labels, no two alike. -/
def LabelsV (L : List Int) : Prop := (∀ x ∈ L, 0 ≤ x ∧ x ≤ 99) ∧ L.Nodup
open Classical in
noncomputable def labelsB (L : List Int) : Bool := decide (LabelsV L)
open Classical in
theorem labelsB_true {L : List Int} : labelsB L = true ↔ LabelsV L := decide_eq_true_iff
theorem labelsB_false {L : List Int} (h : ¬ LabelsV L) : labelsB L = false := by
  cases hb : labelsB L with
  | false => rfl
  | true => exact absurd (labelsB_true.1 hb) h

theorem labels_step {L : List Int} {j : Nat} {x : Int} (hx : L[j]? = some x) (h : LabelsV (L.take j)) (h1 : 0 ≤ x) (h2 : x ≤ 99) (h3 : x ∉ L.take j) : LabelsV (L.take (j + 1)) := by
  refine ⟨fun y hy => ?_, ?_⟩
  · rw [List.take_add_one, hx] at hy
    simp only [Option.toList_some, List.mem_append, List.mem_singleton] at hy
    rcases hy with hy | rfl
    · exact h.1 y hy
    · exact ⟨h1, h2⟩
  · rw [List.take_add_one, hx]
    simp only [Option.toList_some]
    exact List.nodup_append.2 ⟨h.2, by simp, fun a ha b hb => by simp at hb; subst hb; exact fun e => h3 (e ▸ ha)⟩
theorem labels_fail {L : List Int} {j : Nat} {x : Int} (hx : L[j]? = some x) (hf : x < 0 ∨ 99 < x ∨ x ∈ L.take j) : labelsB L = false := by
  refine labelsB_false fun h => ?_
  have h1 := h.1 x (List.mem_of_getElem? hx)
  rcases hf with hf | hf | h2
  · omega
  · omega
  obtain ⟨hj, e2⟩ := List.getElem?_eq_some_iff.1 hx
  have hn := h.2
  rw [← List.take_append_drop j L, List.nodup_append] at hn
  exact hn.2.2 x h2 x (by rw [List.drop_eq_getElem_cons hj, e2]; exact List.mem_cons_self) rfl

set_option maxHeartbeats 1600000 in
theorem labels_impl_full (a : Option Addr) (cap m B : Nat) (L : List Int) (w : World) (h1 : L.length = m) (hm : m ≤ 281474976710656) (hd : Rd B w (.slice a m cap) (ints L)) :
    Calls Try.prog 110 #[.slice a m cap] w fun e w' => e = .returned (.bool (labelsB L)) ∧ w' = w := by
  have L1 := Lib.hid h1
  have RD := Lib.hid hd
  clear h1 hd
  go_enter Try.func110, Try.ntmps110
  go_wp2
  go_loop [7] (fun i => ∃ j : Nat, j ≤ m ∧ i = .int .i64 j ∧ Hid (LabelsV (L.take j))) (fun i => m - (intOf i).toNat)
  case atStart => exact ⟨0, by omega, rfl, (by simp : (∀ x ∈ L.take 0, 0 ≤ x ∧ x ≤ 99) ∧ (L.take 0).Nodup)⟩
  case round =>
    obtain ⟨j, hj, rfl, HV⟩ := hrel
    by_cases hlt : j < m
    · obtain ⟨x, X1⟩ : ∃ x, Hid (L[j]? = some x) := ⟨_, List.getElem?_eq_getElem (by rw [L1.out]; exact hlt)⟩
      have HTK := Lib.hid (RD.out.take j (by rw [L1.out]; exact hj))
      have hcap : j ≤ cap := by
        rcases RD.out.ints_cases with ⟨h, -⟩ | ⟨b, off, ca, e, hb, hcc, hc⟩
        · have := L1.out; rw [h] at this; simp at this; omega
        · cases e; rw [L1.out] at hcc; omega
      obtain ⟨b, off, rfl, -, e1⟩ := RD.out.cellAt X1.out
      by_cases h1 : x < 0
      · have HF := Lib.hid (labels_fail X1.out (.inl h1))
        go_wp2
        go_ret
        exact ⟨by rw [HF.out]; rfl, rfl⟩
      · by_cases h2 : 99 < x
        · have HF := Lib.hid (labels_fail X1.out (.inr (.inl h2)))
          have q1 : decide ((99 : Int) < x) = true := by simpa using h2
          go_wp2
          go_ret
          exact ⟨by rw [HF.out]; rfl, rfl⟩
        · have q1 : decide ((99 : Int) < x) = false := by simpa using h2
          have HC := Lib.hid (contains_any x HTK.out (by rw [List.length_take]; omega))
          by_cases h3 : x ∈ L.take j
          · have HF := Lib.hid (labels_fail X1.out (.inr (.inr h3)))
            rw [decide_eq_true h3] at HC
            clear h3
            go_wp2_with fail
            refine HC.out.mono ?_
            rintro e w1 ⟨rfl, rfl⟩
            go_wp2
            go_ret
            exact ⟨by rw [HF.out]; rfl, rfl⟩
          · have HS := Lib.hid (labels_step X1.out HV.out (by omega) (by omega) h3)
            rw [decide_eq_false h3] at HC
            clear h3
            go_wp2_with fail
            refine HC.out.mono ?_
            rintro e w1 ⟨rfl, rfl⟩
            go_wp2
            go_round
            case rel => exact ⟨j + 1, by omega, by go_num, HS⟩
            case measure => simp [intOf]; omega
    · obtain rfl : j = m := by omega
      have HF : Hid (labelsB L = true) := by
        have h := HV.out
        rw [List.take_of_length_le (by rw [L1.out]; omega)] at h
        exact labelsB_true.2 h
      go_wp2
      go_ret
      exact ⟨by rw [HF.out]; rfl, rfl⟩
/-- areLabels. -/
theorem labels_impl {B : Nat} {v : Value} {L : List Int} {w : World} (h : Rd B w v (ints L)) (_hB : B ≤ w.heap.size) (hn : L.length ≤ 281474976710656) (_hI : allI L) :
    Calls Try.prog 110 #[v] w fun e w' => e = .returned (.bool (labelsB L)) ∧ Below w.heap.size w w' := by
  obtain ⟨a, cap, rfl, -⟩ := ints_form h
  exact (labels_impl_full a cap _ B L w rfl hn h).mono fun e w' h => ⟨h.1, by rw [h.2]; exact Below.refl _ _⟩
end Go.Proofs.Ytdheakjjnaifkaa
namespace Go.Proofs.Ytdheakjjnaifkaa
set_option maxRecDepth 20000
open Go.RowKit

theorem axes_labels {L D : List Int} (h : labelsB L = false) : ¬ AxesV L D := fun hv => by
  have := labelsB_true.2 (show LabelsV L from ⟨hv.2.2.1, hv.2.2.2.2⟩)
  rw [h] at this; cases this
theorem sizeI_none {L D : List Int} (h : ¬ AxesV L D) : sizeI L D = -1 := by
  unfold sizeI
  rw [if_neg (by simp [axesB_false h])]
theorem sizeI_yes {L D : List Int} (h : AxesV L D) (hp : prodL D ≤ 4096) : sizeI L D = prodL D := by
  unfold sizeI
  rw [if_pos ⟨axesB_true.2 h, hp⟩]
theorem sizeI_big {L D : List Int} (hp : 4096 < prodL D) : sizeI L D = -1 := by
  unfold sizeI
  rw [if_neg (by omega)]
theorem prodL_pow {D : List Int} (h : ∀ d ∈ D, 1 ≤ d ∧ d ≤ 8) : prodL D ≤ ((8 ^ D.length : Nat) : Int) := by
  induction D with
  | nil => rw [prodL_nil]; simp
  | cons d r ih =>
    have h1 := h d (by simp)
    have h2 := ih (fun x hx => h x (by simp [hx]))
    have h3 := prodL_pos (D := r) (fun x hx => (h x (by simp [hx])).1)
    rw [prodL_cons, List.length_cons, Nat.pow_succ, Int.natCast_mul, Int.mul_comm]
    exact Int.mul_le_mul h2 h1.2 (by omega) (by omega)
theorem prodL_max {D : List Int} (h : ∀ d ∈ D, 1 ≤ d ∧ d ≤ 8) (hl : D.length ≤ 12) : prodL D ≤ 68719476736 := by
  have h1 := prodL_pow h
  have h2 : 8 ^ D.length ≤ 8 ^ 12 := Nat.pow_le_pow_right (by omega) hl
  have h3 : 8 ^ 12 = 68719476736 := by decide
  omega
theorem prodL_step {D : List Int} {j : Nat} {d : Int} (h : D[j]? = some d) : prodL (D.take (j + 1)) = prodL (D.take j) * d := by
  rw [List.take_add_one, h]
  exact prodL_snoc _ _

set_option maxHeartbeats 1600000 in
theorem size_impl {B : Nat} {lv dv xv : Value} {L D X : List Int} {w : World} (h : RdT B w lv dv xv L D X) (hB : B ≤ w.heap.size) (hn : LenT L D X) (hI : allI L) :
    Calls Try.prog 99 #[tenV lv dv xv] w fun e w' => e = .returned (.int .i64 (sizeI L D)) ∧ Below w.heap.size w w' := by
  have H0 := Lib.hid ((Held.refl w).box3 lv dv xv 55)
  have HT := Lib.hid (h.below H0.out.1 hB)
  have hBB := Nat.le_trans hB H0.out.1.size
  have HN := Lib.hid hn
  have RD := Lib.hid h.d
  have HB0 := Lib.hid hB
  obtain ⟨al, cl, rfl, -⟩ := ints_form h.l
  obtain ⟨ad, cd, rfl, -⟩ := ints_form h.d
  obtain ⟨ax, cx, rfl, -⟩ := ints_form h.x
  obtain ⟨ml, hml⟩ : ∃ m, m = L.length := ⟨_, rfl⟩
  obtain ⟨md, hmd⟩ : ∃ m, m = D.length := ⟨_, rfl⟩
  obtain ⟨mx, hmx⟩ : ∃ m, m = X.length := ⟨_, rfl⟩
  rw [← hmd] at RD
  rw [← hml, ← hmd, ← hmx] at H0 HT hBB ⊢
  have HLB := Lib.hid (labels_impl HT.out.l hBB HN.out.l hI)
  obtain ⟨r, hr⟩ : ∃ r, r = sizeI L D := ⟨_, rfl⟩
  rw [← hr]
  have HR := Lib.hid hr
  have HL := Lib.hid hml
  have HD := Lib.hid hmd
  clear h hB hBB hn hml hmd hmx hr hI
  by_cases h12 : 12 < ml
  · have HF : Hid (r = -1) := by
      show r = -1
      rw [HR.out]
      exact sizeI_none (fun hv => by have := hv.1; have := HL.out; omega)
    have q1 : decide ((12 : Int) < ml) = true := by simp; omega
    clear HLB
    go_enter Try.func99, Try.ntmps99
    go_wp2
    go_ret
    exact ⟨by rw [HF.out]; rfl, H0.out.1⟩
  have q1 : decide ((12 : Int) < ml) = false := by simp; omega
  by_cases hne : md = ml
  case neg =>
    have HF : Hid (r = -1) := by
      show r = -1
      rw [HR.out]
      exact sizeI_none (fun hv => by have := hv.2.1; have := HL.out; have := HD.out; omega)
    have q2 : ((md : Int) != (ml : Int)) = true := by simp; omega
    clear HLB hne
    go_enter Try.func99, Try.ntmps99
    go_wp2
    go_ret
    exact ⟨by rw [HF.out]; rfl, H0.out.1⟩
  have q2 : ((md : Int) != (ml : Int)) = false := by simp; omega
  have HNE := Lib.hid hne
  have hm : md ≤ 12 := by omega
  clear hne h12
  cases hlb : labelsB L with
  | false =>
    have HF : Hid (r = -1) := by
      show r = -1
      rw [HR.out]
      exact sizeI_none (axes_labels hlb)
    rw [hlb] at HLB
    clear hlb
    go_enter Try.func99, Try.ntmps99
    go_wp2_with fail
    refine (Held.call H0 HLB.out).mono ?_
    rintro e w1 ⟨rfl, H1, c0, c1, c2, -⟩
    go_wp2
    go_ret
    exact ⟨by rw [HF.out]; rfl, H1.out.1⟩
  | true =>
    have HLV := Lib.hid (labelsB_true.1 hlb)
    rw [hlb] at HLB
    clear hlb
    go_enter Try.func99, Try.ntmps99
    go_wp2_with fail
    refine (Held.call H0 HLB.out).mono ?_
    rintro e w1 ⟨rfl, H1, c0, c1, c2, -⟩
    have RD1 := Lib.hid (RD.out.below H1.out.1 HB0.out)
    have HW := Lib.hid H1.out.1
    clear HLB H0 H1 RD
    go_wp2
    go_loop [3, 28] (fun s i => ∃ (j : Nat) (c : Int), j ≤ md ∧ i = .int .i64 j ∧ s = .int .i64 c ∧ 1 ≤ c ∧ c ≤ 68719476736 ∧ Hid (c = prodL (D.take j)) ∧ Hid (∀ d ∈ D.take j, 1 ≤ d ∧ d ≤ 8)) (fun _ i => md - (intOf i).toNat)
    case atStart => exact ⟨0, 1, by omega, rfl, rfl, by omega, by omega, (by simp [prodL] : (1 : Int) = prodL (D.take 0)), (by simp : ∀ d ∈ D.take 0, 1 ≤ d ∧ d ≤ 8)⟩
    case round =>
      obtain ⟨j, c, hj, rfl, rfl, hc1, hc2, HC, HV⟩ := hrel
      by_cases hlt : j < md
      · obtain ⟨d, D1⟩ : ∃ d, Hid (D[j]? = some d) := ⟨_, List.getElem?_eq_getElem (by rw [← HD.out]; exact hlt)⟩
        obtain ⟨b, off, rfl, hbB, e1⟩ := RD1.out.cellAt D1.out
        clear hbB
        by_cases h1 : d < 1
        · have HF : Hid (r = -1) := by
            show r = -1
            rw [HR.out]
            exact sizeI_none (fun hv => by have := hv.2.2.2.1 d (List.mem_of_getElem? D1.out); omega)
          go_wp2
          go_ret
          exact ⟨by rw [HF.out]; rfl, HW.out⟩
        · by_cases h8 : 8 < d
          · have HF : Hid (r = -1) := by
              show r = -1
              rw [HR.out]
              exact sizeI_none (fun hv => by have := hv.2.2.2.1 d (List.mem_of_getElem? D1.out); omega)
            have q4 : decide ((8 : Int) < d) = true := by simpa using h8
            go_wp2
            go_ret
            exact ⟨by rw [HF.out]; rfl, HW.out⟩
          · have q4 : decide ((8 : Int) < d) = false := by simpa using h8
            have hm1 : c * d ≤ 68719476736 * 8 := Int.mul_le_mul hc2 (by omega) (by omega) (by omega)
            have hm2 : 1 * 1 ≤ c * d := Int.mul_le_mul hc1 (by omega) (by omega) (by omega)
            have hw : IntKind.i64.wrap (c * d) = c * d := IntWalk.i64_in _ (by omega)
            have HV2 : Hid (∀ d ∈ D.take (j + 1), 1 ≤ d ∧ d ≤ 8) := by
              show ∀ d ∈ D.take (j + 1), 1 ≤ d ∧ d ≤ 8
              intro y hy
              rw [List.take_add_one, D1.out] at hy
              simp only [Option.toList_some, List.mem_append, List.mem_singleton] at hy
              rcases hy with hy | rfl
              · exact HV.out y hy
              · omega
            have HC2 : Hid (c * d = prodL (D.take (j + 1))) := by
              show _ = _
              rw [prodL_step D1.out, ← HC.out]
            have hc3 : c * d ≤ 68719476736 := by rw [HC2.out]; exact prodL_max HV2.out (by rw [List.length_take]; omega)
            clear hm1
            go_wp2
            go_round
            case rel => exact ⟨j + 1, c * d, by omega, by go_num, rfl, by omega, hc3, HC2, HV2⟩
            case measure => simp [intOf]; omega
      · have hnlt : ¬ (j : Int) < (md : Int) := by omega
        have htake : D.take j = D := List.take_of_length_le (by rw [← HD.out]; omega)
        have hcc := HC.out
        have hvv := HV.out
        rw [htake] at hcc hvv
        have HAV : Hid (AxesV L D) := ⟨by rw [← HL.out, ← HNE.out]; exact hm, by rw [← HL.out, ← HD.out]; exact HNE.out.symm, HLV.out.1, hvv, HLV.out.2⟩
        by_cases hgt : 4096 < c
        · have HF : Hid (r = -1) := by
            show r = -1
            rw [HR.out]
            exact sizeI_big (by rw [← hcc]; exact hgt)
          have q4 : decide ((4096 : Int) < c) = true := by simpa using hgt
          clear hcc hvv htake hlt
          go_wp2
          go_ret
          exact ⟨by rw [HF.out]; rfl, HW.out⟩
        · have HF : Hid (r = c) := by
            show r = c
            rw [HR.out, sizeI_yes HAV.out (by rw [← hcc]; omega), ← hcc]
          have q4 : decide ((4096 : Int) < c) = false := by simpa using hgt
          clear hcc hvv htake hlt
          go_wp2
          go_ret
          exact ⟨by rw [HF.out]; rfl, HW.out⟩
end Go.Proofs.Ytdheakjjnaifkaa
