
/- SumElems, both. -/
import Derived.Test.YtfdjlahaiogababNested2
import Derived.Test.YtfdjlahaiogababPowElem
namespace Go.Proofs.Ytfdjlahaiogabab
set_option maxRecDepth 20000
open Go.RowKit

def sumL (k p n : Int) (rows : List (List Int)) : List Int := rows.foldl (plusL k p) (zeroL k p n)
noncomputable def sumElemsL (k p n : Int) (rows : List (List Int)) : List Int := if holdsB k p n rows = true then sumL k p n rows else []
theorem sum_step (k p n : Int) {rows : List (List Int)} {i : Nat} {xs : List Int} (h : rows[i]? = some xs) : sumL k p n (rows.take (i + 1)) = plusL k p (sumL k p n (rows.take i)) xs := by
  rw [List.take_add_one, h]; simp [sumL]
theorem holds_parts {k p n : Int} {rows : List (List Int)} (h : holdsB k p n rows = true) : ringB k p n = true ∧ ∀ xs ∈ rows, ElemV k p n xs := by
  unfold holdsB at h
  rw [Bool.and_eq_true, List.all_eq_true] at h
  exact ⟨h.1, fun xs hx => elemB_true.1 (h.2 xs hx)⟩
theorem sum_elem {k p n : Int} (hr : ringB k p n = true) : ∀ (rows : List (List Int)), (∀ xs ∈ rows, ElemV k p n xs) → ∀ i, ElemV k p n (sumL k p n (rows.take i)) := by
  intro rows h i
  induction i with
  | zero => exact zeroL_elem hr
  | succ i ih =>
    by_cases hi : i < rows.length
    · rw [sum_step k p n (List.getElem?_eq_getElem hi)]
      exact plusL_elem hr ih (h _ (List.getElem_mem hi))
    · rw [List.take_of_length_le (by omega)] at ih ⊢
      exact ih
theorem sumElems_len (k p n : Int) (rows : List (List Int)) : (sumElemsL k p n rows).length ≤ 6 := by
  unfold sumElemsL
  by_cases h : holdsB k p n rows = true
  · rw [if_pos h]
    have h1 := holds_parts h
    have h2 := ring_width h1.1
    have h3 := sum_elem h1.1 rows h1.2 rows.length
    rw [List.take_of_length_le (Nat.le_refl _)] at h3
    have := h3.1
    omega
  · rw [if_neg h]; simp

set_option maxHeartbeats 400000 in
theorem sum_impl_not {B : Nat} {v : Value} {k p n : Int} {rows : List (List Int)} {w : World} (h : RdRows B w v rows) (hB : B ≤ w.heap.size) (hn : rows.length ≤ 281474976710656) (hlen : ∀ xs ∈ rows, xs.length ≤ 281474976710656) (hf : holdsB k p n rows = false) :
    Calls Try.prog 60 #[ringV k p n, v] w (NewRow w []) := by
  obtain ⟨a, cap, rfl, -⟩ := rows_form h
  have HH := Lib.hid (h.below (Inv.box w k p n 31).1 hB)
  have HF := Lib.hid hf
  have HN := Lib.hid hn
  have HLN := Lib.hid hlen
  clear h hf hn hlen
  go_enter Try.func60, Try.ntmps60
  go_wp2_with fail
  refine (Inv.call (Lib.hid (Inv.box w k p n _)) (holds_impl HH.out (by simp; omega) HN.out HLN.out)).mono ?_
  rw [HF.out]
  rintro e w1 ⟨rfl, HV1, c0, c1, c2⟩
  go_wp2
  go_ret
  exact nil_row HV1.out.1
set_option maxHeartbeats 1600000 in
theorem sum_impl_in {B m : Nat} {a : Option Addr} {cap : Nat} {k p n : Int} {rows : List (List Int)} {w : World} (h : RdRows B w (.slice a m cap) rows) (hB : B ≤ w.heap.size) (hm : m = rows.length) (hn : m ≤ 281474976710656) (hlen : ∀ xs ∈ rows, xs.length ≤ 281474976710656) (hf : holdsB k p n rows = true)
    (hrow : Hid (∀ i (h : i < rows.length), ∃ b off u, a = some ⟨b, off, none⟩ ∧ b < B ∧ w.cell? ⟨b, off + i, none⟩ = some u ∧ Rd B w u (ints rows[i]))) :
    Calls Try.prog 60 #[ringV k p n, .slice a m cap] w (NewRow w (sumL k p n rows)) := by
  have HH := Lib.hid (h.below (Inv.box w k p n 31).1 hB)
  have HF := Lib.hid hf
  have HP := Lib.hid (holds_parts hf)
  have HN := Lib.hid (show rows.length ≤ 281474976710656 from hm ▸ hn)
  have HM := Lib.hid hm
  have HLN := Lib.hid hlen
  clear h hf hlen hm
  go_enter Try.func60, Try.ntmps60
  go_wp2_with fail
  refine (Inv.call (Lib.hid (Inv.box w k p n _)) (holds_impl HH.out (by simp; omega) HN.out HLN.out)).mono ?_
  rw [HF.out]
  rintro e w1 ⟨rfl, HV1, c0, c1, c2⟩
  go_wp2_with fail
  refine (Inv.make HV1 (zero_impl k p n _ HP.out.1)).mono ?_
  clear c0 c1 c2
  rintro e w2 ⟨vo, rfl, HO, HV2, ⟨c0, c1, c2⟩, -⟩
  clear c0 c1 c2 HV1 HH
  go_wp2
  go_loopw [16, 5] (fun i vr wr => ∃ j : Nat, j ≤ m ∧ i = .int .i64 j ∧ Hid (Own wr w.heap.size wr.heap.size vr (sumL k p n (rows.take j))) ∧ Hid (Inv w wr w.heap.size k p n)) (fun i _ _ => m - (intOf i).toNat)
  case atStart => exact ⟨0, by omega, rfl, HO, HV2⟩
  case round =>
    clear HO HV2
    obtain ⟨j, hj, rfl, HOr, HV⟩ := hrel
    obtain ⟨c0, c1, c2⟩ := HV.out.cells
    by_cases h0 : j < m
    · obtain ⟨xs, b, off, au, len, cu, hx, hle, rfl, hbB, d1, r1⟩ := row_take HM.out hrow h0
      have d2 : wr.cell? ⟨b, off + j, none⟩ = some (.slice au len cu) := (HV.out.1.cell (p := ⟨b, off + j, none⟩) (by simpa using Nat.lt_of_lt_of_le hbB hB)).trans d1
      have R1 := Lib.hid ((r1.below HV.out.1 hB).mono (Nat.le_trans hB HV.out.1.size))
      have EX := Lib.hid (HP.out.2 xs (List.mem_of_getElem? hx))
      have SS := Lib.hid (sum_step k p n hx)
      clear d1 r1 hx hle hbB
      go_wp2_with fail
      refine (Inv.make HV (plus_impl HP.out.1 (HOr.out.rd.mono (Nat.le_refl _)) R1.out (Nat.le_refl _) (sum_elem HP.out.1 rows HP.out.2 j) EX.out)).mono ?_
      rw [← SS.out]
      clear c0 c1 c2 d2
      rintro e w3 ⟨v3, rfl, HO3, HV3, ⟨c0, c1, c2⟩, -⟩
      go_wp2
      go_roundw
      case rel => exact ⟨j + 1, by omega, by go_num, HO3, HV3⟩
      case measure => simp [intOf]; omega
    · obtain rfl : j = m := by omega
      have HZ : Hid (rows.take j = rows) := Lib.hid (List.take_of_length_le (by rw [← HM.out]; exact Nat.le_refl _))
      go_wp2
      go_ret
      exact ⟨_, rfl, HZ.out ▸ HOr.out, HV.out.1⟩
/-- impl.SumElems. -/
theorem sum_impl {B : Nat} {v : Value} {k p n : Int} {rows : List (List Int)} {w : World} (h : RdRows B w v rows) (hB : B ≤ w.heap.size) (hn : rows.length ≤ 281474976710656) (hlen : ∀ xs ∈ rows, xs.length ≤ 281474976710656) :
    Calls Try.prog 60 #[ringV k p n, v] w (NewRow w (sumElemsL k p n rows)) := by
  cases hf : holdsB k p n rows with
  | false => rw [show sumElemsL k p n rows = [] from by simp [sumElemsL, hf]]; exact sum_impl_not h hB hn hlen hf
  | true =>
    rw [show sumElemsL k p n rows = sumL k p n rows from by simp [sumElemsL, hf]]
    obtain ⟨a, cap, rfl, hr⟩ := rows_form h
    exact sum_impl_in h hB rfl hn hlen hf (Lib.hid hr)

/-- A call that keeps, with a row of the call's own carried across. -/
theorem Inv.make_call {P : Program} {f : Nat} {args : Array Value} {w0 w : World} {b : Nat} {k p n : Int} {v : Value} {xs : List Int} {R : Ending → Prop} (h : Hid (Inv w0 w b k p n)) (ho : Hid (Own w w0.heap.size w.heap.size v xs)) (hc : Calls P f args w fun e w' => R e ∧ Below w.heap.size w w') :
    Calls P f args w fun e w' => R e ∧ Hid (Inv w0 w' b k p n) ∧ (w'.cell? ⟨b, 0, none⟩ = some (.int .i64 k) ∧ w'.cell? ⟨b, 1, none⟩ = some (.int .i64 p) ∧ w'.cell? ⟨b, 2, none⟩ = some (.int .i64 n)) ∧ Hid (Own w' w0.heap.size w'.heap.size v xs) ∧ Below w.heap.size w w' :=
  hc.mono fun _ _ ⟨he, hb⟩ => ⟨he, h.out.step hb, (h.out.step hb).cells, (ho.out.below hb (Nat.le_refl _)).wide (Nat.le_refl _) hb.size (Nat.le_refl _), hb⟩
set_option maxHeartbeats 400000 in
theorem sum_spec_not (k p n : Int) (v : Value) (w : World) (hf : ringB k p n = false) :
    Calls Try.prog 58 #[ringV k p n, v] w (NewRow w []) := by
  have HR := Lib.hid hf
  clear hf
  go_enter Try.func58, Try.ntmps58
  go_wp2_with fail
  refine (Inv.call (Lib.hid (Inv.box w k p n _)) (ring_ok_spec k p n _)).mono ?_
  rw [HR.out]
  rintro e w1 ⟨rfl, HV1, c0, c1, c2⟩
  go_wp2
  go_ret
  exact nil_row HV1.out.1
set_option maxHeartbeats 1600000 in
theorem sum_spec_in {B m : Nat} {a : Option Addr} {cap : Nat} {k p n : Int} {rows : List (List Int)} {w : World} (hB : B ≤ w.heap.size) (hm : m = rows.length) (hn : m ≤ 281474976710656) (hlen : ∀ xs ∈ rows, xs.length ≤ 281474976710656) (hf : ringB k p n = true)
    (hrow : Hid (∀ i (h : i < rows.length), ∃ b off u, a = some ⟨b, off, none⟩ ∧ b < B ∧ w.cell? ⟨b, off + i, none⟩ = some u ∧ Rd B w u (ints rows[i]))) :
    Calls Try.prog 58 #[ringV k p n, .slice a m cap] w (NewRow w (sumElemsL k p n rows)) := by
  have HR := Lib.hid hf
  have HM := Lib.hid hm
  have HLN := Lib.hid hlen
  obtain ⟨R, hres⟩ : ∃ R, R = sumElemsL k p n rows := ⟨_, rfl⟩
  rw [← hres]
  have HE := Lib.hid hres
  clear hf hlen hm hres
  go_enter Try.func58, Try.ntmps58
  go_wp2_with fail
  refine (Inv.call (Lib.hid (Inv.box w k p n _)) (ring_ok_spec k p n _)).mono ?_
  rw [HR.out]
  rintro e w1 ⟨rfl, HV1, c0, c1, c2⟩
  go_wp2_with fail
  refine (Inv.make HV1 (zero_spec k p n _ HR.out)).mono ?_
  clear c0 c1 c2
  rintro e w2 ⟨vo, rfl, HO, HV2, ⟨c0, c1, c2⟩, -⟩
  clear c0 c1 c2 HV1
  go_wp2
  go_loopw [15, 5] (fun i vr wr => ∃ j : Nat, j ≤ m ∧ i = .int .i64 j ∧ Hid (Own wr w.heap.size wr.heap.size vr (sumL k p n (rows.take j))) ∧ Hid ((rows.take j).all (fun xs => elemB k p n xs) = true) ∧ Hid (Inv w wr w.heap.size k p n)) (fun i _ _ => m - (intOf i).toNat)
  case atStart => exact ⟨0, by omega, rfl, HO, rfl, HV2⟩
  case round =>
    clear HO HV2
    obtain ⟨j, hj, rfl, HOr, HG, HV⟩ := hrel
    obtain ⟨c0, c1, c2⟩ := HV.out.cells
    by_cases h0 : j < m
    · obtain ⟨xs, b, off, au, len, cu, hx, hle, rfl, hbB, d1, r1⟩ := row_take HM.out hrow h0
      have d2 : wr.cell? ⟨b, off + j, none⟩ = some (.slice au len cu) := (HV.out.1.cell (p := ⟨b, off + j, none⟩) (by simpa using Nat.lt_of_lt_of_le hbB hB)).trans d1
      have R1 := Lib.hid ((r1.below HV.out.1 hB).mono (Nat.le_trans hB HV.out.1.size))
      have HX := Lib.hid hx
      have HL := Lib.hid (HLN.out xs (List.mem_of_getElem? hx))
      have SS := Lib.hid (sum_step k p n hx)
      clear d1 r1 hx hle hbB
      cases he : elemB k p n xs with
      | false =>
        have EB := Lib.hid he
        have HF : Hid (R = []) := Lib.hid (by rw [HE.out]; unfold sumElemsL; rw [if_neg]; unfold holdsB; rw [all_fails (f := fun xs => elemB k p n xs) HX.out he]; simp)
        clear he
        go_wp2_with fail
        refine (Inv.call HV (elem_spec HR.out R1.out (Nat.le_refl _) HL.out)).mono ?_
        rw [EB.out]
        clear c0 c1 c2 d2
        rintro e w3 ⟨rfl, HV3, c0, c1, c2⟩
        go_wp2
        go_ret
        rw [HF.out]
        exact nil_row HV3.out.1
      | true =>
        have EB := Lib.hid he
        have GG : Hid ((rows.take (j + 1)).all (fun xs => elemB k p n xs) = true) := Lib.hid (all_step HX.out HG.out he)
        have EJ : Hid (ElemV k p n (sumL k p n (rows.take j))) := Lib.hid (by
          have h1 := sum_elem HR.out (rows.take j) (fun ys hy => elemB_true.1 (List.all_eq_true.1 HG.out ys hy)) j
          rw [List.take_take, Nat.min_self] at h1
          exact h1)
        clear he
        go_wp2_with fail
        refine (Inv.make_call HV HOr (elem_spec HR.out R1.out (Nat.le_refl _) HL.out)).mono ?_
        rw [EB.out]
        rintro e w3 ⟨rfl, HV3, ⟨g0, g1, g2⟩, HO3, hbl⟩
        have R3 := Lib.hid ((R1.out.below hbl (Nat.le_refl _)).mono hbl.size)
        clear c0 c1 c2 d2 hbl
        go_wp2_with fail
        refine (Inv.make HV3 (plus_spec HR.out (HO3.out.rd.mono (Nat.le_refl _)) R3.out (Nat.le_refl _) EJ.out (elemB_true.1 EB.out))).mono ?_
        rw [← SS.out]
        clear g0 g1 g2
        rintro e w4 ⟨v4, rfl, HO4, HV4, ⟨c0, c1, c2⟩, -⟩
        go_wp2
        go_roundw
        case rel => exact ⟨j + 1, by omega, by go_num, HO4, GG, HV4⟩
        case measure => simp [intOf]; omega
    · obtain rfl : j = m := by omega
      have HZ : Hid (rows.take j = rows) := Lib.hid (List.take_of_length_le (by rw [← HM.out]; exact Nat.le_refl _))
      have HF : Hid (R = sumL k p n (rows.take j)) := Lib.hid (by
        have h1 := HG.out
        rw [HZ.out] at h1 ⊢
        rw [HE.out]
        unfold sumElemsL
        rw [if_pos]
        unfold holdsB
        rw [HR.out, h1]
        rfl)
      go_wp2
      go_ret
      exact ⟨_, rfl, HF.out ▸ HOr.out, HV.out.1⟩
/-- spec.SumElems. -/
theorem sum_spec {B : Nat} {v : Value} {k p n : Int} {rows : List (List Int)} {w : World} (h : RdRows B w v rows) (hB : B ≤ w.heap.size) (hn : rows.length ≤ 281474976710656) (hlen : ∀ xs ∈ rows, xs.length ≤ 281474976710656) :
    Calls Try.prog 58 #[ringV k p n, v] w (NewRow w (sumElemsL k p n rows)) := by
  cases hf : ringB k p n with
  | false => rw [show sumElemsL k p n rows = [] from by simp [sumElemsL, holdsB, hf]]; exact sum_spec_not k p n v w hf
  | true =>
    obtain ⟨a, cap, rfl, hr⟩ := rows_form h
    exact sum_spec_in hB rfl hn hlen hf (Lib.hid hr)
end Go.Proofs.Ytfdjlahaiogabab
