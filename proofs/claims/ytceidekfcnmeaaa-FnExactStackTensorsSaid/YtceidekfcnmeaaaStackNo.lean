
/- spec.StackTensors where it answers false at once, and in all cases. -/
import Derived.Test.YtceidekfcnmeaaaStackSpec
namespace Go.Proofs.Ytceidekfcnmeaaa
set_option maxRecDepth 20000
open Go.RowKit

set_option maxHeartbeats 3200000 in
theorem stack_ring {lv : Value} {k p q b : Int} {n cp : Nat} {pl : Option Addr} {w : World} (hlv : lv = .slice pl n cp) (hrb : ringB k p q = false) :
    Calls Try.prog 5 #[ringV k p q, lv, .int .i64 b] w (NewTen2 w [] [] [] false) := by
  subst hlv
  have S0 : Hid (Rs w ((w.alloc (.cells #[.int .i64 k, .int .i64 p, .int .i64 q] 31)).alloc (.cells #[nilV, nilV, nilV] 28)) [(w.heap.size + 1, nilV, nilV, nilV), (w.heap.size, .int .i64 k, .int .i64 p, .int .i64 q)] []) := by
    have h := ((Rs.start w).box (.int .i64 k) (.int .i64 p) (.int .i64 q) 31).box nilV nilV nilV 28
    simp only [World.size_alloc] at h
    exact h
  have HRO := Lib.hid (fun (w1 : World) => ring_ok_spec k p q w1)
  rw [hrb] at HRO
  clear hrb
  go_enter Try.func5, Try.ntmps5
  go_wp2
  have RX := Lib.hid S0.out.drew
  obtain ⟨⟨r0, r1, r2⟩, -⟩ := RX.out.at (r := w.heap.size) (a := .int .i64 k) (b := .int .i64 p) (c := .int .i64 q) (by simp)
  refine wp_region_held_drew (S := (fun w' => (w'.cell? ⟨w.heap.size, 0, none⟩ = some (.int .i64 k) ∧ w'.cell? ⟨w.heap.size, 1, none⟩ = some (.int .i64 p) ∧ w'.cell? ⟨w.heap.size, 2, none⟩ = some (.int .i64 q)))) (by kernel_rfl) (by (try dsimp only); with_reducible exact ⟨r0, r1, r2⟩) (fun hHeld => ?_)
  refine wpAnyH_take (i := 0) (v := ?_) rfl (by kernel_rfl) (by kernel_rfl) (by kernel_rfl) (fun _ _ _ h => h) (Or.inl ⟨by rfl, ?_⟩) (by assumption) ?_
  rotate_left
  · intro w hSw; (try dsimp only at hSw); go_simp <;> with_reducible rfl
  try simp only [Act.put, List.getElem_toArray, List.getElem_cons_zero, List.setIfInBounds_toArray, List.set_cons_zero, List.set_cons_succ]
  refine wpAnyH_ready (rs := [1]) (by kernel_rfl) (by simp) ?_
  refine AllReadyH.cons rfl (fun K hK => ?_) AllReadyH.nil
  go_simp
  (go_at_call 15; refine (HRO.out _).mono ?_; rintro e WX ⟨rfl, hb⟩; replace RX := Lib.hid (RX.out.step hb); clear hb r0 r1 r2; obtain ⟨⟨r0, r1, r2⟩, -⟩ := RX.out.at (r := w.heap.size) (a := .int .i64 k) (b := .int .i64 p) (c := .int .i64 q) (by simp))
  go_wp2_with fail
  refine hK.out _ _ (by (try dsimp only); with_reducible exact ⟨r0, r1, r2⟩) (fun hHeld => ?_)
  clear hK K
  try simp only [Act.put, List.getElem_toArray, List.getElem_cons_succ, List.getElem_cons_zero, List.setIfInBounds_toArray, List.set_cons_zero, List.set_cons_succ]
  refine wpAnyH_take (i := 2) (v := ?_) rfl (by kernel_rfl) (by kernel_rfl) (by kernel_rfl) (fun _ _ _ h => h) (Or.inl ⟨by rfl, ?_⟩) (by assumption) ?_
  rotate_left
  · intro w hSw; (try dsimp only at hSw); go_simp <;> with_reducible rfl
  try simp only [Act.put, List.getElem_toArray, List.getElem_cons_succ, List.getElem_cons_zero, List.setIfInBounds_toArray, List.set_cons_zero, List.set_cons_succ]
  refine wpAnyH_take (i := 3) (v := ?_) rfl (by kernel_rfl) (by kernel_rfl) (by kernel_rfl) (fun _ _ _ h => h) (Or.inl ⟨by rfl, ?_⟩) (by assumption) ?_
  rotate_left
  · intro w hSw; (try dsimp only at hSw); go_simp <;> with_reducible rfl
  try simp only [Act.put, List.getElem_toArray, List.getElem_cons_succ, List.getElem_cons_zero, List.setIfInBounds_toArray, List.set_cons_zero, List.set_cons_succ]
  refine wpAnyH_take (i := 4) (v := undef) rfl (by kernel_rfl) (by kernel_rfl) (by kernel_rfl) (fun _ _ _ h => h) (Or.inr ⟨by rfl, rfl⟩) (by assumption) ?_
  try simp only [Act.put, List.getElem_toArray, List.getElem_cons_succ, List.getElem_cons_zero, List.setIfInBounds_toArray, List.set_cons_zero, List.set_cons_succ]
  refine wpAnyH_take (i := 5) (v := undef) rfl (by kernel_rfl) (by kernel_rfl) (by kernel_rfl) (fun _ _ _ h => h) (Or.inr ⟨by rfl, rfl⟩) (by assumption) ?_
  try simp only [Act.put, List.getElem_toArray, List.getElem_cons_succ, List.getElem_cons_zero, List.setIfInBounds_toArray, List.set_cons_zero, List.set_cons_succ]
  refine wpAnyH_take (i := 6) (v := undef) rfl (by kernel_rfl) (by kernel_rfl) (by kernel_rfl) (fun _ _ _ h => h) (Or.inr ⟨by rfl, rfl⟩) (by assumption) ?_
  try simp only [Act.put, List.getElem_toArray, List.getElem_cons_succ, List.getElem_cons_zero, List.setIfInBounds_toArray, List.set_cons_zero, List.set_cons_succ]
  refine wpAnyH_take (i := 7) (v := undef) rfl (by kernel_rfl) (by kernel_rfl) (by kernel_rfl) (fun _ _ _ h => h) (Or.inr ⟨by rfl, rfl⟩) (by assumption) ?_
  try simp only [Act.put, List.getElem_toArray, List.getElem_cons_succ, List.getElem_cons_zero, List.setIfInBounds_toArray, List.set_cons_zero, List.set_cons_succ]
  refine wpAnyH_take (i := 8) (v := ?_) rfl (by kernel_rfl) (by kernel_rfl) (by kernel_rfl) (fun _ _ _ h => h) (Or.inl ⟨by rfl, ?_⟩) (by assumption) ?_
  rotate_left
  · intro w hSw; (try dsimp only at hSw); go_simp <;> with_reducible rfl
  try simp only [Act.put, List.getElem_toArray, List.getElem_cons_succ, List.getElem_cons_zero, List.setIfInBounds_toArray, List.set_cons_zero, List.set_cons_succ]
  refine wpAnyH_take (i := 9) (v := ?_) rfl (by kernel_rfl) (by kernel_rfl) (by kernel_rfl) (fun _ _ _ h => h) (Or.inl ⟨by rfl, ?_⟩) (by assumption) ?_
  rotate_left
  · intro w hSw; (try dsimp only at hSw); go_simp <;> with_reducible rfl
  try simp only [Act.put, List.getElem_toArray, List.getElem_cons_succ, List.getElem_cons_zero, List.setIfInBounds_toArray, List.set_cons_zero, List.set_cons_succ]
  refine wpAnyH_take (i := 10) (v := undef) rfl (by kernel_rfl) (by kernel_rfl) (by kernel_rfl) (fun _ _ _ h => h) (Or.inr ⟨by rfl, rfl⟩) (by assumption) ?_
  try simp only [Act.put, List.getElem_toArray, List.getElem_cons_succ, List.getElem_cons_zero, List.setIfInBounds_toArray, List.set_cons_zero, List.set_cons_succ]
  refine wpAnyH_take (i := 11) (v := undef) rfl (by kernel_rfl) (by kernel_rfl) (by kernel_rfl) (fun _ _ _ h => h) (Or.inr ⟨by rfl, rfl⟩) (by assumption) ?_
  try simp only [Act.put, List.getElem_toArray, List.getElem_cons_succ, List.getElem_cons_zero, List.setIfInBounds_toArray, List.set_cons_zero, List.set_cons_succ]
  refine wpAnyH_take (i := 12) (v := undef) rfl (by kernel_rfl) (by kernel_rfl) (by kernel_rfl) (fun _ _ _ h => h) (Or.inr ⟨by rfl, rfl⟩) (by assumption) ?_
  try simp only [Act.put, List.getElem_toArray, List.getElem_cons_succ, List.getElem_cons_zero, List.setIfInBounds_toArray, List.set_cons_zero, List.set_cons_succ]
  refine wpAnyH_take (i := 13) (v := undef) rfl (by kernel_rfl) (by kernel_rfl) (by kernel_rfl) (fun _ _ _ h => h) (Or.inr ⟨by rfl, rfl⟩) (by assumption) ?_
  try simp only [Act.put, List.getElem_toArray, List.getElem_cons_succ, List.getElem_cons_zero, List.setIfInBounds_toArray, List.set_cons_zero, List.set_cons_succ]
  refine wpAnyH_take (i := 14) (v := undef) rfl (by kernel_rfl) (by kernel_rfl) (by kernel_rfl) (fun _ _ _ h => h) (Or.inr ⟨by rfl, rfl⟩) (by assumption) ?_
  try simp only [Act.put, List.getElem_toArray, List.getElem_cons_succ, List.getElem_cons_zero, List.setIfInBounds_toArray, List.set_cons_zero, List.set_cons_succ]
  refine wpAnyH_take (i := 15) (v := undef) rfl (by kernel_rfl) (by kernel_rfl) (by kernel_rfl) (fun _ _ _ h => h) (Or.inr ⟨by rfl, rfl⟩) (by assumption) ?_
  try simp only [Act.put, List.getElem_toArray, List.getElem_cons_succ, List.getElem_cons_zero, List.setIfInBounds_toArray, List.set_cons_zero, List.set_cons_succ]
  refine wpAnyH_take (i := 16) (v := ?_) rfl (by kernel_rfl) (by kernel_rfl) (by kernel_rfl) (fun _ _ _ h => h) (Or.inl ⟨by rfl, ?_⟩) (by assumption) ?_
  rotate_left
  · intro w hSw; (try dsimp only at hSw); go_simp <;> with_reducible rfl
  try simp only [Act.put, List.getElem_toArray, List.getElem_cons_succ, List.getElem_cons_zero, List.setIfInBounds_toArray, List.set_cons_zero, List.set_cons_succ]
  refine wpAnyH_done (by kernel_rfl) ?_ _
  clear r0 r1 r2
  obtain ⟨⟨t0, t1, t2⟩, f0, f1, f2⟩ := RX.out.at (r := w.heap.size + 1) (a := nilV) (b := nilV) (c := nilV) (by simp)
  go_wp2
  refine bodyPost_ret (v := .tuple #[tenV nilV nilV nilV, .bool false]) (by simp [results, Try.results5, go_sem, t0, t1, t2]) rfl ?_
  exact NewTen2.nils (((RX.out.bel.setCell (by simp) _).setCell (by simp) _).setCell (by simp) _)

set_option maxHeartbeats 3200000 in
theorem stack_many {lv : Value} {k p q b : Int} {n cp : Nat} {pl : Option Addr} {w : World} (hlv : lv = .slice pl n cp) (hrb : ringB k p q = true) (hn : ¬ (1 ≤ n ∧ n ≤ 8)) :
    Calls Try.prog 5 #[ringV k p q, lv, .int .i64 b] w (NewTen2 w [] [] [] false) := by
  subst hlv
  have S0 : Hid (Rs w ((w.alloc (.cells #[.int .i64 k, .int .i64 p, .int .i64 q] 31)).alloc (.cells #[nilV, nilV, nilV] 28)) [(w.heap.size + 1, nilV, nilV, nilV), (w.heap.size, .int .i64 k, .int .i64 p, .int .i64 q)] []) := by
    have h := ((Rs.start w).box (.int .i64 k) (.int .i64 p) (.int .i64 q) 31).box nilV nilV nilV 28
    simp only [World.size_alloc] at h
    exact h
  have HRO := Lib.hid (fun (w1 : World) => ring_ok_spec k p q w1)
  have HIN := Lib.hid (fun (w1 : World) => l01_in (n : Int) 1 8 w1)
  have e8 : inB (n : Int) 1 8 = false := by
    cases h : inB (n : Int) 1 8 with
    | false => rfl
    | true => exact absurd (inB_true.1 h) (by omega)
  rw [hrb] at HRO
  rw [e8] at HIN
  clear hrb e8 hn
  go_enter Try.func5, Try.ntmps5
  go_wp2
  have RX := Lib.hid S0.out.drew
  obtain ⟨⟨r0, r1, r2⟩, -⟩ := RX.out.at (r := w.heap.size) (a := .int .i64 k) (b := .int .i64 p) (c := .int .i64 q) (by simp)
  refine wp_region_held_drew (S := (fun w' => (w'.cell? ⟨w.heap.size, 0, none⟩ = some (.int .i64 k) ∧ w'.cell? ⟨w.heap.size, 1, none⟩ = some (.int .i64 p) ∧ w'.cell? ⟨w.heap.size, 2, none⟩ = some (.int .i64 q)))) (by kernel_rfl) (by (try dsimp only); with_reducible exact ⟨r0, r1, r2⟩) (fun hHeld => ?_)
  refine wpAnyH_take (i := 0) (v := ?_) rfl (by kernel_rfl) (by kernel_rfl) (by kernel_rfl) (fun _ _ _ h => h) (Or.inl ⟨by rfl, ?_⟩) (by assumption) ?_
  rotate_left
  · intro w hSw; (try dsimp only at hSw); go_simp <;> with_reducible rfl
  try simp only [Act.put, List.getElem_toArray, List.getElem_cons_zero, List.setIfInBounds_toArray, List.set_cons_zero, List.set_cons_succ]
  refine wpAnyH_ready (rs := [1]) (by kernel_rfl) (by simp) ?_
  refine AllReadyH.cons rfl (fun K hK => ?_) AllReadyH.nil
  go_simp
  (go_at_call 15; refine (HRO.out _).mono ?_; rintro e WX ⟨rfl, hb⟩; replace RX := Lib.hid (RX.out.step hb); clear hb r0 r1 r2; obtain ⟨⟨r0, r1, r2⟩, -⟩ := RX.out.at (r := w.heap.size) (a := .int .i64 k) (b := .int .i64 p) (c := .int .i64 q) (by simp))
  go_wp2_with fail
  refine hK.out _ _ (by (try dsimp only); with_reducible exact ⟨r0, r1, r2⟩) (fun hHeld => ?_)
  clear hK K
  try simp only [Act.put, List.getElem_toArray, List.getElem_cons_succ, List.getElem_cons_zero, List.setIfInBounds_toArray, List.set_cons_zero, List.set_cons_succ]
  refine wpAnyH_take (i := 2) (v := ?_) rfl (by kernel_rfl) (by kernel_rfl) (by kernel_rfl) (fun _ _ _ h => h) (Or.inl ⟨by rfl, ?_⟩) (by assumption) ?_
  rotate_left
  · intro w hSw; (try dsimp only at hSw); go_simp <;> with_reducible rfl
  try simp only [Act.put, List.getElem_toArray, List.getElem_cons_succ, List.getElem_cons_zero, List.setIfInBounds_toArray, List.set_cons_zero, List.set_cons_succ]
  refine wpAnyH_take (i := 3) (v := ?_) rfl (by kernel_rfl) (by kernel_rfl) (by kernel_rfl) (fun _ _ _ h => h) (Or.inl ⟨by rfl, ?_⟩) (by assumption) ?_
  rotate_left
  · intro w hSw; (try dsimp only at hSw); go_simp <;> with_reducible rfl
  try simp only [Act.put, List.getElem_toArray, List.getElem_cons_succ, List.getElem_cons_zero, List.setIfInBounds_toArray, List.set_cons_zero, List.set_cons_succ]
  refine wpAnyH_take (i := 4) (v := ?_) rfl (by kernel_rfl) (by kernel_rfl) (by kernel_rfl) (fun _ _ _ h => h) (Or.inl ⟨by rfl, ?_⟩) (by assumption) ?_
  rotate_left
  · intro w hSw; (try dsimp only at hSw); go_simp <;> with_reducible rfl
  try simp only [Act.put, List.getElem_toArray, List.getElem_cons_succ, List.getElem_cons_zero, List.setIfInBounds_toArray, List.set_cons_zero, List.set_cons_succ]
  refine wpAnyH_take (i := 5) (v := ?_) rfl (by kernel_rfl) (by kernel_rfl) (by kernel_rfl) (fun _ _ _ h => h) (Or.inl ⟨by rfl, ?_⟩) (by assumption) ?_
  rotate_left
  · intro w hSw; (try dsimp only at hSw); go_simp <;> with_reducible rfl
  try simp only [Act.put, List.getElem_toArray, List.getElem_cons_succ, List.getElem_cons_zero, List.setIfInBounds_toArray, List.set_cons_zero, List.set_cons_succ]
  refine wpAnyH_ready (rs := [6]) (by kernel_rfl) (by simp) ?_
  refine AllReadyH.cons rfl (fun K hK => ?_) AllReadyH.nil
  go_simp
  (go_at_call 16; refine (HIN.out _).mono ?_; rintro e WX ⟨rfl, rfl⟩)
  go_wp2_with fail
  refine hK.out _ _ (by (try dsimp only); with_reducible exact ⟨r0, r1, r2⟩) (fun hHeld => ?_)
  clear hK K
  try simp only [Act.put, List.getElem_toArray, List.getElem_cons_succ, List.getElem_cons_zero, List.setIfInBounds_toArray, List.set_cons_zero, List.set_cons_succ]
  refine wpAnyH_take (i := 7) (v := ?_) rfl (by kernel_rfl) (by kernel_rfl) (by kernel_rfl) (fun _ _ _ h => h) (Or.inl ⟨by rfl, ?_⟩) (by assumption) ?_
  rotate_left
  · intro w hSw; (try dsimp only at hSw); go_simp <;> with_reducible rfl
  try simp only [Act.put, List.getElem_toArray, List.getElem_cons_succ, List.getElem_cons_zero, List.setIfInBounds_toArray, List.set_cons_zero, List.set_cons_succ]
  refine wpAnyH_take (i := 8) (v := ?_) rfl (by kernel_rfl) (by kernel_rfl) (by kernel_rfl) (fun _ _ _ h => h) (Or.inl ⟨by rfl, ?_⟩) (by assumption) ?_
  rotate_left
  · intro w hSw; (try dsimp only at hSw); go_simp <;> with_reducible rfl
  try simp only [Act.put, List.getElem_toArray, List.getElem_cons_succ, List.getElem_cons_zero, List.setIfInBounds_toArray, List.set_cons_zero, List.set_cons_succ]
  refine wpAnyH_take (i := 9) (v := ?_) rfl (by kernel_rfl) (by kernel_rfl) (by kernel_rfl) (fun _ _ _ h => h) (Or.inl ⟨by rfl, ?_⟩) (by assumption) ?_
  rotate_left
  · intro w hSw; (try dsimp only at hSw); go_simp <;> with_reducible rfl
  try simp only [Act.put, List.getElem_toArray, List.getElem_cons_succ, List.getElem_cons_zero, List.setIfInBounds_toArray, List.set_cons_zero, List.set_cons_succ]
  refine wpAnyH_take (i := 10) (v := undef) rfl (by kernel_rfl) (by kernel_rfl) (by kernel_rfl) (fun _ _ _ h => h) (Or.inr ⟨by rfl, rfl⟩) (by assumption) ?_
  try simp only [Act.put, List.getElem_toArray, List.getElem_cons_succ, List.getElem_cons_zero, List.setIfInBounds_toArray, List.set_cons_zero, List.set_cons_succ]
  refine wpAnyH_take (i := 11) (v := undef) rfl (by kernel_rfl) (by kernel_rfl) (by kernel_rfl) (fun _ _ _ h => h) (Or.inr ⟨by rfl, rfl⟩) (by assumption) ?_
  try simp only [Act.put, List.getElem_toArray, List.getElem_cons_succ, List.getElem_cons_zero, List.setIfInBounds_toArray, List.set_cons_zero, List.set_cons_succ]
  refine wpAnyH_take (i := 12) (v := undef) rfl (by kernel_rfl) (by kernel_rfl) (by kernel_rfl) (fun _ _ _ h => h) (Or.inr ⟨by rfl, rfl⟩) (by assumption) ?_
  try simp only [Act.put, List.getElem_toArray, List.getElem_cons_succ, List.getElem_cons_zero, List.setIfInBounds_toArray, List.set_cons_zero, List.set_cons_succ]
  refine wpAnyH_take (i := 13) (v := undef) rfl (by kernel_rfl) (by kernel_rfl) (by kernel_rfl) (fun _ _ _ h => h) (Or.inr ⟨by rfl, rfl⟩) (by assumption) ?_
  try simp only [Act.put, List.getElem_toArray, List.getElem_cons_succ, List.getElem_cons_zero, List.setIfInBounds_toArray, List.set_cons_zero, List.set_cons_succ]
  refine wpAnyH_take (i := 14) (v := undef) rfl (by kernel_rfl) (by kernel_rfl) (by kernel_rfl) (fun _ _ _ h => h) (Or.inr ⟨by rfl, rfl⟩) (by assumption) ?_
  try simp only [Act.put, List.getElem_toArray, List.getElem_cons_succ, List.getElem_cons_zero, List.setIfInBounds_toArray, List.set_cons_zero, List.set_cons_succ]
  refine wpAnyH_take (i := 15) (v := undef) rfl (by kernel_rfl) (by kernel_rfl) (by kernel_rfl) (fun _ _ _ h => h) (Or.inr ⟨by rfl, rfl⟩) (by assumption) ?_
  try simp only [Act.put, List.getElem_toArray, List.getElem_cons_succ, List.getElem_cons_zero, List.setIfInBounds_toArray, List.set_cons_zero, List.set_cons_succ]
  refine wpAnyH_take (i := 16) (v := ?_) rfl (by kernel_rfl) (by kernel_rfl) (by kernel_rfl) (fun _ _ _ h => h) (Or.inl ⟨by rfl, ?_⟩) (by assumption) ?_
  rotate_left
  · intro w hSw; (try dsimp only at hSw); go_simp <;> with_reducible rfl
  try simp only [Act.put, List.getElem_toArray, List.getElem_cons_succ, List.getElem_cons_zero, List.setIfInBounds_toArray, List.set_cons_zero, List.set_cons_succ]
  refine wpAnyH_done (by kernel_rfl) ?_ _
  clear r0 r1 r2
  obtain ⟨⟨t0, t1, t2⟩, f0, f1, f2⟩ := RX.out.at (r := w.heap.size + 1) (a := nilV) (b := nilV) (c := nilV) (by simp)
  go_wp2
  refine bodyPost_ret (v := .tuple #[tenV nilV nilV nilV, .bool false]) (by simp [results, Try.results5, go_sem, t0, t1, t2]) rfl ?_
  exact NewTen2.nils (((RX.out.bel.setCell (by simp) _).setCell (by simp) _).setCell (by simp) _)

set_option maxHeartbeats 3200000 in
theorem stack_head {B : Nat} {lv : Value} {k p q b : Int} {ts : List TenE} {n : Nat} {L D X : List Int} {w : World} (ha : RdTs B w lv ts) (hB : B ≤ w.heap.size) (hn : ts.length = n) (h8 : 1 ≤ n ∧ n ≤ 8) (hh : ts[0]? = some (L, D, X)) (hlen : LenT L D X) (hrb : ringB k p q = true) (ht : tensorB k p q L D X = false) :
    Calls Try.prog 5 #[ringV k p q, lv, .int .i64 b] w (NewTen2 w [] [] [] false) := by
  have HA : Hid (RdTs w.heap.size w lv ts) := Lib.hid (ha.mono hB)
  obtain ⟨pl, cp, rfl⟩ := ha.form
  rw [hn] at HA ⊢
  obtain ⟨gh, oh, al, cl, ad, cd, ax, cx, rfl, hgh, k0, k1, k2, hT⟩ := HA.out.at hh
  simp only at k0 k1 k2 hT
  obtain ⟨m1, hm1⟩ : ∃ m, m = L.length := ⟨_, rfl⟩
  obtain ⟨m2, hm2⟩ : ∃ m, m = D.length := ⟨_, rfl⟩
  obtain ⟨m3, hm3⟩ : ∃ m, m = X.length := ⟨_, rfl⟩
  rw [← hm1, ← hm2, ← hm3] at hT
  have HT : Hid (RdT w.heap.size w (.slice al m1 cl) (.slice ad m2 cd) (.slice ax m3 cx) L D X) := Lib.hid hT
  have HK : Hid (∀ W : World, Below w.heap.size w W → W.cell? ⟨gh, oh, none⟩ = some (.slice al m1 cl) ∧ W.cell? ⟨gh, oh + 1, none⟩ = some (.slice ad m2 cd) ∧ W.cell? ⟨gh, oh + 2, none⟩ = some (.slice ax m3 cx)) := Lib.hid (fun W hb => by
    simp only [Nat.zero_mul, Nat.add_zero, ← hm1, ← hm2, ← hm3] at k0 k1 k2
    exact ⟨(hb.cell (p := ⟨gh, oh, none⟩) hgh).trans k0, (hb.cell (p := ⟨gh, oh + 1, none⟩) hgh).trans k1, (hb.cell (p := ⟨gh, oh + 2, none⟩) hgh).trans k2⟩)
  have S0 : Hid (Rs w ((w.alloc (.cells #[.int .i64 k, .int .i64 p, .int .i64 q] 31)).alloc (.cells #[nilV, nilV, nilV] 28)) [(w.heap.size + 1, nilV, nilV, nilV), (w.heap.size, .int .i64 k, .int .i64 p, .int .i64 q)] []) := by
    have h := ((Rs.start w).box (.int .i64 k) (.int .i64 p) (.int .i64 q) 31).box nilV nilV nilV 28
    simp only [World.size_alloc] at h
    exact h
  have HRO := Lib.hid (fun (w1 : World) => ring_ok_spec k p q w1)
  have HIN := Lib.hid (fun (w1 : World) => l01_in (n : Int) 1 8 w1)
  have e8 : inB (n : Int) 1 8 = true := inB_true.2 (by omega)
  have hn0 : 0 < n := h8.1
  rw [hrb] at HRO
  rw [e8] at HIN
  have OKA := Lib.hid (fun (w1 : World) (hb : Below w.heap.size w w1) => tensor_ok_spec (k := k) (p := p) (n := q) (HT.out.below hb (Nat.le_refl _)) hb.size hlen)
  rw [ht] at OKA
  clear ha hB hn hh hlen hrb ht hgh k0 k1 k2 hT hm1 hm2 hm3 e8 h8
  go_enter Try.func5, Try.ntmps5
  go_wp2
  have RX := Lib.hid S0.out.drew
  obtain ⟨⟨r0, r1, r2⟩, -⟩ := RX.out.at (r := w.heap.size) (a := .int .i64 k) (b := .int .i64 p) (c := .int .i64 q) (by simp)
  obtain ⟨s0, s1, s2⟩ := HK.out _ RX.out.bel
  refine wp_region_held_drew (S := (fun w' => (w'.cell? ⟨w.heap.size, 0, none⟩ = some (.int .i64 k) ∧ w'.cell? ⟨w.heap.size, 1, none⟩ = some (.int .i64 p) ∧ w'.cell? ⟨w.heap.size, 2, none⟩ = some (.int .i64 q)) ∧ (w'.cell? ⟨gh, oh, none⟩ = some (.slice al m1 cl) ∧ w'.cell? ⟨gh, oh + 1, none⟩ = some (.slice ad m2 cd) ∧ w'.cell? ⟨gh, oh + 2, none⟩ = some (.slice ax m3 cx)))) (by kernel_rfl) (by (try dsimp only); with_reducible exact ⟨⟨r0, r1, r2⟩, ⟨s0, s1, s2⟩⟩) (fun hHeld => ?_)
  refine wpAnyH_take (i := 0) (v := ?_) rfl (by kernel_rfl) (by kernel_rfl) (by kernel_rfl) (fun _ _ _ h => h) (Or.inl ⟨by rfl, ?_⟩) (by assumption) ?_
  rotate_left
  · intro w hSw; (try dsimp only at hSw); go_simp <;> with_reducible rfl
  try simp only [Act.put, List.getElem_toArray, List.getElem_cons_zero, List.setIfInBounds_toArray, List.set_cons_zero, List.set_cons_succ]
  refine wpAnyH_ready (rs := [1]) (by kernel_rfl) (by simp) ?_
  refine AllReadyH.cons rfl (fun K hK => ?_) AllReadyH.nil
  go_simp
  (go_at_call 15; refine (HRO.out _).mono ?_; rintro e WX ⟨rfl, hb⟩; replace RX := Lib.hid (RX.out.step hb); clear hb r0 r1 r2 s0 s1 s2; obtain ⟨⟨r0, r1, r2⟩, -⟩ := RX.out.at (r := w.heap.size) (a := .int .i64 k) (b := .int .i64 p) (c := .int .i64 q) (by simp); obtain ⟨s0, s1, s2⟩ := HK.out _ RX.out.bel)
  go_wp2_with fail
  refine hK.out _ _ (by (try dsimp only); with_reducible exact ⟨⟨r0, r1, r2⟩, ⟨s0, s1, s2⟩⟩) (fun hHeld => ?_)
  clear hK K
  try simp only [Act.put, List.getElem_toArray, List.getElem_cons_succ, List.getElem_cons_zero, List.setIfInBounds_toArray, List.set_cons_zero, List.set_cons_succ]
  refine wpAnyH_take (i := 2) (v := ?_) rfl (by kernel_rfl) (by kernel_rfl) (by kernel_rfl) (fun _ _ _ h => h) (Or.inl ⟨by rfl, ?_⟩) (by assumption) ?_
  rotate_left
  · intro w hSw; (try dsimp only at hSw); go_simp <;> with_reducible rfl
  try simp only [Act.put, List.getElem_toArray, List.getElem_cons_succ, List.getElem_cons_zero, List.setIfInBounds_toArray, List.set_cons_zero, List.set_cons_succ]
  refine wpAnyH_take (i := 3) (v := ?_) rfl (by kernel_rfl) (by kernel_rfl) (by kernel_rfl) (fun _ _ _ h => h) (Or.inl ⟨by rfl, ?_⟩) (by assumption) ?_
  rotate_left
  · intro w hSw; (try dsimp only at hSw); go_simp <;> with_reducible rfl
  try simp only [Act.put, List.getElem_toArray, List.getElem_cons_succ, List.getElem_cons_zero, List.setIfInBounds_toArray, List.set_cons_zero, List.set_cons_succ]
  refine wpAnyH_take (i := 4) (v := ?_) rfl (by kernel_rfl) (by kernel_rfl) (by kernel_rfl) (fun _ _ _ h => h) (Or.inl ⟨by rfl, ?_⟩) (by assumption) ?_
  rotate_left
  · intro w hSw; (try dsimp only at hSw); go_simp <;> with_reducible rfl
  try simp only [Act.put, List.getElem_toArray, List.getElem_cons_succ, List.getElem_cons_zero, List.setIfInBounds_toArray, List.set_cons_zero, List.set_cons_succ]
  refine wpAnyH_take (i := 5) (v := ?_) rfl (by kernel_rfl) (by kernel_rfl) (by kernel_rfl) (fun _ _ _ h => h) (Or.inl ⟨by rfl, ?_⟩) (by assumption) ?_
  rotate_left
  · intro w hSw; (try dsimp only at hSw); go_simp <;> with_reducible rfl
  try simp only [Act.put, List.getElem_toArray, List.getElem_cons_succ, List.getElem_cons_zero, List.setIfInBounds_toArray, List.set_cons_zero, List.set_cons_succ]
  refine wpAnyH_ready (rs := [6]) (by kernel_rfl) (by simp) ?_
  refine AllReadyH.cons rfl (fun K hK => ?_) AllReadyH.nil
  go_simp
  (go_at_call 16; refine (HIN.out _).mono ?_; rintro e WX ⟨rfl, rfl⟩)
  go_wp2_with fail
  refine hK.out _ _ (by (try dsimp only); with_reducible exact ⟨⟨r0, r1, r2⟩, ⟨s0, s1, s2⟩⟩) (fun hHeld => ?_)
  clear hK K
  try simp only [Act.put, List.getElem_toArray, List.getElem_cons_succ, List.getElem_cons_zero, List.setIfInBounds_toArray, List.set_cons_zero, List.set_cons_succ]
  refine wpAnyH_take (i := 7) (v := ?_) rfl (by kernel_rfl) (by kernel_rfl) (by kernel_rfl) (fun _ _ _ h => h) (Or.inl ⟨by rfl, ?_⟩) (by assumption) ?_
  rotate_left
  · intro w hSw; (try dsimp only at hSw); go_simp <;> with_reducible rfl
  try simp only [Act.put, List.getElem_toArray, List.getElem_cons_succ, List.getElem_cons_zero, List.setIfInBounds_toArray, List.set_cons_zero, List.set_cons_succ]
  refine wpAnyH_take (i := 8) (v := ?_) rfl (by kernel_rfl) (by kernel_rfl) (by kernel_rfl) (fun _ _ _ h => h) (Or.inl ⟨by rfl, ?_⟩) (by assumption) ?_
  rotate_left
  · intro w hSw; (try dsimp only at hSw); go_simp <;> with_reducible rfl
  try simp only [Act.put, List.getElem_toArray, List.getElem_cons_succ, List.getElem_cons_zero, List.setIfInBounds_toArray, List.set_cons_zero, List.set_cons_succ]
  refine wpAnyH_take (i := 9) (v := ?_) rfl (by kernel_rfl) (by kernel_rfl) (by kernel_rfl) (fun _ _ _ h => h) (Or.inl ⟨by rfl, ?_⟩) (by assumption) ?_
  rotate_left
  · intro w hSw; (try dsimp only at hSw); go_simp <;> with_reducible rfl
  try simp only [Act.put, List.getElem_toArray, List.getElem_cons_succ, List.getElem_cons_zero, List.setIfInBounds_toArray, List.set_cons_zero, List.set_cons_succ]
  refine wpAnyH_take (i := 10) (v := ?_) rfl (by kernel_rfl) (by kernel_rfl) (by kernel_rfl) (fun _ _ _ h => h) (Or.inl ⟨by rfl, ?_⟩) (by assumption) ?_
  rotate_left
  · intro w hSw; (try dsimp only at hSw); go_simp <;> with_reducible rfl
  try simp only [Act.put, List.getElem_toArray, List.getElem_cons_succ, List.getElem_cons_zero, List.setIfInBounds_toArray, List.set_cons_zero, List.set_cons_succ]
  refine wpAnyH_take (i := 11) (v := ?_) rfl (by kernel_rfl) (by kernel_rfl) (by kernel_rfl) (fun _ _ _ h => h) (Or.inl ⟨by rfl, ?_⟩) (by assumption) ?_
  rotate_left
  · intro w hSw; (try dsimp only at hSw); go_simp <;> with_reducible rfl
  try simp only [Act.put, List.getElem_toArray, List.getElem_cons_succ, List.getElem_cons_zero, List.setIfInBounds_toArray, List.set_cons_zero, List.set_cons_succ]
  refine wpAnyH_take (i := 12) (v := ?_) rfl (by kernel_rfl) (by kernel_rfl) (by kernel_rfl) (fun _ _ _ h => h) (Or.inl ⟨by rfl, ?_⟩) (by assumption) ?_
  rotate_left
  · intro w hSw; (try dsimp only at hSw); go_simp <;> with_reducible rfl
  try simp only [Act.put, List.getElem_toArray, List.getElem_cons_succ, List.getElem_cons_zero, List.setIfInBounds_toArray, List.set_cons_zero, List.set_cons_succ]
  refine wpAnyH_take (i := 13) (v := ?_) rfl (by kernel_rfl) (by kernel_rfl) (by kernel_rfl) (fun _ _ _ h => h) (Or.inl ⟨by rfl, ?_⟩) (by assumption) ?_
  rotate_left
  · intro w hSw; (try dsimp only at hSw); go_simp <;> with_reducible rfl
  try simp only [Act.put, List.getElem_toArray, List.getElem_cons_succ, List.getElem_cons_zero, List.setIfInBounds_toArray, List.set_cons_zero, List.set_cons_succ]
  refine wpAnyH_ready (rs := [14]) (by kernel_rfl) (by simp) ?_
  refine AllReadyH.cons rfl (fun K hK => ?_) AllReadyH.nil
  go_simp
  (go_at_call 17; refine (OKA.out _ RX.out.bel).mono ?_; rintro e WX ⟨rfl, hb⟩; replace RX := Lib.hid (RX.out.step hb); clear hb r0 r1 r2 s0 s1 s2; obtain ⟨⟨r0, r1, r2⟩, -⟩ := RX.out.at (r := w.heap.size) (a := .int .i64 k) (b := .int .i64 p) (c := .int .i64 q) (by simp); obtain ⟨s0, s1, s2⟩ := HK.out _ RX.out.bel)
  go_wp2_with fail
  refine hK.out _ _ (by (try dsimp only); with_reducible exact ⟨⟨r0, r1, r2⟩, ⟨s0, s1, s2⟩⟩) (fun hHeld => ?_)
  clear hK K
  try simp only [Act.put, List.getElem_toArray, List.getElem_cons_succ, List.getElem_cons_zero, List.setIfInBounds_toArray, List.set_cons_zero, List.set_cons_succ]
  refine wpAnyH_take (i := 15) (v := ?_) rfl (by kernel_rfl) (by kernel_rfl) (by kernel_rfl) (fun _ _ _ h => h) (Or.inl ⟨by rfl, ?_⟩) (by assumption) ?_
  rotate_left
  · intro w hSw; (try dsimp only at hSw); go_simp <;> with_reducible rfl
  try simp only [Act.put, List.getElem_toArray, List.getElem_cons_succ, List.getElem_cons_zero, List.setIfInBounds_toArray, List.set_cons_zero, List.set_cons_succ]
  refine wpAnyH_take (i := 16) (v := ?_) rfl (by kernel_rfl) (by kernel_rfl) (by kernel_rfl) (fun _ _ _ h => h) (Or.inl ⟨by rfl, ?_⟩) (by assumption) ?_
  rotate_left
  · intro w hSw; (try dsimp only at hSw); go_simp <;> with_reducible rfl
  try simp only [Act.put, List.getElem_toArray, List.getElem_cons_succ, List.getElem_cons_zero, List.setIfInBounds_toArray, List.set_cons_zero, List.set_cons_succ]
  refine wpAnyH_done (by kernel_rfl) ?_ _
  clear r0 r1 r2 s0 s1 s2
  obtain ⟨⟨t0, t1, t2⟩, f0, f1, f2⟩ := RX.out.at (r := w.heap.size + 1) (a := nilV) (b := nilV) (c := nilV) (by simp)
  go_wp2
  refine bodyPost_ret (v := .tuple #[tenV nilV nilV nilV, .bool false]) (by simp [results, Try.results5, go_sem, t0, t1, t2]) rfl ?_
  exact NewTen2.nils (((RX.out.bel.setCell (by simp) _).setCell (by simp) _).setCell (by simp) _)

/-- The first of the tensors. -/
def headT (ts : List TenE) : TenE := ts.headD ([], [], [])
noncomputable def stackB (k p q : Int) (ts : List TenE) (b : Int) : Bool :=
  ringB k p q && (decide (1 ≤ ts.length ∧ ts.length ≤ 8) && (tensorB k p q (headT ts).1 (headT ts).2.1 (headT ts).2.2 && (ts.all (fun t => fitB k p q (headT ts).1 (headT ts).2.1 (headT ts).2.2 t.1 t.2.1 t.2.2) && decide (0 ≤ sizeI ((headT ts).1 ++ [b]) ((headT ts).2.1 ++ [(ts.length : Int)])))))
theorem stack_spec {B : Nat} {lv : Value} {k p q b : Int} {ts : List TenE} {w : World} (ha : RdTs B w lv ts) (hB : B ≤ w.heap.size) (hlen : ∀ t ∈ ts, LenT t.1 t.2.1 t.2.2) :
    Calls Try.prog 5 #[ringV k p q, lv, .int .i64 b] w (NewTen2 w (if stackB k p q ts b = true then (headT ts).1 ++ [b] else []) (if stackB k p q ts b = true then (headT ts).2.1 ++ [(ts.length : Int)] else []) (if stackB k p q ts b = true then stackX k q ts (headT ts).1 (headT ts).2.1 else []) (stackB k p q ts b)) := by
  have no : stackB k p q ts b = false → Calls Try.prog 5 #[ringV k p q, lv, .int .i64 b] w (NewTen2 w [] [] [] false) → Calls Try.prog 5 #[ringV k p q, lv, .int .i64 b] w (NewTen2 w (if stackB k p q ts b = true then (headT ts).1 ++ [b] else []) (if stackB k p q ts b = true then (headT ts).2.1 ++ [(ts.length : Int)] else []) (if stackB k p q ts b = true then stackX k q ts (headT ts).1 (headT ts).2.1 else []) (stackB k p q ts b)) := fun h hc => by
    rw [h]; exact hc
  obtain ⟨pl, cp, hlv⟩ := ha.form
  cases hrb : ringB k p q with
  | false => exact no (by unfold stackB; rw [hrb]; rfl) (stack_ring hlv hrb)
  | true =>
  by_cases h8 : 1 ≤ ts.length ∧ ts.length ≤ 8
  · obtain ⟨t, ht⟩ : ∃ t, ts[0]? = some t := ⟨_, List.getElem?_eq_getElem (by omega)⟩
    have hd : headT ts = t := by
      cases ts with
      | nil => simp at ht
      | cons u r => simp at ht; subst ht; rfl
    obtain ⟨L, D, X⟩ := t
    cases htb : tensorB k p q L D X with
    | false => exact no (by unfold stackB; rw [hd, htb]; simp) (stack_head ha hB rfl h8 ht (hlen _ (List.mem_of_getElem? ht)) hrb htb)
    | true =>
      have hfb : stackB k p q ts b = (ts.all (fun t => fitB k p q L D X t.1 t.2.1 t.2.2) && decide (0 ≤ sizeI (L ++ [b]) (D ++ [((ts.length : Nat) : Int)]))) := by
        unfold stackB; rw [hd, hrb, htb, decide_eq_true h8]; rfl
      have h := stack_one (b := b) ha hB rfl h8 ht hlen hrb htb hfb
      rw [hd]
      exact h
  · exact no (by unfold stackB; rw [decide_eq_false h8]; simp) (stack_many hlv hrb h8)
end Go.Proofs.Ytceidekfcnmeaaa
namespace Go.Proofs.Ytceidekfcnmeaaa
set_option maxRecDepth 20000
open Go.RowKit

theorem stack_facts {k p q b : Int} {ts : List TenE} (h : stackB k p q ts b = true) : AxesV ((headT ts).1 ++ [b]) ((headT ts).2.1 ++ [(ts.length : Int)]) ∧ (stackX k q ts (headT ts).1 (headT ts).2.1).length ≤ 24576 := by
  unfold stackB at h
  simp only [Bool.and_eq_true, decide_eq_true_eq] at h
  obtain ⟨-, h8, ht, hf, hs⟩ := h
  have F := TF.of ht
  have hp := sizeI_parts hs
  refine ⟨hp.1, ?_⟩
  have hY : ∀ Y ∈ ts.map (fun t => permDataL k q t.1 t.2.1 t.2.2 (headT ts).1), Y.length = (prodL (headT ts).2.1).toNat * (widthI k q).toNat := fun Y hY => by
    obtain ⟨t, hm, rfl⟩ := List.mem_map.1 hY
    rw [(fit_facts (List.all_eq_true.1 hf t hm)).2.1]
    exact F.lX
  unfold stackX
  rw [stackL_len hY _ (Nat.le_refl _), List.length_map]
  have h2 := hp.2
  rw [prodL_snoc, F.pr] at h2
  have h3 : (prodL (headT ts).2.1).toNat * ts.length ≤ 4096 := by exact_mod_cast h2
  exact Nat.le_trans (Nat.mul_le_mul h3 F.w6.2) (by omega)
theorem stack_len_L (k p q b : Int) (ts : List TenE) : (if stackB k p q ts b = true then (headT ts).1 ++ [b] else []).length ≤ 12 := by
  split
  · rename_i h; exact (stack_facts h).1.1
  · simp
theorem stack_len_D (k p q b : Int) (ts : List TenE) : (if stackB k p q ts b = true then (headT ts).2.1 ++ [(ts.length : Int)] else []).length ≤ 12 := by
  split
  · rename_i h
    have h1 := (stack_facts h).1
    rw [← h1.2.1]; exact h1.1
  · simp
theorem stack_len_X (k p q b : Int) (ts : List TenE) : (if stackB k p q ts b = true then stackX k q ts (headT ts).1 (headT ts).2.1 else []).length ≤ 24576 := by
  split
  · rename_i h; exact (stack_facts h).2
  · simp
end Go.Proofs.Ytceidekfcnmeaaa
