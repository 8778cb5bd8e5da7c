import Derived.Test.YtgbmacppgaopfabGreatDiagMath
import Derived.Test.YtgbmacppgaopfabGreatPairMath
import Derived.Deep.RegionLaw
import Derived.Deep.AppendLies
import Derived.Test.YtgbmacppgaopfabGreatDiagAx
import Derived.Test.YtgbmacppgaopfabGreatDelete
import Derived.Test.YtgbmacppgaopfabGreatFind
import Derived.Test.YtgbmacppgaopfabGreatTenOkImpl
import Derived.Deep.RegionHeld3

/- impl.DiagonalTensor. -/
namespace Go.Proofs.YtgbmacppgaopfabGreat
set_option maxRecDepth 20000
open Go.RowKit

theorem width_posD {k p q : Int} (h : ringB k p q = true) : ∃ wd : Nat, widthI k q = (wd : Int) ∧ 1 ≤ wd ∧ wd ≤ 6 := by
  have h1 := ring_width h
  exact ⟨(widthI k q).toNat, by omega, by omega, by omega⟩
end Go.Proofs.YtgbmacppgaopfabGreat
namespace Go.Proofs.YtgbmacppgaopfabGreat
set_option maxRecDepth 20000
open Go.RowKit

/-- Another block grows or is written. -/
theorem Rs.elseG {w0 wr w' : World} {bs : List BxE} {rows : List RowE} {g : Nat} (h : Rs w0 wr bs rows) (hg : wr.grownBy w' (some g)) (h0 : w0.heap.size ≤ g) (hb : ∀ b ∈ bs, b.1 ≠ g) (hr : ∀ r ∈ rows, r.1.ownBlock ≠ some g) : Rs w0 w' bs rows :=
  ⟨h.bel.grown hg h.bel.size (fun j hj => by injection hj with hj; omega), fun r hm => (h.own r hm).kept hg (by
    cases hv : r.1.ownBlock with
    | none => exact .inl rfl
    | some k => exact .inr fun e => by injection e with e; subst e; exact hr r hm hv), h.apart, fun b hm => (h.bx b hm).grown hg (fun j hj => by injection hj with hj; subst hj; exact ⟨hb b hm, h0⟩), h.far, h.dis⟩
theorem cellsA_last {AX : List AxE} {i : Nat} {x y z v : Int} (hx : AX[i]? = some (x, y, z)) : (cellsA AX).set (i * 3 + 2) (.int .i64 v) = cellsA (AX.set i (x, y, v)) := by
  have hi := (List.getElem?_eq_some_iff.1 hx).1
  obtain ⟨e1, e2, e3⟩ := cellsA_at hx
  refine cellsA_is (by simp only [List.length_set, cellsA_len]) fun j a ha => ?_
  by_cases e : i = j
  · subst e
    rw [List.getElem?_set_self hi] at ha
    injection ha with ha
    subst ha
    exact ⟨by rw [List.getElem?_set_ne (by omega)]; exact e1, by rw [List.getElem?_set_ne (by omega)]; exact e2, by rw [List.getElem?_set_self (by rw [cellsA_len]; omega)]⟩
  · rw [List.getElem?_set_ne e] at ha
    obtain ⟨h1, h2, h3⟩ := cellsA_at ha
    exact ⟨by rw [List.getElem?_set_ne (by omega)]; exact h1, by rw [List.getElem?_set_ne (by omega)]; exact h2, by rw [List.getElem?_set_ne (by omega)]; exact h3⟩
theorem own_capA {w : World} {lo g n cap : Nat} {xs : List Value} (h : w.ownsRow lo 85 3 (.slice (some ⟨g, 0, none⟩) n cap) n xs) : n ≤ cap := by
  rcases h.2 with ⟨e, -⟩ | ⟨g', cap', cur, e, -, -, h1, h2, h3, h4⟩
  · cases e
  · cases e
    omega
set_option maxHeartbeats 3200000 in
theorem diagonal_impl {B : Nat} {lv dv xv : Value} {k p q a b : Int} {L D X : List Int} {w : World} (ha : RdT B w lv dv xv L D X) (hB : B ≤ w.heap.size) (hn : LenT L D X) (hI : allI L) :
    Calls Tryz.prog 24 #[ringV k p q, tenV lv dv xv, .int .i64 a, .int .i64 b] w (NewTen2 w (if diagB k p q L D X a b = true then exL L b else []) (if diagB k p q L D X a b = true then exD L D b else []) (if diagB k p q L D X a b = true then diagL k q L D X a b else []) (diagB k p q L D X a b)) := by
  have HA : Hid (RdT w.heap.size w lv dv xv L D X) := Lib.hid ⟨ha.l.mono hB, ha.d.mono hB, ha.x.mono hB⟩
  obtain ⟨zb, hzb⟩ : ∃ z, z = diagB k p q L D X a b := ⟨_, rfl⟩
  rw [← hzb]
  obtain ⟨zl, hzl⟩ : ∃ l, l = if zb = true then exL L b else [] := ⟨_, rfl⟩
  obtain ⟨zd, hzd⟩ : ∃ l, l = if zb = true then exD L D b else [] := ⟨_, rfl⟩
  obtain ⟨zx, hzx⟩ : ∃ l, l = if zb = true then diagL k q L D X a b else [] := ⟨_, rfl⟩
  rw [← hzl, ← hzd, ← hzx]
  obtain ⟨al, cl, rfl, -⟩ := ints_form ha.l
  obtain ⟨ad, cd, rfl, -⟩ := ints_form ha.d
  obtain ⟨ax, cx, rfl, -⟩ := ints_form ha.x
  generalize X.length = m3 at HA ⊢
  obtain ⟨t1b, ht1⟩ : ∃ z, z = tensorB k p q L D X := ⟨_, rfl⟩
  cases t1b with
  | false =>
    obtain rfl : zb = false := by rw [hzb]; unfold diagB; rw [← ht1]; simp
    generalize L.length = m1 at HA ⊢
    generalize D.length = m2 at HA ⊢
    have S0 : Hid (Rs w (((w.alloc (.cells #[.int .i64 k, .int .i64 p, .int .i64 q] 24)).alloc (.cells #[.slice al m1 cl, .slice ad m2 cd, .slice ax m3 cx] 28)).alloc (.cells #[nilV, nilV, nilV] 28)) [(w.heap.size + 1 + 1, nilV, nilV, nilV), (w.heap.size + 1, .slice al m1 cl, .slice ad m2 cd, .slice ax m3 cx), (w.heap.size, .int .i64 k, .int .i64 p, .int .i64 q)] []) := by
      have h := (((Rs.start w).box (.int .i64 k) (.int .i64 p) (.int .i64 q) 24).box (.slice al m1 cl) (.slice ad m2 cd) (.slice ax m3 cx) 28).box nilV nilV nilV 28
      simp only [World.size_alloc] at h
      exact h
    have HT1 := Lib.hid (tensor_ok_impl (k := k) (p := p) (n := q) (HA.out.below S0.out.bel (Nat.le_refl _)) S0.out.bel.size hn hI)
    rw [← ht1] at HT1
    obtain ⟨⟨r0, r1, r2⟩, -⟩ := S0.out.at (r := w.heap.size) (a := .int .i64 k) (b := .int .i64 p) (c := .int .i64 q) (by simp)
    obtain ⟨⟨a0, a1, a2⟩, -⟩ := S0.out.at (r := w.heap.size + 1) (a := .slice al m1 cl) (b := .slice ad m2 cd) (c := .slice ax m3 cx) (by simp)
    have s0 : True := trivial
    clear ha hB hn hI hzb ht1
    simp only [Bool.false_eq_true, if_false] at hzl hzd hzx
    subst hzl hzd hzx
    go_enter Tryz.func24, Tryz.ntmps24
    go_wp2_with fail
    refine HT1.out.mono ?_
    rintro e w1 ⟨rfl, hb⟩
    have S1 := Lib.hid (S0.out.step hb)
    clear hb HT1 r0 r1 r2 a0 a1 a2 s0
    obtain ⟨⟨t0, t1, t2⟩, f0, f1, f2⟩ := S1.out.at (r := w.heap.size + 1 + 1) (a := nilV) (b := nilV) (c := nilV) (by simp)
    go_wp2
    refine bodyPost_ret (v := .tuple #[tenV nilV nilV nilV, .bool false]) (by simp [results, Tryz.results24, go_sem, t0, t1, t2]) rfl ?_
    exact NewTen2.nils (((S1.out.bel.setCell (by show w.heap.size ≤ w.heap.size + 1 + 1; omega) _).setCell (by show w.heap.size ≤ w.heap.size + 1 + 1; omega) _).setCell (by show w.heap.size ≤ w.heap.size + 1 + 1; omega) _)
  | true =>
    have hax := tensor_axes ht1.symm
    have hrb := (tensorB_inv ht1.symm).1
    obtain ⟨wd, hw, hw1, hw6⟩ := width_posD hrb
    have hF := TenF.of ht1.symm hw
    have hP : prodL D ≤ 4096 := by have h1 := hF.pr; have h2 := hF.n1; omega
    obtain ⟨m, hm⟩ : ∃ m, m = L.length := ⟨_, rfl⟩
    have hm2 : D.length = m := by rw [hm, hax.2.1]
    have h12 : m ≤ 12 := by rw [hm]; exact hax.1
    rw [← hm, hm2] at HA ⊢
    have S0 : Hid (Rs w (((w.alloc (.cells #[.int .i64 k, .int .i64 p, .int .i64 q] 24)).alloc (.cells #[.slice al m cl, .slice ad m cd, .slice ax m3 cx] 28)).alloc (.cells #[nilV, nilV, nilV] 28)) [(w.heap.size + 1 + 1, nilV, nilV, nilV), (w.heap.size + 1, .slice al m cl, .slice ad m cd, .slice ax m3 cx), (w.heap.size, .int .i64 k, .int .i64 p, .int .i64 q)] []) := by
      have h := (((Rs.start w).box (.int .i64 k) (.int .i64 p) (.int .i64 q) 24).box (.slice al m cl) (.slice ad m cd) (.slice ax m3 cx) 28).box nilV nilV nilV 28
      simp only [World.size_alloc] at h
      exact h
    have HT1 := Lib.hid (tensor_ok_impl (k := k) (p := p) (n := q) (HA.out.below S0.out.bel (Nat.le_refl _)) S0.out.bel.size hn hI)
    rw [← ht1] at HT1
    have HI1 := Lib.hid (fun (W : World) (hb : Below w.heap.size w W) => index_any a (HA.out.below hb (Nat.le_refl _)).l (by have := hax.1; omega))
    have HI2 := Lib.hid (fun (W : World) (hb : Below w.heap.size w W) => index_any b (HA.out.below hb (Nat.le_refl _)).l (by have := hax.1; omega))
    have HC : Hid (∀ W rs, Rs w W [(w.heap.size + 1 + 1, nilV, nilV, nilV), (w.heap.size + 1, .slice al m cl, .slice ad m cd, .slice ax m3 cx), (w.heap.size, .int .i64 k, .int .i64 p, .int .i64 q)] rs → (W.cell? ⟨w.heap.size, 0, none⟩ = some (.int .i64 k) ∧ W.cell? ⟨w.heap.size, 1, none⟩ = some (.int .i64 p) ∧ W.cell? ⟨w.heap.size, 2, none⟩ = some (.int .i64 q) ∧ W.cell? ⟨w.heap.size + 1, 0, none⟩ = some (.slice al m cl) ∧ W.cell? ⟨w.heap.size + 1, 1, none⟩ = some (.slice ad m cd) ∧ W.cell? ⟨w.heap.size + 1, 2, none⟩ = some (.slice ax m3 cx)) ∧ 0 < W.heap.size) := Lib.hid (fun W rs h => by
      obtain ⟨⟨r0, r1, r2⟩, -⟩ := h.at (r := w.heap.size) (a := .int .i64 k) (b := .int .i64 p) (c := .int .i64 q) (by simp)
      obtain ⟨⟨a0, a1, a2⟩, -⟩ := h.at (r := w.heap.size + 1) (a := .slice al m cl) (b := .slice ad m cd) (c := .slice ax m3 cx) (by simp)
      exact ⟨⟨r0, r1, r2, a0, a1, a2⟩, by have h2 := (h.bx (w.heap.size, .int .i64 k, .int .i64 p, .int .i64 q) (by simp)).lt; exact Nat.lt_of_le_of_lt (Nat.zero_le _) h2⟩)
    obtain ⟨⟨r0, r1, r2, a0, a1, a2⟩, s0⟩ := HC.out _ _ S0.out
    clear ha hB hn hI
    by_cases hia : a ∈ L
    · have hfa : findI L a = ((L.idxOf a : Nat) : Int) := by unfold findI; rw [if_pos hia]
      obtain ⟨i, hi⟩ : ∃ i, i = L.idxOf a := ⟨_, rfl⟩
      have him : i < m := by rw [hi, hm]; exact List.idxOf_lt_length_iff.2 hia
      rw [hfa, ← hi] at HI1
      have q1 : ¬ ((i : Int) < 0) := by omega
      have q1d : decide ((i : Int) < 0) = false := decide_eq_false q1
      by_cases hib : b ∈ L
      · have hfb : findI L b = ((L.idxOf b : Nat) : Int) := by unfold findI; rw [if_pos hib]
        obtain ⟨j, hj⟩ : ∃ j, j = L.idxOf b := ⟨_, rfl⟩
        have hjm : j < m := by rw [hj, hm]; exact List.idxOf_lt_length_iff.2 hib
        rw [hfb, ← hj] at HI2
        have q2 : ¬ ((j : Int) < 0) := by omega
        have q2d : decide ((j : Int) < 0) = false := decide_eq_false q2
        by_cases hij : i = j
        · obtain rfl : zb = false := by rw [hzb]; unfold diagB; rw [hfa, hfb, ← hi, ← hj, hij]; simp
          subst hij
          clear hzb ht1 hax hrb hw hF hP hia hib hfa hfb hi hj hm hm2
          simp only [Bool.false_eq_true, if_false] at hzl hzd hzx
          subst hzl hzd hzx
          go_enter Tryz.func24, Tryz.ntmps24
          go_wp2_with fail
          refine HT1.out.mono ?_
          rintro e w1 ⟨rfl, hb⟩
          have S1 := Lib.hid (S0.out.step hb)
          clear hb HT1 r0 r1 r2 a0 a1 a2 s0
          have S2 := Lib.hid S1.out.drew
          have TK1 : True := trivial
          have TK2 : True := trivial
          obtain ⟨⟨r0, r1, r2, a0, a1, a2⟩, s0⟩ := HC.out _ _ S2.out
          go_wp2_with fail
          go_region_held3 (fun W => (W.cell? ⟨w.heap.size, 0, none⟩ = some (.int .i64 k) ∧ W.cell? ⟨w.heap.size, 1, none⟩ = some (.int .i64 p) ∧ W.cell? ⟨w.heap.size, 2, none⟩ = some (.int .i64 q) ∧ W.cell? ⟨w.heap.size + 1, 0, none⟩ = some (.slice al m cl) ∧ W.cell? ⟨w.heap.size + 1, 1, none⟩ = some (.slice ad m cd) ∧ W.cell? ⟨w.heap.size + 1, 2, none⟩ = some (.slice ax m3 cx))) (exact ⟨r0, r1, r2, a0, a1, a2⟩) (first
            | (go_at_call 63; have _t := TK1; refine (HI1.out _ S2.out.bel).mono ?_; rintro e w2 ⟨rfl, rfl⟩; clear TK1 _t)
            | (go_at_call 63; have _t := TK2; refine (HI2.out _ S2.out.bel).mono ?_; rintro e w2 ⟨rfl, rfl⟩; clear TK2 _t))
          clear r0 r1 r2 a0 a1 a2 s0 HI1 HI2 S1
          generalize w1.drew = w2 at S2 ⊢
          have S3 := Lib.hid S2.out.drew
          obtain ⟨⟨r0, r1, r2, a0, a1, a2⟩, s0⟩ := HC.out _ _ S3.out
          go_wp2_with fail
          refine wp_region_held_drew (S := (fun W => (W.cell? ⟨w.heap.size, 0, none⟩ = some (.int .i64 k) ∧ W.cell? ⟨w.heap.size, 1, none⟩ = some (.int .i64 p) ∧ W.cell? ⟨w.heap.size, 2, none⟩ = some (.int .i64 q) ∧ W.cell? ⟨w.heap.size + 1, 0, none⟩ = some (.slice al m cl) ∧ W.cell? ⟨w.heap.size + 1, 1, none⟩ = some (.slice ad m cd) ∧ W.cell? ⟨w.heap.size + 1, 2, none⟩ = some (.slice ax m3 cx)))) (by kernel_rfl) (by (try dsimp only); exact ⟨r0, r1, r2, a0, a1, a2⟩) (fun hHeld => ?_)
          refine wpAnyH_take (i := 0) (v := ?_) rfl (by kernel_rfl) (by kernel_rfl) (by kernel_rfl) (fun _ _ _ h => h) (Or.inl ⟨by rfl, ?_⟩) (by assumption) ?_
          rotate_left
          · intro w hSw; (try dsimp only at hSw); go_simp <;> with_reducible rfl
          try simp only [Act.put, List.getElem_toArray, List.getElem_cons_zero, List.setIfInBounds_toArray, List.set_cons_zero, List.set_cons_succ]
          refine wpAnyH_take (i := 1) (v := ?_) rfl (by kernel_rfl) (by kernel_rfl) (by kernel_rfl) (fun _ _ _ h => h) (Or.inl ⟨by rfl, ?_⟩) (by assumption) ?_
          rotate_left
          · intro w hSw; (try dsimp only at hSw); go_simp <;> with_reducible rfl
          try simp only [Act.put, List.getElem_toArray, List.getElem_cons_succ, List.getElem_cons_zero, List.setIfInBounds_toArray, List.set_cons_zero, List.set_cons_succ]
          refine wpAnyH_take (i := 2) (v := ?_) rfl (by kernel_rfl) (by kernel_rfl) (by kernel_rfl) (fun _ _ _ h => h) (Or.inl ⟨by rfl, ?_⟩) (by assumption) ?_
          rotate_left
          · intro w hSw; (try dsimp only at hSw); go_simp <;> with_reducible rfl
          try simp only [Act.put, List.getElem_toArray, List.getElem_cons_succ, List.getElem_cons_zero, List.setIfInBounds_toArray, List.set_cons_zero, List.set_cons_succ]
          refine wpAnyH_take (i := 3) (v := ?_) rfl (by kernel_rfl) (by kernel_rfl) (by kernel_rfl) (fun _ _ _ h => h) (Or.inl ⟨by rfl, ?_⟩) (by assumption) ?_
          rotate_left
          · intro w hSw; (try dsimp only at hSw); go_simp <;> with_reducible rfl
          try simp only [Act.put, List.getElem_toArray, List.getElem_cons_succ, List.getElem_cons_zero, List.setIfInBounds_toArray, List.set_cons_zero, List.set_cons_succ]
          refine wpAnyH_take (i := 4) (v := ?_) rfl (by kernel_rfl) (by kernel_rfl) (by kernel_rfl) (fun _ _ _ h => h) (Or.inl ⟨by rfl, ?_⟩) (by assumption) ?_
          rotate_left
          · intro w hSw; (try dsimp only at hSw); go_simp <;> with_reducible rfl
          try simp only [Act.put, List.getElem_toArray, List.getElem_cons_succ, List.getElem_cons_zero, List.setIfInBounds_toArray, List.set_cons_zero, List.set_cons_succ]
          refine wpAnyH_take (i := 5) (v := ?_) rfl (by kernel_rfl) (by kernel_rfl) (by kernel_rfl) (fun _ _ _ h => h) (Or.inl ⟨by rfl, ?_⟩) (by assumption) ?_
          rotate_left
          · intro w hSw; (try dsimp only at hSw); go_simp <;> with_reducible rfl
          try simp only [Act.put, List.getElem_toArray, List.getElem_cons_succ, List.getElem_cons_zero, List.setIfInBounds_toArray, List.set_cons_zero, List.set_cons_succ]
          refine wpAnyH_take (i := 6) (v := ?_) rfl (by kernel_rfl) (by kernel_rfl) (by kernel_rfl) (fun _ _ _ h => h) (Or.inl ⟨by rfl, ?_⟩) (by assumption) ?_
          rotate_left
          · intro w hSw; (try dsimp only at hSw); go_simp <;> with_reducible rfl
          try simp only [Act.put, List.getElem_toArray, List.getElem_cons_succ, List.getElem_cons_zero, List.setIfInBounds_toArray, List.set_cons_zero, List.set_cons_succ]
          refine wpAnyH_take (i := 7) (v := ?_) rfl (by kernel_rfl) (by kernel_rfl) (by kernel_rfl) (fun _ _ _ h => h) (Or.inl ⟨by rfl, ?_⟩) (by assumption) ?_
          rotate_left
          · intro w hSw; (try dsimp only at hSw); go_simp <;> with_reducible rfl
          try simp only [Act.put, List.getElem_toArray, List.getElem_cons_succ, List.getElem_cons_zero, List.setIfInBounds_toArray, List.set_cons_zero, List.set_cons_succ]
          refine wpAnyH_take (i := 8) (v := ?_) rfl (by kernel_rfl) (by kernel_rfl) (by kernel_rfl) (fun _ _ _ h => h) (Or.inl ⟨by rfl, ?_⟩) (by assumption) ?_
          rotate_left
          · intro w hSw; (try dsimp only at hSw); go_simp <;> with_reducible rfl
          try simp only [Act.put, List.getElem_toArray, List.getElem_cons_succ, List.getElem_cons_zero, List.setIfInBounds_toArray, List.set_cons_zero, List.set_cons_succ]
          refine wpAnyH_take (i := 9) (v := ?_) rfl (by kernel_rfl) (by kernel_rfl) (by kernel_rfl) (fun _ _ _ h => h) (Or.inl ⟨by rfl, ?_⟩) (by assumption) ?_
          rotate_left
          · intro w hSw; (try dsimp only at hSw); go_simp <;> with_reducible rfl
          try simp only [Act.put, List.getElem_toArray, List.getElem_cons_succ, List.getElem_cons_zero, List.setIfInBounds_toArray, List.set_cons_zero, List.set_cons_succ]
          refine wpAnyH_take (i := 10) (v := ?_) rfl (by kernel_rfl) (by kernel_rfl) (by kernel_rfl) (fun _ _ _ h => h) (Or.inl ⟨by rfl, ?_⟩) (by assumption) ?_
          rotate_left
          · intro w hSw; (try dsimp only at hSw); go_simp <;> with_reducible rfl
          try simp only [Act.put, List.getElem_toArray, List.getElem_cons_succ, List.getElem_cons_zero, List.setIfInBounds_toArray, List.set_cons_zero, List.set_cons_succ]
          refine wpAnyH_take (i := 11) (v := ?_) rfl (by kernel_rfl) (by kernel_rfl) (by kernel_rfl) (fun _ _ _ h => h) (Or.inl ⟨by rfl, ?_⟩) (by assumption) ?_
          rotate_left
          · intro w hSw; (try dsimp only at hSw); go_simp <;> with_reducible rfl
          try simp only [Act.put, List.getElem_toArray, List.getElem_cons_succ, List.getElem_cons_zero, List.setIfInBounds_toArray, List.set_cons_zero, List.set_cons_succ]
          refine wpAnyH_take (i := 12) (v := undef) rfl (by kernel_rfl) (by kernel_rfl) (by kernel_rfl) (fun _ _ _ h => h) (Or.inr ⟨by rfl, rfl⟩) (by assumption) ?_
          try simp only [Act.put, List.getElem_toArray, List.getElem_cons_succ, List.getElem_cons_zero, List.setIfInBounds_toArray, List.set_cons_zero, List.set_cons_succ]
          refine wpAnyH_take (i := 13) (v := undef) rfl (by kernel_rfl) (by kernel_rfl) (by kernel_rfl) (fun _ _ _ h => h) (Or.inr ⟨by rfl, rfl⟩) (by assumption) ?_
          try simp only [Act.put, List.getElem_toArray, List.getElem_cons_succ, List.getElem_cons_zero, List.setIfInBounds_toArray, List.set_cons_zero, List.set_cons_succ]
          refine wpAnyH_take (i := 14) (v := undef) rfl (by kernel_rfl) (by kernel_rfl) (by kernel_rfl) (fun _ _ _ h => h) (Or.inr ⟨by rfl, rfl⟩) (by assumption) ?_
          try simp only [Act.put, List.getElem_toArray, List.getElem_cons_succ, List.getElem_cons_zero, List.setIfInBounds_toArray, List.set_cons_zero, List.set_cons_succ]
          refine wpAnyH_take (i := 15) (v := undef) rfl (by kernel_rfl) (by kernel_rfl) (by kernel_rfl) (fun _ _ _ h => h) (Or.inr ⟨by rfl, rfl⟩) (by assumption) ?_
          try simp only [Act.put, List.getElem_toArray, List.getElem_cons_succ, List.getElem_cons_zero, List.setIfInBounds_toArray, List.set_cons_zero, List.set_cons_succ]
          refine wpAnyH_take (i := 16) (v := undef) rfl (by kernel_rfl) (by kernel_rfl) (by kernel_rfl) (fun _ _ _ h => h) (Or.inr ⟨by rfl, rfl⟩) (by assumption) ?_
          try simp only [Act.put, List.getElem_toArray, List.getElem_cons_succ, List.getElem_cons_zero, List.setIfInBounds_toArray, List.set_cons_zero, List.set_cons_succ]
          refine wpAnyH_take (i := 17) (v := undef) rfl (by kernel_rfl) (by kernel_rfl) (by kernel_rfl) (fun _ _ _ h => h) (Or.inr ⟨by rfl, rfl⟩) (by assumption) ?_
          try simp only [Act.put, List.getElem_toArray, List.getElem_cons_succ, List.getElem_cons_zero, List.setIfInBounds_toArray, List.set_cons_zero, List.set_cons_succ]
          refine wpAnyH_take (i := 18) (v := undef) rfl (by kernel_rfl) (by kernel_rfl) (by kernel_rfl) (fun _ _ _ h => h) (Or.inr ⟨by rfl, rfl⟩) (by assumption) ?_
          try simp only [Act.put, List.getElem_toArray, List.getElem_cons_succ, List.getElem_cons_zero, List.setIfInBounds_toArray, List.set_cons_zero, List.set_cons_succ]
          refine wpAnyH_take (i := 19) (v := undef) rfl (by kernel_rfl) (by kernel_rfl) (by kernel_rfl) (fun _ _ _ h => h) (Or.inr ⟨by rfl, rfl⟩) (by assumption) ?_
          try simp only [Act.put, List.getElem_toArray, List.getElem_cons_succ, List.getElem_cons_zero, List.setIfInBounds_toArray, List.set_cons_zero, List.set_cons_succ]
          refine wpAnyH_take (i := 20) (v := undef) rfl (by kernel_rfl) (by kernel_rfl) (by kernel_rfl) (fun _ _ _ h => h) (Or.inr ⟨by rfl, rfl⟩) (by assumption) ?_
          try simp only [Act.put, List.getElem_toArray, List.getElem_cons_succ, List.getElem_cons_zero, List.setIfInBounds_toArray, List.set_cons_zero, List.set_cons_succ]
          refine wpAnyH_take (i := 21) (v := undef) rfl (by kernel_rfl) (by kernel_rfl) (by kernel_rfl) (fun _ _ _ h => h) (Or.inr ⟨by rfl, rfl⟩) (by assumption) ?_
          try simp only [Act.put, List.getElem_toArray, List.getElem_cons_succ, List.getElem_cons_zero, List.setIfInBounds_toArray, List.set_cons_zero, List.set_cons_succ]
          refine wpAnyH_take (i := 22) (v := undef) rfl (by kernel_rfl) (by kernel_rfl) (by kernel_rfl) (fun _ _ _ h => h) (Or.inr ⟨by rfl, rfl⟩) (by assumption) ?_
          try simp only [Act.put, List.getElem_toArray, List.getElem_cons_succ, List.getElem_cons_zero, List.setIfInBounds_toArray, List.set_cons_zero, List.set_cons_succ]
          refine wpAnyH_take (i := 23) (v := ?_) rfl (by kernel_rfl) (by kernel_rfl) (by kernel_rfl) (fun _ _ _ h => h) (Or.inl ⟨by rfl, ?_⟩) (by assumption) ?_
          rotate_left
          · intro w hSw; (try dsimp only at hSw); go_simp <;> with_reducible rfl
          try simp only [Act.put, List.getElem_toArray, List.getElem_cons_succ, List.getElem_cons_zero, List.setIfInBounds_toArray, List.set_cons_zero, List.set_cons_succ]
          refine wpAnyH_done (by kernel_rfl) ?_ _
          clear r0 r1 r2 a0 a1 a2 s0
          generalize w2.drew = w3 at S3 ⊢
          obtain ⟨⟨t0, t1, t2⟩, f0, f1, f2⟩ := S3.out.at (r := w.heap.size + 1 + 1) (a := nilV) (b := nilV) (c := nilV) (by simp)
          go_wp2
          refine bodyPost_ret (v := .tuple #[tenV nilV nilV nilV, .bool false]) (by simp [results, Tryz.results24, go_sem, t0, t1, t2]) rfl ?_
          exact NewTen2.nils (((S3.out.bel.setCell (by show w.heap.size ≤ w.heap.size + 1 + 1; omega) _).setCell (by show w.heap.size ≤ w.heap.size + 1 + 1; omega) _).setCell (by show w.heap.size ≤ w.heap.size + 1 + 1; omega) _)
        · have q3 : ((i : Int) == (j : Int)) = false := by rw [beq_eq_false_iff_ne]; omega
          obtain ⟨di, hdi⟩ : ∃ d, D[i]? = some d := ⟨_, List.getElem?_eq_getElem (by omega)⟩
          obtain ⟨dj, hdj⟩ : ∃ d, D[j]? = some d := ⟨_, List.getElem?_eq_getElem (by omega)⟩
          have HDI := Lib.hid hdi
          have HDJ := Lib.hid hdj
          have hgi : D.getD (L.idxOf a) 0 = di := by rw [← hi]; exact getD_at hdi
          have hgj : D.getD (L.idxOf b) 0 = dj := by rw [← hj]; exact getD_at hdj
          by_cases hdd : di = dj
          · have hab : a ≠ b := fun e => hij (by rw [hi, hj, e])
            obtain rfl : zb = true := by
              rw [hzb]; unfold diagB
              rw [← ht1, hfa, hfb, hgi, hgj, hdd, ← hi, ← hj]
              simp; omega
            simp only [if_true] at hzl hzd hzx
            have hgd : D.getD (L.idxOf a) 0 = D.getD (L.idxOf b) 0 := by rw [hgi, hgj, hdd]
            obtain ⟨hpa, hpe⟩ := diag_pa (a := a) (b := b) hax hP
            have hofs := diag_offs hax hia hib hab hgd
            have halo := diag_along (X := X) (wd := wd) hax hia hib hab hgd
            have hne : L.idxOf a ≠ L.idxOf b := by rw [← hi, ← hj]; exact hij
            have hroom : ∀ o ∈ offsA (axJ (exL L b) (dimI L D) (diagS L D a b)), 0 ≤ o ∧ o ≤ 4096 ∧ o.toNat * wd + wd ≤ X.length := fun o ho => by
              rw [hofs] at ho
              obtain ⟨c, -, rfl⟩ := List.mem_map.1 ho
              have h1 := (diag_lt hax.2.2.2.2 hax.2.1 (at_idxOf hia) (at_idxOf hib) hne hgd hF.dim c).2.2
              have h2 := hF.pr
              have h8 := Nat.mul_le_mul_right wd (show diagF L D b (L.idxOf a) (L.idxOf b) c + 1 ≤ (prodL D).toNat by omega)
              rw [Nat.add_mul, Nat.one_mul] at h8
              exact ⟨by omega, by omega, by rw [Int.toNat_natCast, hF.lX]; exact h8⟩
            have HAL := Lib.hid (fun (W : World) (B B' : Nat) (av : Value) (h : RdT B W (.slice al m cl) (.slice ad m cd) (.slice ax m3 cx) L D X) (ha : RdA B' W av (axJ (exL L b) (dimI L D) (diagS L D a b))) (hB : B ≤ W.heap.size) (hB' : B' ≤ W.heap.size) => along_impl 0 (k := k) (p := p) (q := q) hpa (by rw [axJ_dims]; exact hpe) hw hw1 hw6 (by simpa using hroom) h ha hB hB')
            rw [axJ_lab, axJ_dims, halo, show (exL L b).map (dimI L D) = exD L D b from rfl] at HAL
            have hzx2 : gatherL (fun n => getL wd X (diagF L D b (L.idxOf a) (L.idxOf b) n)) (prodL (exD L D b)).toNat = zx := by
              rw [hzx]; unfold diagL; rw [hw, Int.toNat_natCast]
            obtain ⟨AX2, hAX2⟩ : ∃ l, l = axJ (exL L b) (dimI L D) (diagS L D a b) := ⟨_, rfl⟩
            rw [hzx2, ← hAX2, ← hzl, ← hzd] at HAL
            have HX1 := Lib.hid (fun (W : World) (hb : Below w.heap.size w W) (h0 : 0 < W.heap.size) => axes_impl (HA.out.below hb (Nat.le_refl _)) hb.size h0 hax.2.1 hax.1 hax.2.2.2.1 hP)
            rw [axesL_map hax.2.2.2.2] at HX1
            obtain ⟨AX, hAX⟩ : ∃ l, l = axJ L (dimI L D) (stepI L D) := ⟨_, rfl⟩
            obtain ⟨si, hsi⟩ : ∃ s, s = stepI L D a := ⟨_, rfl⟩
            obtain ⟨sj, hsj⟩ : ∃ s, s = stepI L D b := ⟨_, rfl⟩
            have hsi2 := stepI_small (L := L) hF.dim hP a
            have hsj2 := stepI_small (L := L) hF.dim hP b
            rw [← hsi] at hsi2
            rw [← hsj] at hsj2
            have HDX : Hid ((AX.set i (a, di, si + sj)).eraseIdx j = AX2) := Lib.hid (by
              rw [hAX2]
              have h := diag_axes (D := D) (b := b) hax.2.2.2.2 hia
              rw [← hAX, ← hsi, ← hsj, ← hi, ← hj] at h
              have h2 : dimI L D a = di := by unfold dimI; exact hgi
              rw [h2] at h
              exact h)
            have HAI : Hid (AX[i]? = some (a, di, si)) := Lib.hid (by
              rw [hAX]; unfold axJ
              rw [List.getElem?_map, hi, at_idxOf hia]
              show some (a, dimI L D a, stepI L D a) = _
              rw [hsi]; unfold dimI; rw [hgi])
            have HAJ : Hid (AX[j]? = some (b, dj, sj)) := Lib.hid (by
              rw [hAX]; unfold axJ
              rw [List.getElem?_map, hj, at_idxOf hib]
              show some (b, dimI L D b, stepI L D b) = _
              rw [hsj]; unfold dimI; rw [hgj])
            have HAXL : Hid (AX.length = m) := Lib.hid (by rw [hAX, axJ_len, hm])
            rw [← hAX] at HX1
            subst hdd
            have qd : (di != di) = false := by simp
            clear hzb ht1 hax hrb hw hF hP hia hib hfa hfb hi hj hm hm2 hab hzl hzd hzx hgd hpa hpe hofs halo hne hroom hzx2 hAX hsi hsj hdi hdj hgi hgj hAX2
            go_enter Tryz.func24, Tryz.ntmps24
            go_wp2_with fail
            refine HT1.out.mono ?_
            rintro e w1 ⟨rfl, hb⟩
            have S1 := Lib.hid (S0.out.step hb)
            clear hb HT1 r0 r1 r2 a0 a1 a2 s0
            have S2 := Lib.hid S1.out.drew
            have TK1 : True := trivial
            have TK2 : True := trivial
            obtain ⟨⟨r0, r1, r2, a0, a1, a2⟩, s0⟩ := HC.out _ _ S2.out
            go_wp2_with fail
            go_region_held3 (fun W => (W.cell? ⟨w.heap.size, 0, none⟩ = some (.int .i64 k) ∧ W.cell? ⟨w.heap.size, 1, none⟩ = some (.int .i64 p) ∧ W.cell? ⟨w.heap.size, 2, none⟩ = some (.int .i64 q) ∧ W.cell? ⟨w.heap.size + 1, 0, none⟩ = some (.slice al m cl) ∧ W.cell? ⟨w.heap.size + 1, 1, none⟩ = some (.slice ad m cd) ∧ W.cell? ⟨w.heap.size + 1, 2, none⟩ = some (.slice ax m3 cx))) (exact ⟨r0, r1, r2, a0, a1, a2⟩) (first
              | (go_at_call 63; have _t := TK1; refine (HI1.out _ S2.out.bel).mono ?_; rintro e w2 ⟨rfl, rfl⟩; clear TK1 _t)
              | (go_at_call 63; have _t := TK2; refine (HI2.out _ S2.out.bel).mono ?_; rintro e w2 ⟨rfl, rfl⟩; clear TK2 _t))
            clear r0 r1 r2 a0 a1 a2 s0 HI1 HI2 S1
            generalize w1.drew = w2 at S2 ⊢
            have S3 := Lib.hid S2.out.drew
            obtain ⟨⟨r0, r1, r2, a0, a1, a2⟩, s0⟩ := HC.out _ _ S3.out
            obtain ⟨bD, oD, hD1, -, hD2⟩ := (HA.out.below S3.out.bel (Nat.le_refl _)).d.cellAt HDI.out
            obtain ⟨bD2, oD2, hD3, -, hD4⟩ := (HA.out.below S3.out.bel (Nat.le_refl _)).d.cellAt HDJ.out
            subst hD1
            cases hD3
            have d0 := hD2
            have d1 := hD4
            go_wp2_with fail
            refine wp_region_held_drew (S := (fun W => (W.cell? ⟨w.heap.size, 0, none⟩ = some (.int .i64 k) ∧ W.cell? ⟨w.heap.size, 1, none⟩ = some (.int .i64 p) ∧ W.cell? ⟨w.heap.size, 2, none⟩ = some (.int .i64 q) ∧ W.cell? ⟨w.heap.size + 1, 0, none⟩ = some (.slice al m cl) ∧ W.cell? ⟨w.heap.size + 1, 1, none⟩ = some (.slice (some ⟨bD, oD, none⟩) m cd) ∧ W.cell? ⟨w.heap.size + 1, 2, none⟩ = some (.slice ax m3 cx)) ∧ W.cell? ⟨bD, oD + i, none⟩ = some (.int .i64 di) ∧ W.cell? ⟨bD, oD + j, none⟩ = some (.int .i64 di))) (by kernel_rfl) (by (try dsimp only); exact ⟨⟨r0, r1, r2, a0, a1, a2⟩, d0, d1⟩) (fun hHeld => ?_)
            refine wpAnyH_take (i := 0) (v := ?_) rfl (by kernel_rfl) (by kernel_rfl) (by kernel_rfl) (fun _ _ _ h => h) (Or.inl ⟨by rfl, ?_⟩) (by assumption) ?_
            rotate_left
            · intro w hSw; (try dsimp only at hSw); go_simp <;> with_reducible rfl
            try simp only [Act.put, List.getElem_toArray, List.getElem_cons_zero, List.setIfInBounds_toArray, List.set_cons_zero, List.set_cons_succ]
            refine wpAnyH_take (i := 1) (v := ?_) rfl (by kernel_rfl) (by kernel_rfl) (by kernel_rfl) (fun _ _ _ h => h) (Or.inl ⟨by rfl, ?_⟩) (by assumption) ?_
            rotate_left
            · intro w hSw; (try dsimp only at hSw); go_simp <;> with_reducible rfl
            try simp only [Act.put, List.getElem_toArray, List.getElem_cons_succ, List.getElem_cons_zero, List.setIfInBounds_toArray, List.set_cons_zero, List.set_cons_succ]
            refine wpAnyH_take (i := 2) (v := ?_) rfl (by kernel_rfl) (by kernel_rfl) (by kernel_rfl) (fun _ _ _ h => h) (Or.inl ⟨by rfl, ?_⟩) (by assumption) ?_
            rotate_left
            · intro w hSw; (try dsimp only at hSw); go_simp <;> with_reducible rfl
            try simp only [Act.put, List.getElem_toArray, List.getElem_cons_succ, List.getElem_cons_zero, List.setIfInBounds_toArray, List.set_cons_zero, List.set_cons_succ]
            refine wpAnyH_take (i := 3) (v := ?_) rfl (by kernel_rfl) (by kernel_rfl) (by kernel_rfl) (fun _ _ _ h => h) (Or.inl ⟨by rfl, ?_⟩) (by assumption) ?_
            rotate_left
            · intro w hSw; (try dsimp only at hSw); go_simp <;> with_reducible rfl
            try simp only [Act.put, List.getElem_toArray, List.getElem_cons_succ, List.getElem_cons_zero, List.setIfInBounds_toArray, List.set_cons_zero, List.set_cons_succ]
            refine wpAnyH_take (i := 4) (v := ?_) rfl (by kernel_rfl) (by kernel_rfl) (by kernel_rfl) (fun _ _ _ h => h) (Or.inl ⟨by rfl, ?_⟩) (by assumption) ?_
            rotate_left
            · intro w hSw; (try dsimp only at hSw); go_simp <;> with_reducible rfl
            try simp only [Act.put, List.getElem_toArray, List.getElem_cons_succ, List.getElem_cons_zero, List.setIfInBounds_toArray, List.set_cons_zero, List.set_cons_succ]
            refine wpAnyH_take (i := 5) (v := ?_) rfl (by kernel_rfl) (by kernel_rfl) (by kernel_rfl) (fun _ _ _ h => h) (Or.inl ⟨by rfl, ?_⟩) (by assumption) ?_
            rotate_left
            · intro w hSw; (try dsimp only at hSw); go_simp <;> with_reducible rfl
            try simp only [Act.put, List.getElem_toArray, List.getElem_cons_succ, List.getElem_cons_zero, List.setIfInBounds_toArray, List.set_cons_zero, List.set_cons_succ]
            refine wpAnyH_take (i := 6) (v := ?_) rfl (by kernel_rfl) (by kernel_rfl) (by kernel_rfl) (fun _ _ _ h => h) (Or.inl ⟨by rfl, ?_⟩) (by assumption) ?_
            rotate_left
            · intro w hSw; (try dsimp only at hSw); go_simp <;> with_reducible rfl
            try simp only [Act.put, List.getElem_toArray, List.getElem_cons_succ, List.getElem_cons_zero, List.setIfInBounds_toArray, List.set_cons_zero, List.set_cons_succ]
            refine wpAnyH_take (i := 7) (v := ?_) rfl (by kernel_rfl) (by kernel_rfl) (by kernel_rfl) (fun _ _ _ h => h) (Or.inl ⟨by rfl, ?_⟩) (by assumption) ?_
            rotate_left
            · intro w hSw; (try dsimp only at hSw); go_simp <;> with_reducible rfl
            try simp only [Act.put, List.getElem_toArray, List.getElem_cons_succ, List.getElem_cons_zero, List.setIfInBounds_toArray, List.set_cons_zero, List.set_cons_succ]
            refine wpAnyH_take (i := 8) (v := ?_) rfl (by kernel_rfl) (by kernel_rfl) (by kernel_rfl) (fun _ _ _ h => h) (Or.inl ⟨by rfl, ?_⟩) (by assumption) ?_
            rotate_left
            · intro w hSw; (try dsimp only at hSw); go_simp <;> with_reducible rfl
            try simp only [Act.put, List.getElem_toArray, List.getElem_cons_succ, List.getElem_cons_zero, List.setIfInBounds_toArray, List.set_cons_zero, List.set_cons_succ]
            refine wpAnyH_take (i := 9) (v := ?_) rfl (by kernel_rfl) (by kernel_rfl) (by kernel_rfl) (fun _ _ _ h => h) (Or.inl ⟨by rfl, ?_⟩) (by assumption) ?_
            rotate_left
            · intro w hSw; (try dsimp only at hSw); go_simp <;> with_reducible rfl
            try simp only [Act.put, List.getElem_toArray, List.getElem_cons_succ, List.getElem_cons_zero, List.setIfInBounds_toArray, List.set_cons_zero, List.set_cons_succ]
            refine wpAnyH_take (i := 10) (v := ?_) rfl (by kernel_rfl) (by kernel_rfl) (by kernel_rfl) (fun _ _ _ h => h) (Or.inl ⟨by rfl, ?_⟩) (by assumption) ?_
            rotate_left
            · intro w hSw; (try dsimp only at hSw); go_simp <;> with_reducible rfl
            try simp only [Act.put, List.getElem_toArray, List.getElem_cons_succ, List.getElem_cons_zero, List.setIfInBounds_toArray, List.set_cons_zero, List.set_cons_succ]
            refine wpAnyH_take (i := 11) (v := ?_) rfl (by kernel_rfl) (by kernel_rfl) (by kernel_rfl) (fun _ _ _ h => h) (Or.inl ⟨by rfl, ?_⟩) (by assumption) ?_
            rotate_left
            · intro w hSw; (try dsimp only at hSw); go_simp <;> with_reducible rfl
            try simp only [Act.put, List.getElem_toArray, List.getElem_cons_succ, List.getElem_cons_zero, List.setIfInBounds_toArray, List.set_cons_zero, List.set_cons_succ]
            refine wpAnyH_take (i := 12) (v := ?_) rfl (by kernel_rfl) (by kernel_rfl) (by kernel_rfl) (fun _ _ _ h => h) (Or.inl ⟨by rfl, ?_⟩) (by assumption) ?_
            rotate_left
            · intro w hSw; (try dsimp only at hSw); go_simp <;> with_reducible rfl
            try simp only [Act.put, List.getElem_toArray, List.getElem_cons_succ, List.getElem_cons_zero, List.setIfInBounds_toArray, List.set_cons_zero, List.set_cons_succ]
            refine wpAnyH_take (i := 13) (v := ?_) rfl (by kernel_rfl) (by kernel_rfl) (by kernel_rfl) (fun _ _ _ h => h) (Or.inl ⟨by rfl, ?_⟩) (by assumption) ?_
            rotate_left
            · intro w hSw; (try dsimp only at hSw); go_simp <;> with_reducible rfl
            try simp only [Act.put, List.getElem_toArray, List.getElem_cons_succ, List.getElem_cons_zero, List.setIfInBounds_toArray, List.set_cons_zero, List.set_cons_succ]
            refine wpAnyH_take (i := 14) (v := ?_) rfl (by kernel_rfl) (by kernel_rfl) (by kernel_rfl) (fun _ _ _ h => h) (Or.inl ⟨by rfl, ?_⟩) (by assumption) ?_
            rotate_left
            · intro w hSw; (try dsimp only at hSw); go_simp <;> with_reducible rfl
            try simp only [Act.put, List.getElem_toArray, List.getElem_cons_succ, List.getElem_cons_zero, List.setIfInBounds_toArray, List.set_cons_zero, List.set_cons_succ]
            refine wpAnyH_take (i := 15) (v := ?_) rfl (by kernel_rfl) (by kernel_rfl) (by kernel_rfl) (fun _ _ _ h => h) (Or.inl ⟨by rfl, ?_⟩) (by assumption) ?_
            rotate_left
            · intro w hSw; (try dsimp only at hSw); go_simp <;> with_reducible rfl
            try simp only [Act.put, List.getElem_toArray, List.getElem_cons_succ, List.getElem_cons_zero, List.setIfInBounds_toArray, List.set_cons_zero, List.set_cons_succ]
            refine wpAnyH_take (i := 16) (v := ?_) rfl (by kernel_rfl) (by kernel_rfl) (by kernel_rfl) (fun _ _ _ h => h) (Or.inl ⟨by rfl, ?_⟩) (by assumption) ?_
            rotate_left
            · intro w hSw; (try dsimp only at hSw); go_simp <;> with_reducible rfl
            try simp only [Act.put, List.getElem_toArray, List.getElem_cons_succ, List.getElem_cons_zero, List.setIfInBounds_toArray, List.set_cons_zero, List.set_cons_succ]
            refine wpAnyH_take (i := 17) (v := ?_) rfl (by kernel_rfl) (by kernel_rfl) (by kernel_rfl) (fun _ _ _ h => h) (Or.inl ⟨by rfl, ?_⟩) (by assumption) ?_
            rotate_left
            · intro w hSw; (try dsimp only at hSw); go_simp <;> with_reducible rfl
            try simp only [Act.put, List.getElem_toArray, List.getElem_cons_succ, List.getElem_cons_zero, List.setIfInBounds_toArray, List.set_cons_zero, List.set_cons_succ]
            refine wpAnyH_take (i := 18) (v := ?_) rfl (by kernel_rfl) (by kernel_rfl) (by kernel_rfl) (fun _ _ _ h => h) (Or.inl ⟨by rfl, ?_⟩) (by assumption) ?_
            rotate_left
            · intro w hSw; (try dsimp only at hSw); go_simp <;> with_reducible rfl
            try simp only [Act.put, List.getElem_toArray, List.getElem_cons_succ, List.getElem_cons_zero, List.setIfInBounds_toArray, List.set_cons_zero, List.set_cons_succ]
            refine wpAnyH_take (i := 19) (v := ?_) rfl (by kernel_rfl) (by kernel_rfl) (by kernel_rfl) (fun _ _ _ h => h) (Or.inl ⟨by rfl, ?_⟩) (by assumption) ?_
            rotate_left
            · intro w hSw; (try dsimp only at hSw); go_simp <;> with_reducible rfl
            try simp only [Act.put, List.getElem_toArray, List.getElem_cons_succ, List.getElem_cons_zero, List.setIfInBounds_toArray, List.set_cons_zero, List.set_cons_succ]
            refine wpAnyH_take (i := 20) (v := ?_) rfl (by kernel_rfl) (by kernel_rfl) (by kernel_rfl) (fun _ _ _ h => h) (Or.inl ⟨by rfl, ?_⟩) (by assumption) ?_
            rotate_left
            · intro w hSw; (try dsimp only at hSw); go_simp <;> with_reducible rfl
            try simp only [Act.put, List.getElem_toArray, List.getElem_cons_succ, List.getElem_cons_zero, List.setIfInBounds_toArray, List.set_cons_zero, List.set_cons_succ]
            refine wpAnyH_take (i := 21) (v := ?_) rfl (by kernel_rfl) (by kernel_rfl) (by kernel_rfl) (fun _ _ _ h => h) (Or.inl ⟨by rfl, ?_⟩) (by assumption) ?_
            rotate_left
            · intro w hSw; (try dsimp only at hSw); go_simp <;> with_reducible rfl
            try simp only [Act.put, List.getElem_toArray, List.getElem_cons_succ, List.getElem_cons_zero, List.setIfInBounds_toArray, List.set_cons_zero, List.set_cons_succ]
            refine wpAnyH_take (i := 22) (v := ?_) rfl (by kernel_rfl) (by kernel_rfl) (by kernel_rfl) (fun _ _ _ h => h) (Or.inl ⟨by rfl, ?_⟩) (by assumption) ?_
            rotate_left
            · intro w hSw; (try dsimp only at hSw); go_simp <;> with_reducible rfl
            try simp only [Act.put, List.getElem_toArray, List.getElem_cons_succ, List.getElem_cons_zero, List.setIfInBounds_toArray, List.set_cons_zero, List.set_cons_succ]
            refine wpAnyH_take (i := 23) (v := ?_) rfl (by kernel_rfl) (by kernel_rfl) (by kernel_rfl) (fun _ _ _ h => h) (Or.inl ⟨by rfl, ?_⟩) (by assumption) ?_
            rotate_left
            · intro w hSw; (try dsimp only at hSw); go_simp <;> with_reducible rfl
            try simp only [Act.put, List.getElem_toArray, List.getElem_cons_succ, List.getElem_cons_zero, List.setIfInBounds_toArray, List.set_cons_zero, List.set_cons_succ]
            refine wpAnyH_done (by kernel_rfl) ?_ _
            clear r0 r1 r2 a0 a1 a2 s0 d0 d1 hD2 hD4
            generalize w2.drew = w3 at S3 ⊢
            obtain ⟨⟨r0, r1, r2, a0, a1, a2⟩, s0⟩ := HC.out _ _ S3.out
            go_wp2_with fail
            refine (HX1.out _ S3.out.bel s0).mono ?_
            rintro e w4 ⟨vA, rfl, ho, hb⟩
            have S4 := Lib.hid (S3.out.step hb)
            obtain ⟨aA, cA, hvA⟩ := ho.rd.form
            subst hvA
            have HOW := Lib.hid ho
            rw [HAXL.out] at HOW ⊢
            obtain ⟨g, hAg, hgl, hgh⟩ : ∃ g, aA = some ⟨g, 0, none⟩ ∧ w3.heap.size ≤ g ∧ g < w4.heap.size := by
              rcases HOW.out.1.2 with ⟨-, h0⟩ | ⟨g, ca, cur, e, hlo, hg, -⟩
              · have h9 := HAXL.out; omega
              · injection e with e
                exact ⟨g, e, hlo, HOW.out.2.1 g (by rw [e]; rfl)⟩
            subst hAg
            have HOR : Hid (w4.ownsRow w3.heap.size 85 3 (.slice (some ⟨g, 0, none⟩) m cA) m (cellsA AX)) := Lib.hid (by have h := HOW.out.1; rw [HAXL.out] at h; exact h)
            have hmc : m ≤ cA := own_capA HOR.out
            have hs3 : w.heap.size + 1 + 1 < w3.heap.size := (S3.out.bx (w.heap.size + 1 + 1, nilV, nilV, nilV) (by simp)).lt
            have hbg : ∀ b ∈ [(w.heap.size + 1 + 1, nilV, nilV, nilV), (w.heap.size + 1, .slice al m cl, .slice (some ⟨bD, oD, none⟩) m cd, .slice ax m3 cx), (w.heap.size, .int .i64 k, .int .i64 p, .int .i64 q)], b.1 ≠ g := fun b hb e => by have h := (S3.out.bx b hb).lt; omega
            obtain ⟨-, -, c0⟩ := cellsA_at HAI.out
            obtain ⟨-, -, c1⟩ := cellsA_at HAJ.out
            have x0 : w4.cell? ⟨g, i * 3 + 2, none⟩ = some (.int .i64 si) := by rw [HOR.out.cellAt _ (by omega)]; exact c0
            have x1 : w4.cell? ⟨g, j * 3 + 2, none⟩ = some (.int .i64 sj) := by rw [HOR.out.cellAt _ (by omega)]; exact c1
            have x2 : w4.frozen? ⟨g, i * 3 + 2, none⟩ = false := HOR.out.frozenAt _
            have hws : wrap64 (si + sj) = si + sj := by unfold wrap64; omega
            clear c0 c1 ho hb HX1 r0 r1 r2 a0 a1 a2 s0
            go_wp2_with fail
            go_still_tail 13, (by kernel_rfl)
            change wpList _ _ _ _ _ w4.drew
            go_wp2_with fail
            have HO5 : Hid ((w4.setCell ⟨g, i * 3 + 2, none⟩ (.int .i64 (si + sj))).drew.ownsRow w3.heap.size 85 3 (.slice (some ⟨g, 0, none⟩) m cA) m (cellsA (AX.set i (a, di, si + sj)))) := Lib.hid (by
              have h := (HOR.out.stored (i * 3 + 2) (.int .i64 (si + sj))).1
              rw [cellsA_last HAI.out] at h
              exact h.drew)
            have S5 := Lib.hid ((S4.out.elseG (grownBy_set w4 g (i * 3 + 2) (.int .i64 (si + sj))) (by omega) hbg (fun r hr => by simp at hr)).drew)
            have HG5 : Hid (g < (w4.setCell ⟨g, i * 3 + 2, none⟩ (.int .i64 (si + sj))).drew.heap.size) := Lib.hid (by simpa using hgh)
            generalize (w4.setCell ⟨g, i * 3 + 2, none⟩ (.int .i64 (si + sj))).drew = w5 at HO5 S5 HG5 ⊢
            clear x0 x1 x2 hws S3 S4 HOR HOW hgh
            obtain ⟨jn, hjn⟩ : ∃ n, n = j + 1 := ⟨_, rfl⟩
            have hjw : IntKind.i64.wrap ((j : Int) + 1) = (jn : Int) := by rw [IntWalk.i64_in _ (by omega)]; omega
            have HJN := Lib.hid hjn
            have HSL : Hid ((AX.set i (a, di, si + sj)).length = m) := Lib.hid (by rw [List.length_set]; exact HAXL.out)
            have HX2L : Hid (AX2.length = m - 1) := Lib.hid (by rw [← HDX.out, List.length_eraseIdx_of_lt (by rw [HSL.out]; exact hjm), HSL.out])
            have HOD := Lib.hid HO5.out.drew
            have HGD : Hid (g < w5.drew.heap.size) := Lib.hid (by simpa using HG5.out)
            have RX := Lib.hid S5.out.drew
            obtain ⟨⟨r0, r1, r2, a0, a1, a2⟩, s0⟩ := HC.out _ _ RX.out
            clear hjn HO5 S5 HG5
            go_wp2_with fail
            refine wp_region_held_drew (S := (fun W => (W.cell? ⟨w.heap.size, 0, none⟩ = some (.int .i64 k) ∧ W.cell? ⟨w.heap.size, 1, none⟩ = some (.int .i64 p) ∧ W.cell? ⟨w.heap.size, 2, none⟩ = some (.int .i64 q) ∧ W.cell? ⟨w.heap.size + 1, 0, none⟩ = some (.slice al m cl) ∧ W.cell? ⟨w.heap.size + 1, 1, none⟩ = some (.slice (some ⟨bD, oD, none⟩) m cd) ∧ W.cell? ⟨w.heap.size + 1, 2, none⟩ = some (.slice ax m3 cx)))) (by kernel_rfl) (by (try dsimp only); with_reducible exact ⟨r0, r1, r2, a0, a1, a2⟩) (fun hHeld => ?_)
            refine wpAnyH_take (i := 0) (v := ?_) rfl (by kernel_rfl) (by kernel_rfl) (by kernel_rfl) (fun _ _ _ h => h) (Or.inl ⟨by rfl, ?_⟩) (by assumption) ?_
            rotate_left
            · intro w hSw; (try dsimp only at hSw); go_simp <;> with_reducible rfl
            try simp only [Act.put, List.getElem_toArray, List.getElem_cons_zero, List.setIfInBounds_toArray, List.set_cons_zero, List.set_cons_succ]
            refine wpAnyH_take (i := 1) (v := ?_) rfl (by kernel_rfl) (by kernel_rfl) (by kernel_rfl) (fun _ _ _ h => h) (Or.inl ⟨by rfl, ?_⟩) (by assumption) ?_
            rotate_left
            · intro w hSw; (try dsimp only at hSw); go_simp <;> with_reducible rfl
            try simp only [Act.put, List.getElem_toArray, List.getElem_cons_succ, List.getElem_cons_zero, List.setIfInBounds_toArray, List.set_cons_zero, List.set_cons_succ]
            refine wpAnyH_take (i := 2) (v := ?_) rfl (by kernel_rfl) (by kernel_rfl) (by kernel_rfl) (fun _ _ _ h => h) (Or.inl ⟨by rfl, ?_⟩) (by assumption) ?_
            rotate_left
            · intro w hSw; (try dsimp only at hSw); go_simp <;> with_reducible rfl
            try simp only [Act.put, List.getElem_toArray, List.getElem_cons_succ, List.getElem_cons_zero, List.setIfInBounds_toArray, List.set_cons_zero, List.set_cons_succ]
            refine wpAnyH_take (i := 3) (v := ?_) rfl (by kernel_rfl) (by kernel_rfl) (by kernel_rfl) (fun _ _ _ h => h) (Or.inl ⟨by rfl, ?_⟩) (by assumption) ?_
            rotate_left
            · intro w hSw; (try dsimp only at hSw); go_simp <;> with_reducible rfl
            try simp only [Act.put, List.getElem_toArray, List.getElem_cons_succ, List.getElem_cons_zero, List.setIfInBounds_toArray, List.set_cons_zero, List.set_cons_succ]
            refine wpAnyH_take (i := 4) (v := ?_) rfl (by kernel_rfl) (by kernel_rfl) (by kernel_rfl) (fun _ _ _ h => h) (Or.inl ⟨by rfl, ?_⟩) (by assumption) ?_
            rotate_left
            · intro w hSw; (try dsimp only at hSw); go_simp <;> with_reducible rfl
            try simp only [Act.put, List.getElem_toArray, List.getElem_cons_succ, List.getElem_cons_zero, List.setIfInBounds_toArray, List.set_cons_zero, List.set_cons_succ]
            refine wpAnyH_take (i := 5) (v := ?_) rfl (by kernel_rfl) (by kernel_rfl) (by kernel_rfl) (fun _ _ _ h => h) (Or.inl ⟨by rfl, ?_⟩) (by assumption) ?_
            rotate_left
            · intro w hSw; (try dsimp only at hSw); go_simp <;> with_reducible rfl
            try simp only [Act.put, List.getElem_toArray, List.getElem_cons_succ, List.getElem_cons_zero, List.setIfInBounds_toArray, List.set_cons_zero, List.set_cons_succ]
            refine wpAnyH_ready (rs := [6]) (by kernel_rfl) (by simp) ?_
            refine AllReadyH.cons rfl (fun K hK => ?_) AllReadyH.nil
            go_simp
            (go_at_call 65; refine (delete_axis (j' := jn) HSL.out (by omega) hjm HJN.out hmc HOD.out).mono ?_; rintro e w6 ⟨rfl, hcs, hgr⟩; replace RX := Lib.hid (RX.out.elseG hgr (by omega) hbg (fun r hr => by simp at hr)); have RA : Hid (RdA w6.heap.size w6 (.slice (some ⟨g, 0, none⟩) (m - 1) cA) AX2) := Lib.hid (.inr ⟨g, 0, cA, by rw [HX2L.out], Nat.lt_of_lt_of_le HGD.out hgr.size, fun t x ht => by rw [Nat.zero_add]; exact hcs t x (by rw [HDX.out]; exact ht)⟩); clear hcs hgr; clear r0 r1 r2 a0 a1 a2 s0; obtain ⟨⟨r0, r1, r2, a0, a1, a2⟩, s0⟩ := HC.out _ _ RX.out)
            go_wp2_with fail
            refine hK.out _ _ (by (try dsimp only); with_reducible exact ⟨r0, r1, r2, a0, a1, a2⟩) (fun hHeld => ?_)
            clear hK K
            try simp only [Act.put, List.getElem_toArray, List.getElem_cons_succ, List.getElem_cons_zero, List.setIfInBounds_toArray, List.set_cons_zero, List.set_cons_succ]
            refine wpAnyH_ready (rs := [7]) (by kernel_rfl) (by simp) ?_
            refine AllReadyH.cons rfl (fun K hK => ?_) AllReadyH.nil
            go_simp
            (go_at_call 64; refine (HAL.out _ _ _ _ (HA.out.below RX.out.bel (Nat.le_refl _)) RA.out RX.out.bel.size (Nat.le_refl _)).mono ?_; rintro e w7 ⟨u1, u2, u3, rfl, ho, hb⟩; obtain ⟨x1, n1, y1, rfl⟩ := (show Own _ _ _ u1 zl from ho.1 (u1, zl) (by simp)).slice; obtain ⟨x2, n2, y2, rfl⟩ := (show Own _ _ _ u2 zd from ho.1 (u2, zd) (by simp)).slice; obtain ⟨x3, n3, y3, rfl⟩ := (show Own _ _ _ u3 zx from ho.1 (u3, zx) (by simp)).slice; replace RX := Lib.hid (RX.out.new3 hb ho); clear ho hb; clear r0 r1 r2 a0 a1 a2 s0; obtain ⟨⟨r0, r1, r2, a0, a1, a2⟩, s0⟩ := HC.out _ _ RX.out)
            go_wp2_with fail
            refine hK.out _ _ (by (try dsimp only); with_reducible exact ⟨r0, r1, r2, a0, a1, a2⟩) (fun hHeld => ?_)
            clear hK K
            try simp only [Act.put, List.getElem_toArray, List.getElem_cons_succ, List.getElem_cons_zero, List.setIfInBounds_toArray, List.set_cons_zero, List.set_cons_succ]
            refine wpAnyH_ready (rs := [8]) (by kernel_rfl) (by simp) ?_
            refine AllReadyH.cons rfl (fun K hK => ?_) AllReadyH.nil
            (clear r0 r1 r2 a0 a1 a2 s0; obtain ⟨⟨r0, r1, r2, a0, a1, a2⟩, s0⟩ := HC.out _ _ RX.out; obtain ⟨⟨o0, o1, o2⟩, g0, g1, g2⟩ := RX.out.at List.mem_cons_self)
            go_simp
            (clear o0 o1 o2 g0 g1 g2; replace RX := Lib.hid (RX.out.set3 (.slice x1 n1 y1) (.slice x2 n2 y2) (.slice x3 n3 y3)); clear r0 r1 r2 a0 a1 a2; obtain ⟨⟨r0, r1, r2⟩, -⟩ := RX.out.at (r := w.heap.size) (a := .int .i64 k) (b := .int .i64 p) (c := .int .i64 q) (by simp); obtain ⟨⟨a0, a1, a2⟩, -⟩ := RX.out.at (r := w.heap.size + 1) (a := .slice al m cl) (b := .slice (some ⟨bD, oD, none⟩) m cd) (c := .slice ax m3 cx) (by simp))
            refine hK.out _ _ (by (try dsimp only); with_reducible exact ⟨r0, r1, r2, a0, a1, a2⟩) (fun hHeld => ?_)
            clear hK K
            try simp only [Act.put, List.getElem_toArray, List.getElem_cons_succ, List.getElem_cons_zero, List.setIfInBounds_toArray, List.set_cons_zero, List.set_cons_succ]
            refine wpAnyH_take (i := 9) (v := ?_) rfl (by kernel_rfl) (by kernel_rfl) (by kernel_rfl) (fun _ _ _ h => h) (Or.inl ⟨by rfl, ?_⟩) (by assumption) ?_
            rotate_left
            · intro w hSw; (try dsimp only at hSw); go_simp <;> with_reducible rfl
            try simp only [Act.put, List.getElem_toArray, List.getElem_cons_succ, List.getElem_cons_zero, List.setIfInBounds_toArray, List.set_cons_zero, List.set_cons_succ]
            refine wpAnyH_done (by kernel_rfl) ?_ _
            all_goals
              clear r0 r1 r2 a0 a1 a2 s0
              obtain ⟨⟨o0, o1, o2⟩, -⟩ := RX.out.at List.mem_cons_self
              go_wp2
              refine bodyPost_ret (v := .tuple #[tenV (.slice x1 n1 y1) (.slice x2 n2 y2) (.slice x3 n3 y3), .bool true]) (by simp [results, Tryz.results24, go_sem, o0, o1, o2]) rfl ?_
              exact ⟨_, _, _, rfl, RX.out.ownG, RX.out.bel⟩
          · obtain rfl : zb = false := by
              rw [hzb]; unfold diagB
              rw [hgi, hgj, decide_eq_false hdd]; simp
            have qd : (di != dj) = true := by simpa using hdd
            clear hzb ht1 hax hrb hw hF hP hia hib hfa hfb hi hj hm hm2 hdi hdj hgi hgj
            simp only [Bool.false_eq_true, if_false] at hzl hzd hzx
            subst hzl hzd hzx
            go_enter Tryz.func24, Tryz.ntmps24
            go_wp2_with fail
            refine HT1.out.mono ?_
            rintro e w1 ⟨rfl, hb⟩
            have S1 := Lib.hid (S0.out.step hb)
            clear hb HT1 r0 r1 r2 a0 a1 a2 s0
            have S2 := Lib.hid S1.out.drew
            have TK1 : True := trivial
            have TK2 : True := trivial
            obtain ⟨⟨r0, r1, r2, a0, a1, a2⟩, s0⟩ := HC.out _ _ S2.out
            go_wp2_with fail
            go_region_held3 (fun W => (W.cell? ⟨w.heap.size, 0, none⟩ = some (.int .i64 k) ∧ W.cell? ⟨w.heap.size, 1, none⟩ = some (.int .i64 p) ∧ W.cell? ⟨w.heap.size, 2, none⟩ = some (.int .i64 q) ∧ W.cell? ⟨w.heap.size + 1, 0, none⟩ = some (.slice al m cl) ∧ W.cell? ⟨w.heap.size + 1, 1, none⟩ = some (.slice ad m cd) ∧ W.cell? ⟨w.heap.size + 1, 2, none⟩ = some (.slice ax m3 cx))) (exact ⟨r0, r1, r2, a0, a1, a2⟩) (first
              | (go_at_call 63; have _t := TK1; refine (HI1.out _ S2.out.bel).mono ?_; rintro e w2 ⟨rfl, rfl⟩; clear TK1 _t)
              | (go_at_call 63; have _t := TK2; refine (HI2.out _ S2.out.bel).mono ?_; rintro e w2 ⟨rfl, rfl⟩; clear TK2 _t))
            clear r0 r1 r2 a0 a1 a2 s0 HI1 HI2 S1
            generalize w1.drew = w2 at S2 ⊢
            have S3 := Lib.hid S2.out.drew
            obtain ⟨⟨r0, r1, r2, a0, a1, a2⟩, s0⟩ := HC.out _ _ S3.out
            obtain ⟨bD, oD, hD1, -, hD2⟩ := (HA.out.below S3.out.bel (Nat.le_refl _)).d.cellAt HDI.out
            obtain ⟨bD2, oD2, hD3, -, hD4⟩ := (HA.out.below S3.out.bel (Nat.le_refl _)).d.cellAt HDJ.out
            subst hD1
            cases hD3
            have d0 := hD2
            have d1 := hD4
            go_wp2_with fail
            refine wp_region_held_drew (S := (fun W => (W.cell? ⟨w.heap.size, 0, none⟩ = some (.int .i64 k) ∧ W.cell? ⟨w.heap.size, 1, none⟩ = some (.int .i64 p) ∧ W.cell? ⟨w.heap.size, 2, none⟩ = some (.int .i64 q) ∧ W.cell? ⟨w.heap.size + 1, 0, none⟩ = some (.slice al m cl) ∧ W.cell? ⟨w.heap.size + 1, 1, none⟩ = some (.slice (some ⟨bD, oD, none⟩) m cd) ∧ W.cell? ⟨w.heap.size + 1, 2, none⟩ = some (.slice ax m3 cx)) ∧ W.cell? ⟨bD, oD + i, none⟩ = some (.int .i64 di) ∧ W.cell? ⟨bD, oD + j, none⟩ = some (.int .i64 dj))) (by kernel_rfl) (by (try dsimp only); exact ⟨⟨r0, r1, r2, a0, a1, a2⟩, d0, d1⟩) (fun hHeld => ?_)
            refine wpAnyH_take (i := 0) (v := ?_) rfl (by kernel_rfl) (by kernel_rfl) (by kernel_rfl) (fun _ _ _ h => h) (Or.inl ⟨by rfl, ?_⟩) (by assumption) ?_
            rotate_left
            · intro w hSw; (try dsimp only at hSw); go_simp <;> with_reducible rfl
            try simp only [Act.put, List.getElem_toArray, List.getElem_cons_zero, List.setIfInBounds_toArray, List.set_cons_zero, List.set_cons_succ]
            refine wpAnyH_take (i := 1) (v := ?_) rfl (by kernel_rfl) (by kernel_rfl) (by kernel_rfl) (fun _ _ _ h => h) (Or.inl ⟨by rfl, ?_⟩) (by assumption) ?_
            rotate_left
            · intro w hSw; (try dsimp only at hSw); go_simp <;> with_reducible rfl
            try simp only [Act.put, List.getElem_toArray, List.getElem_cons_succ, List.getElem_cons_zero, List.setIfInBounds_toArray, List.set_cons_zero, List.set_cons_succ]
            refine wpAnyH_take (i := 2) (v := ?_) rfl (by kernel_rfl) (by kernel_rfl) (by kernel_rfl) (fun _ _ _ h => h) (Or.inl ⟨by rfl, ?_⟩) (by assumption) ?_
            rotate_left
            · intro w hSw; (try dsimp only at hSw); go_simp <;> with_reducible rfl
            try simp only [Act.put, List.getElem_toArray, List.getElem_cons_succ, List.getElem_cons_zero, List.setIfInBounds_toArray, List.set_cons_zero, List.set_cons_succ]
            refine wpAnyH_take (i := 3) (v := ?_) rfl (by kernel_rfl) (by kernel_rfl) (by kernel_rfl) (fun _ _ _ h => h) (Or.inl ⟨by rfl, ?_⟩) (by assumption) ?_
            rotate_left
            · intro w hSw; (try dsimp only at hSw); go_simp <;> with_reducible rfl
            try simp only [Act.put, List.getElem_toArray, List.getElem_cons_succ, List.getElem_cons_zero, List.setIfInBounds_toArray, List.set_cons_zero, List.set_cons_succ]
            refine wpAnyH_take (i := 4) (v := ?_) rfl (by kernel_rfl) (by kernel_rfl) (by kernel_rfl) (fun _ _ _ h => h) (Or.inl ⟨by rfl, ?_⟩) (by assumption) ?_
            rotate_left
            · intro w hSw; (try dsimp only at hSw); go_simp <;> with_reducible rfl
            try simp only [Act.put, List.getElem_toArray, List.getElem_cons_succ, List.getElem_cons_zero, List.setIfInBounds_toArray, List.set_cons_zero, List.set_cons_succ]
            refine wpAnyH_take (i := 5) (v := ?_) rfl (by kernel_rfl) (by kernel_rfl) (by kernel_rfl) (fun _ _ _ h => h) (Or.inl ⟨by rfl, ?_⟩) (by assumption) ?_
            rotate_left
            · intro w hSw; (try dsimp only at hSw); go_simp <;> with_reducible rfl
            try simp only [Act.put, List.getElem_toArray, List.getElem_cons_succ, List.getElem_cons_zero, List.setIfInBounds_toArray, List.set_cons_zero, List.set_cons_succ]
            refine wpAnyH_take (i := 6) (v := ?_) rfl (by kernel_rfl) (by kernel_rfl) (by kernel_rfl) (fun _ _ _ h => h) (Or.inl ⟨by rfl, ?_⟩) (by assumption) ?_
            rotate_left
            · intro w hSw; (try dsimp only at hSw); go_simp <;> with_reducible rfl
            try simp only [Act.put, List.getElem_toArray, List.getElem_cons_succ, List.getElem_cons_zero, List.setIfInBounds_toArray, List.set_cons_zero, List.set_cons_succ]
            refine wpAnyH_take (i := 7) (v := ?_) rfl (by kernel_rfl) (by kernel_rfl) (by kernel_rfl) (fun _ _ _ h => h) (Or.inl ⟨by rfl, ?_⟩) (by assumption) ?_
            rotate_left
            · intro w hSw; (try dsimp only at hSw); go_simp <;> with_reducible rfl
            try simp only [Act.put, List.getElem_toArray, List.getElem_cons_succ, List.getElem_cons_zero, List.setIfInBounds_toArray, List.set_cons_zero, List.set_cons_succ]
            refine wpAnyH_take (i := 8) (v := ?_) rfl (by kernel_rfl) (by kernel_rfl) (by kernel_rfl) (fun _ _ _ h => h) (Or.inl ⟨by rfl, ?_⟩) (by assumption) ?_
            rotate_left
            · intro w hSw; (try dsimp only at hSw); go_simp <;> with_reducible rfl
            try simp only [Act.put, List.getElem_toArray, List.getElem_cons_succ, List.getElem_cons_zero, List.setIfInBounds_toArray, List.set_cons_zero, List.set_cons_succ]
            refine wpAnyH_take (i := 9) (v := ?_) rfl (by kernel_rfl) (by kernel_rfl) (by kernel_rfl) (fun _ _ _ h => h) (Or.inl ⟨by rfl, ?_⟩) (by assumption) ?_
            rotate_left
            · intro w hSw; (try dsimp only at hSw); go_simp <;> with_reducible rfl
            try simp only [Act.put, List.getElem_toArray, List.getElem_cons_succ, List.getElem_cons_zero, List.setIfInBounds_toArray, List.set_cons_zero, List.set_cons_succ]
            refine wpAnyH_take (i := 10) (v := ?_) rfl (by kernel_rfl) (by kernel_rfl) (by kernel_rfl) (fun _ _ _ h => h) (Or.inl ⟨by rfl, ?_⟩) (by assumption) ?_
            rotate_left
            · intro w hSw; (try dsimp only at hSw); go_simp <;> with_reducible rfl
            try simp only [Act.put, List.getElem_toArray, List.getElem_cons_succ, List.getElem_cons_zero, List.setIfInBounds_toArray, List.set_cons_zero, List.set_cons_succ]
            refine wpAnyH_take (i := 11) (v := ?_) rfl (by kernel_rfl) (by kernel_rfl) (by kernel_rfl) (fun _ _ _ h => h) (Or.inl ⟨by rfl, ?_⟩) (by assumption) ?_
            rotate_left
            · intro w hSw; (try dsimp only at hSw); go_simp <;> with_reducible rfl
            try simp only [Act.put, List.getElem_toArray, List.getElem_cons_succ, List.getElem_cons_zero, List.setIfInBounds_toArray, List.set_cons_zero, List.set_cons_succ]
            refine wpAnyH_take (i := 12) (v := ?_) rfl (by kernel_rfl) (by kernel_rfl) (by kernel_rfl) (fun _ _ _ h => h) (Or.inl ⟨by rfl, ?_⟩) (by assumption) ?_
            rotate_left
            · intro w hSw; (try dsimp only at hSw); go_simp <;> with_reducible rfl
            try simp only [Act.put, List.getElem_toArray, List.getElem_cons_succ, List.getElem_cons_zero, List.setIfInBounds_toArray, List.set_cons_zero, List.set_cons_succ]
            refine wpAnyH_take (i := 13) (v := ?_) rfl (by kernel_rfl) (by kernel_rfl) (by kernel_rfl) (fun _ _ _ h => h) (Or.inl ⟨by rfl, ?_⟩) (by assumption) ?_
            rotate_left
            · intro w hSw; (try dsimp only at hSw); go_simp <;> with_reducible rfl
            try simp only [Act.put, List.getElem_toArray, List.getElem_cons_succ, List.getElem_cons_zero, List.setIfInBounds_toArray, List.set_cons_zero, List.set_cons_succ]
            refine wpAnyH_take (i := 14) (v := ?_) rfl (by kernel_rfl) (by kernel_rfl) (by kernel_rfl) (fun _ _ _ h => h) (Or.inl ⟨by rfl, ?_⟩) (by assumption) ?_
            rotate_left
            · intro w hSw; (try dsimp only at hSw); go_simp <;> with_reducible rfl
            try simp only [Act.put, List.getElem_toArray, List.getElem_cons_succ, List.getElem_cons_zero, List.setIfInBounds_toArray, List.set_cons_zero, List.set_cons_succ]
            refine wpAnyH_take (i := 15) (v := ?_) rfl (by kernel_rfl) (by kernel_rfl) (by kernel_rfl) (fun _ _ _ h => h) (Or.inl ⟨by rfl, ?_⟩) (by assumption) ?_
            rotate_left
            · intro w hSw; (try dsimp only at hSw); go_simp <;> with_reducible rfl
            try simp only [Act.put, List.getElem_toArray, List.getElem_cons_succ, List.getElem_cons_zero, List.setIfInBounds_toArray, List.set_cons_zero, List.set_cons_succ]
            refine wpAnyH_take (i := 16) (v := ?_) rfl (by kernel_rfl) (by kernel_rfl) (by kernel_rfl) (fun _ _ _ h => h) (Or.inl ⟨by rfl, ?_⟩) (by assumption) ?_
            rotate_left
            · intro w hSw; (try dsimp only at hSw); go_simp <;> with_reducible rfl
            try simp only [Act.put, List.getElem_toArray, List.getElem_cons_succ, List.getElem_cons_zero, List.setIfInBounds_toArray, List.set_cons_zero, List.set_cons_succ]
            refine wpAnyH_take (i := 17) (v := ?_) rfl (by kernel_rfl) (by kernel_rfl) (by kernel_rfl) (fun _ _ _ h => h) (Or.inl ⟨by rfl, ?_⟩) (by assumption) ?_
            rotate_left
            · intro w hSw; (try dsimp only at hSw); go_simp <;> with_reducible rfl
            try simp only [Act.put, List.getElem_toArray, List.getElem_cons_succ, List.getElem_cons_zero, List.setIfInBounds_toArray, List.set_cons_zero, List.set_cons_succ]
            refine wpAnyH_take (i := 18) (v := ?_) rfl (by kernel_rfl) (by kernel_rfl) (by kernel_rfl) (fun _ _ _ h => h) (Or.inl ⟨by rfl, ?_⟩) (by assumption) ?_
            rotate_left
            · intro w hSw; (try dsimp only at hSw); go_simp <;> with_reducible rfl
            try simp only [Act.put, List.getElem_toArray, List.getElem_cons_succ, List.getElem_cons_zero, List.setIfInBounds_toArray, List.set_cons_zero, List.set_cons_succ]
            refine wpAnyH_take (i := 19) (v := ?_) rfl (by kernel_rfl) (by kernel_rfl) (by kernel_rfl) (fun _ _ _ h => h) (Or.inl ⟨by rfl, ?_⟩) (by assumption) ?_
            rotate_left
            · intro w hSw; (try dsimp only at hSw); go_simp <;> with_reducible rfl
            try simp only [Act.put, List.getElem_toArray, List.getElem_cons_succ, List.getElem_cons_zero, List.setIfInBounds_toArray, List.set_cons_zero, List.set_cons_succ]
            refine wpAnyH_take (i := 20) (v := ?_) rfl (by kernel_rfl) (by kernel_rfl) (by kernel_rfl) (fun _ _ _ h => h) (Or.inl ⟨by rfl, ?_⟩) (by assumption) ?_
            rotate_left
            · intro w hSw; (try dsimp only at hSw); go_simp <;> with_reducible rfl
            try simp only [Act.put, List.getElem_toArray, List.getElem_cons_succ, List.getElem_cons_zero, List.setIfInBounds_toArray, List.set_cons_zero, List.set_cons_succ]
            refine wpAnyH_take (i := 21) (v := ?_) rfl (by kernel_rfl) (by kernel_rfl) (by kernel_rfl) (fun _ _ _ h => h) (Or.inl ⟨by rfl, ?_⟩) (by assumption) ?_
            rotate_left
            · intro w hSw; (try dsimp only at hSw); go_simp <;> with_reducible rfl
            try simp only [Act.put, List.getElem_toArray, List.getElem_cons_succ, List.getElem_cons_zero, List.setIfInBounds_toArray, List.set_cons_zero, List.set_cons_succ]
            refine wpAnyH_take (i := 22) (v := ?_) rfl (by kernel_rfl) (by kernel_rfl) (by kernel_rfl) (fun _ _ _ h => h) (Or.inl ⟨by rfl, ?_⟩) (by assumption) ?_
            rotate_left
            · intro w hSw; (try dsimp only at hSw); go_simp <;> with_reducible rfl
            try simp only [Act.put, List.getElem_toArray, List.getElem_cons_succ, List.getElem_cons_zero, List.setIfInBounds_toArray, List.set_cons_zero, List.set_cons_succ]
            refine wpAnyH_take (i := 23) (v := ?_) rfl (by kernel_rfl) (by kernel_rfl) (by kernel_rfl) (fun _ _ _ h => h) (Or.inl ⟨by rfl, ?_⟩) (by assumption) ?_
            rotate_left
            · intro w hSw; (try dsimp only at hSw); go_simp <;> with_reducible rfl
            try simp only [Act.put, List.getElem_toArray, List.getElem_cons_succ, List.getElem_cons_zero, List.setIfInBounds_toArray, List.set_cons_zero, List.set_cons_succ]
            refine wpAnyH_done (by kernel_rfl) ?_ _
            clear r0 r1 r2 a0 a1 a2 s0 d0 d1 hD2 hD4
            generalize w2.drew = w3 at S3 ⊢
            obtain ⟨⟨t0, t1, t2⟩, f0, f1, f2⟩ := S3.out.at (r := w.heap.size + 1 + 1) (a := nilV) (b := nilV) (c := nilV) (by simp)
            go_wp2
            refine bodyPost_ret (v := .tuple #[tenV nilV nilV nilV, .bool false]) (by simp [results, Tryz.results24, go_sem, t0, t1, t2]) rfl ?_
            exact NewTen2.nils (((S3.out.bel.setCell (by show w.heap.size ≤ w.heap.size + 1 + 1; omega) _).setCell (by show w.heap.size ≤ w.heap.size + 1 + 1; omega) _).setCell (by show w.heap.size ≤ w.heap.size + 1 + 1; omega) _)
      · obtain rfl : zb = false := by rw [hzb]; unfold diagB; rw [decide_eq_false (show ¬ 0 ≤ findI L b by have := findI_neg.2 hib; omega)]; simp
        have hfb : findI L b = -1 := by unfold findI; rw [if_neg hib]
        rw [hfb] at HI2
        clear hzb ht1 hax hrb hw hF hP hia hib hfa hfb hi hm hm2
        simp only [Bool.false_eq_true, if_false] at hzl hzd hzx
        subst hzl hzd hzx
        go_enter Tryz.func24, Tryz.ntmps24
        go_wp2_with fail
        refine HT1.out.mono ?_
        rintro e w1 ⟨rfl, hb⟩
        have S1 := Lib.hid (S0.out.step hb)
        clear hb HT1 r0 r1 r2 a0 a1 a2 s0
        have S2 := Lib.hid S1.out.drew
        have TK1 : True := trivial
        have TK2 : True := trivial
        obtain ⟨⟨r0, r1, r2, a0, a1, a2⟩, s0⟩ := HC.out _ _ S2.out
        go_wp2_with fail
        go_region_held3 (fun W => (W.cell? ⟨w.heap.size, 0, none⟩ = some (.int .i64 k) ∧ W.cell? ⟨w.heap.size, 1, none⟩ = some (.int .i64 p) ∧ W.cell? ⟨w.heap.size, 2, none⟩ = some (.int .i64 q) ∧ W.cell? ⟨w.heap.size + 1, 0, none⟩ = some (.slice al m cl) ∧ W.cell? ⟨w.heap.size + 1, 1, none⟩ = some (.slice ad m cd) ∧ W.cell? ⟨w.heap.size + 1, 2, none⟩ = some (.slice ax m3 cx))) (exact ⟨r0, r1, r2, a0, a1, a2⟩) (first
          | (go_at_call 63; have _t := TK1; refine (HI1.out _ S2.out.bel).mono ?_; rintro e w2 ⟨rfl, rfl⟩; clear TK1 _t)
          | (go_at_call 63; have _t := TK2; refine (HI2.out _ S2.out.bel).mono ?_; rintro e w2 ⟨rfl, rfl⟩; clear TK2 _t))
        clear r0 r1 r2 a0 a1 a2 s0 HI1 HI2 S1
        generalize w1.drew = w2 at S2 ⊢
        have S3 := Lib.hid S2.out.drew
        obtain ⟨⟨r0, r1, r2, a0, a1, a2⟩, s0⟩ := HC.out _ _ S3.out
        go_wp2_with fail
        refine wp_region_held_drew (S := (fun W => (W.cell? ⟨w.heap.size, 0, none⟩ = some (.int .i64 k) ∧ W.cell? ⟨w.heap.size, 1, none⟩ = some (.int .i64 p) ∧ W.cell? ⟨w.heap.size, 2, none⟩ = some (.int .i64 q) ∧ W.cell? ⟨w.heap.size + 1, 0, none⟩ = some (.slice al m cl) ∧ W.cell? ⟨w.heap.size + 1, 1, none⟩ = some (.slice ad m cd) ∧ W.cell? ⟨w.heap.size + 1, 2, none⟩ = some (.slice ax m3 cx)))) (by kernel_rfl) (by (try dsimp only); exact ⟨r0, r1, r2, a0, a1, a2⟩) (fun hHeld => ?_)
        refine wpAnyH_take (i := 0) (v := ?_) rfl (by kernel_rfl) (by kernel_rfl) (by kernel_rfl) (fun _ _ _ h => h) (Or.inl ⟨by rfl, ?_⟩) (by assumption) ?_
        rotate_left
        · intro w hSw; (try dsimp only at hSw); go_simp <;> with_reducible rfl
        try simp only [Act.put, List.getElem_toArray, List.getElem_cons_zero, List.setIfInBounds_toArray, List.set_cons_zero, List.set_cons_succ]
        refine wpAnyH_take (i := 1) (v := ?_) rfl (by kernel_rfl) (by kernel_rfl) (by kernel_rfl) (fun _ _ _ h => h) (Or.inl ⟨by rfl, ?_⟩) (by assumption) ?_
        rotate_left
        · intro w hSw; (try dsimp only at hSw); go_simp <;> with_reducible rfl
        try simp only [Act.put, List.getElem_toArray, List.getElem_cons_succ, List.getElem_cons_zero, List.setIfInBounds_toArray, List.set_cons_zero, List.set_cons_succ]
        refine wpAnyH_take (i := 2) (v := ?_) rfl (by kernel_rfl) (by kernel_rfl) (by kernel_rfl) (fun _ _ _ h => h) (Or.inl ⟨by rfl, ?_⟩) (by assumption) ?_
        rotate_left
        · intro w hSw; (try dsimp only at hSw); go_simp <;> with_reducible rfl
        try simp only [Act.put, List.getElem_toArray, List.getElem_cons_succ, List.getElem_cons_zero, List.setIfInBounds_toArray, List.set_cons_zero, List.set_cons_succ]
        refine wpAnyH_take (i := 3) (v := ?_) rfl (by kernel_rfl) (by kernel_rfl) (by kernel_rfl) (fun _ _ _ h => h) (Or.inl ⟨by rfl, ?_⟩) (by assumption) ?_
        rotate_left
        · intro w hSw; (try dsimp only at hSw); go_simp <;> with_reducible rfl
        try simp only [Act.put, List.getElem_toArray, List.getElem_cons_succ, List.getElem_cons_zero, List.setIfInBounds_toArray, List.set_cons_zero, List.set_cons_succ]
        refine wpAnyH_take (i := 4) (v := ?_) rfl (by kernel_rfl) (by kernel_rfl) (by kernel_rfl) (fun _ _ _ h => h) (Or.inl ⟨by rfl, ?_⟩) (by assumption) ?_
        rotate_left
        · intro w hSw; (try dsimp only at hSw); go_simp <;> with_reducible rfl
        try simp only [Act.put, List.getElem_toArray, List.getElem_cons_succ, List.getElem_cons_zero, List.setIfInBounds_toArray, List.set_cons_zero, List.set_cons_succ]
        refine wpAnyH_take (i := 5) (v := ?_) rfl (by kernel_rfl) (by kernel_rfl) (by kernel_rfl) (fun _ _ _ h => h) (Or.inl ⟨by rfl, ?_⟩) (by assumption) ?_
        rotate_left
        · intro w hSw; (try dsimp only at hSw); go_simp <;> with_reducible rfl
        try simp only [Act.put, List.getElem_toArray, List.getElem_cons_succ, List.getElem_cons_zero, List.setIfInBounds_toArray, List.set_cons_zero, List.set_cons_succ]
        refine wpAnyH_take (i := 6) (v := ?_) rfl (by kernel_rfl) (by kernel_rfl) (by kernel_rfl) (fun _ _ _ h => h) (Or.inl ⟨by rfl, ?_⟩) (by assumption) ?_
        rotate_left
        · intro w hSw; (try dsimp only at hSw); go_simp <;> with_reducible rfl
        try simp only [Act.put, List.getElem_toArray, List.getElem_cons_succ, List.getElem_cons_zero, List.setIfInBounds_toArray, List.set_cons_zero, List.set_cons_succ]
        refine wpAnyH_take (i := 7) (v := undef) rfl (by kernel_rfl) (by kernel_rfl) (by kernel_rfl) (fun _ _ _ h => h) (Or.inr ⟨by rfl, rfl⟩) (by assumption) ?_
        try simp only [Act.put, List.getElem_toArray, List.getElem_cons_succ, List.getElem_cons_zero, List.setIfInBounds_toArray, List.set_cons_zero, List.set_cons_succ]
        refine wpAnyH_take (i := 8) (v := undef) rfl (by kernel_rfl) (by kernel_rfl) (by kernel_rfl) (fun _ _ _ h => h) (Or.inr ⟨by rfl, rfl⟩) (by assumption) ?_
        try simp only [Act.put, List.getElem_toArray, List.getElem_cons_succ, List.getElem_cons_zero, List.setIfInBounds_toArray, List.set_cons_zero, List.set_cons_succ]
        refine wpAnyH_take (i := 9) (v := undef) rfl (by kernel_rfl) (by kernel_rfl) (by kernel_rfl) (fun _ _ _ h => h) (Or.inr ⟨by rfl, rfl⟩) (by assumption) ?_
        try simp only [Act.put, List.getElem_toArray, List.getElem_cons_succ, List.getElem_cons_zero, List.setIfInBounds_toArray, List.set_cons_zero, List.set_cons_succ]
        refine wpAnyH_take (i := 10) (v := ?_) rfl (by kernel_rfl) (by kernel_rfl) (by kernel_rfl) (fun _ _ _ h => h) (Or.inl ⟨by rfl, ?_⟩) (by assumption) ?_
        rotate_left
        · intro w hSw; (try dsimp only at hSw); go_simp <;> with_reducible rfl
        try simp only [Act.put, List.getElem_toArray, List.getElem_cons_succ, List.getElem_cons_zero, List.setIfInBounds_toArray, List.set_cons_zero, List.set_cons_succ]
        refine wpAnyH_take (i := 11) (v := ?_) rfl (by kernel_rfl) (by kernel_rfl) (by kernel_rfl) (fun _ _ _ h => h) (Or.inl ⟨by rfl, ?_⟩) (by assumption) ?_
        rotate_left
        · intro w hSw; (try dsimp only at hSw); go_simp <;> with_reducible rfl
        try simp only [Act.put, List.getElem_toArray, List.getElem_cons_succ, List.getElem_cons_zero, List.setIfInBounds_toArray, List.set_cons_zero, List.set_cons_succ]
        refine wpAnyH_take (i := 12) (v := undef) rfl (by kernel_rfl) (by kernel_rfl) (by kernel_rfl) (fun _ _ _ h => h) (Or.inr ⟨by rfl, rfl⟩) (by assumption) ?_
        try simp only [Act.put, List.getElem_toArray, List.getElem_cons_succ, List.getElem_cons_zero, List.setIfInBounds_toArray, List.set_cons_zero, List.set_cons_succ]
        refine wpAnyH_take (i := 13) (v := undef) rfl (by kernel_rfl) (by kernel_rfl) (by kernel_rfl) (fun _ _ _ h => h) (Or.inr ⟨by rfl, rfl⟩) (by assumption) ?_
        try simp only [Act.put, List.getElem_toArray, List.getElem_cons_succ, List.getElem_cons_zero, List.setIfInBounds_toArray, List.set_cons_zero, List.set_cons_succ]
        refine wpAnyH_take (i := 14) (v := undef) rfl (by kernel_rfl) (by kernel_rfl) (by kernel_rfl) (fun _ _ _ h => h) (Or.inr ⟨by rfl, rfl⟩) (by assumption) ?_
        try simp only [Act.put, List.getElem_toArray, List.getElem_cons_succ, List.getElem_cons_zero, List.setIfInBounds_toArray, List.set_cons_zero, List.set_cons_succ]
        refine wpAnyH_take (i := 15) (v := undef) rfl (by kernel_rfl) (by kernel_rfl) (by kernel_rfl) (fun _ _ _ h => h) (Or.inr ⟨by rfl, rfl⟩) (by assumption) ?_
        try simp only [Act.put, List.getElem_toArray, List.getElem_cons_succ, List.getElem_cons_zero, List.setIfInBounds_toArray, List.set_cons_zero, List.set_cons_succ]
        refine wpAnyH_take (i := 16) (v := undef) rfl (by kernel_rfl) (by kernel_rfl) (by kernel_rfl) (fun _ _ _ h => h) (Or.inr ⟨by rfl, rfl⟩) (by assumption) ?_
        try simp only [Act.put, List.getElem_toArray, List.getElem_cons_succ, List.getElem_cons_zero, List.setIfInBounds_toArray, List.set_cons_zero, List.set_cons_succ]
        refine wpAnyH_take (i := 17) (v := undef) rfl (by kernel_rfl) (by kernel_rfl) (by kernel_rfl) (fun _ _ _ h => h) (Or.inr ⟨by rfl, rfl⟩) (by assumption) ?_
        try simp only [Act.put, List.getElem_toArray, List.getElem_cons_succ, List.getElem_cons_zero, List.setIfInBounds_toArray, List.set_cons_zero, List.set_cons_succ]
        refine wpAnyH_take (i := 18) (v := undef) rfl (by kernel_rfl) (by kernel_rfl) (by kernel_rfl) (fun _ _ _ h => h) (Or.inr ⟨by rfl, rfl⟩) (by assumption) ?_
        try simp only [Act.put, List.getElem_toArray, List.getElem_cons_succ, List.getElem_cons_zero, List.setIfInBounds_toArray, List.set_cons_zero, List.set_cons_succ]
        refine wpAnyH_take (i := 19) (v := undef) rfl (by kernel_rfl) (by kernel_rfl) (by kernel_rfl) (fun _ _ _ h => h) (Or.inr ⟨by rfl, rfl⟩) (by assumption) ?_
        try simp only [Act.put, List.getElem_toArray, List.getElem_cons_succ, List.getElem_cons_zero, List.setIfInBounds_toArray, List.set_cons_zero, List.set_cons_succ]
        refine wpAnyH_take (i := 20) (v := undef) rfl (by kernel_rfl) (by kernel_rfl) (by kernel_rfl) (fun _ _ _ h => h) (Or.inr ⟨by rfl, rfl⟩) (by assumption) ?_
        try simp only [Act.put, List.getElem_toArray, List.getElem_cons_succ, List.getElem_cons_zero, List.setIfInBounds_toArray, List.set_cons_zero, List.set_cons_succ]
        refine wpAnyH_take (i := 21) (v := undef) rfl (by kernel_rfl) (by kernel_rfl) (by kernel_rfl) (fun _ _ _ h => h) (Or.inr ⟨by rfl, rfl⟩) (by assumption) ?_
        try simp only [Act.put, List.getElem_toArray, List.getElem_cons_succ, List.getElem_cons_zero, List.setIfInBounds_toArray, List.set_cons_zero, List.set_cons_succ]
        refine wpAnyH_take (i := 22) (v := undef) rfl (by kernel_rfl) (by kernel_rfl) (by kernel_rfl) (fun _ _ _ h => h) (Or.inr ⟨by rfl, rfl⟩) (by assumption) ?_
        try simp only [Act.put, List.getElem_toArray, List.getElem_cons_succ, List.getElem_cons_zero, List.setIfInBounds_toArray, List.set_cons_zero, List.set_cons_succ]
        refine wpAnyH_take (i := 23) (v := ?_) rfl (by kernel_rfl) (by kernel_rfl) (by kernel_rfl) (fun _ _ _ h => h) (Or.inl ⟨by rfl, ?_⟩) (by assumption) ?_
        rotate_left
        · intro w hSw; (try dsimp only at hSw); go_simp <;> with_reducible rfl
        try simp only [Act.put, List.getElem_toArray, List.getElem_cons_succ, List.getElem_cons_zero, List.setIfInBounds_toArray, List.set_cons_zero, List.set_cons_succ]
        refine wpAnyH_done (by kernel_rfl) ?_ _
        clear r0 r1 r2 a0 a1 a2 s0
        generalize w2.drew = w3 at S3 ⊢
        obtain ⟨⟨t0, t1, t2⟩, f0, f1, f2⟩ := S3.out.at (r := w.heap.size + 1 + 1) (a := nilV) (b := nilV) (c := nilV) (by simp)
        go_wp2
        refine bodyPost_ret (v := .tuple #[tenV nilV nilV nilV, .bool false]) (by simp [results, Tryz.results24, go_sem, t0, t1, t2]) rfl ?_
        exact NewTen2.nils (((S3.out.bel.setCell (by show w.heap.size ≤ w.heap.size + 1 + 1; omega) _).setCell (by show w.heap.size ≤ w.heap.size + 1 + 1; omega) _).setCell (by show w.heap.size ≤ w.heap.size + 1 + 1; omega) _)
    · obtain rfl : zb = false := by rw [hzb]; unfold diagB; rw [decide_eq_false (show ¬ 0 ≤ findI L a by have := findI_neg.2 hia; omega)]; simp
      have hfa : findI L a = -1 := by unfold findI; rw [if_neg hia]
      rw [hfa] at HI1
      clear hzb ht1 hax hrb hw hF hP hia hfa hm hm2
      generalize findI L b = fb at HI2
      simp only [Bool.false_eq_true, if_false] at hzl hzd hzx
      subst hzl hzd hzx
      go_enter Tryz.func24, Tryz.ntmps24
      go_wp2_with fail
      refine HT1.out.mono ?_
      rintro e w1 ⟨rfl, hb⟩
      have S1 := Lib.hid (S0.out.step hb)
      clear hb HT1 r0 r1 r2 a0 a1 a2 s0
      have S2 := Lib.hid S1.out.drew
      have TK1 : True := trivial
      have TK2 : True := trivial
      obtain ⟨⟨r0, r1, r2, a0, a1, a2⟩, s0⟩ := HC.out _ _ S2.out
      go_wp2_with fail
      go_region_held3 (fun W => (W.cell? ⟨w.heap.size, 0, none⟩ = some (.int .i64 k) ∧ W.cell? ⟨w.heap.size, 1, none⟩ = some (.int .i64 p) ∧ W.cell? ⟨w.heap.size, 2, none⟩ = some (.int .i64 q) ∧ W.cell? ⟨w.heap.size + 1, 0, none⟩ = some (.slice al m cl) ∧ W.cell? ⟨w.heap.size + 1, 1, none⟩ = some (.slice ad m cd) ∧ W.cell? ⟨w.heap.size + 1, 2, none⟩ = some (.slice ax m3 cx))) (exact ⟨r0, r1, r2, a0, a1, a2⟩) (first
        | (go_at_call 63; have _t := TK1; refine (HI1.out _ S2.out.bel).mono ?_; rintro e w2 ⟨rfl, rfl⟩; clear TK1 _t)
        | (go_at_call 63; have _t := TK2; refine (HI2.out _ S2.out.bel).mono ?_; rintro e w2 ⟨rfl, rfl⟩; clear TK2 _t))
      clear r0 r1 r2 a0 a1 a2 s0 HI1 HI2 S1
      generalize w1.drew = w2 at S2 ⊢
      have S3 := Lib.hid S2.out.drew
      obtain ⟨⟨r0, r1, r2, a0, a1, a2⟩, s0⟩ := HC.out _ _ S3.out
      go_wp2_with fail
      refine wp_region_held_drew (S := (fun W => (W.cell? ⟨w.heap.size, 0, none⟩ = some (.int .i64 k) ∧ W.cell? ⟨w.heap.size, 1, none⟩ = some (.int .i64 p) ∧ W.cell? ⟨w.heap.size, 2, none⟩ = some (.int .i64 q) ∧ W.cell? ⟨w.heap.size + 1, 0, none⟩ = some (.slice al m cl) ∧ W.cell? ⟨w.heap.size + 1, 1, none⟩ = some (.slice ad m cd) ∧ W.cell? ⟨w.heap.size + 1, 2, none⟩ = some (.slice ax m3 cx)))) (by kernel_rfl) (by (try dsimp only); exact ⟨r0, r1, r2, a0, a1, a2⟩) (fun hHeld => ?_)
      refine wpAnyH_take (i := 0) (v := ?_) rfl (by kernel_rfl) (by kernel_rfl) (by kernel_rfl) (fun _ _ _ h => h) (Or.inl ⟨by rfl, ?_⟩) (by assumption) ?_
      rotate_left
      · intro w hSw; (try dsimp only at hSw); go_simp <;> with_reducible rfl
      try simp only [Act.put, List.getElem_toArray, List.getElem_cons_zero, List.setIfInBounds_toArray, List.set_cons_zero, List.set_cons_succ]
      refine wpAnyH_take (i := 1) (v := ?_) rfl (by kernel_rfl) (by kernel_rfl) (by kernel_rfl) (fun _ _ _ h => h) (Or.inl ⟨by rfl, ?_⟩) (by assumption) ?_
      rotate_left
      · intro w hSw; (try dsimp only at hSw); go_simp <;> with_reducible rfl
      try simp only [Act.put, List.getElem_toArray, List.getElem_cons_succ, List.getElem_cons_zero, List.setIfInBounds_toArray, List.set_cons_zero, List.set_cons_succ]
      refine wpAnyH_take (i := 2) (v := ?_) rfl (by kernel_rfl) (by kernel_rfl) (by kernel_rfl) (fun _ _ _ h => h) (Or.inl ⟨by rfl, ?_⟩) (by assumption) ?_
      rotate_left
      · intro w hSw; (try dsimp only at hSw); go_simp <;> with_reducible rfl
      try simp only [Act.put, List.getElem_toArray, List.getElem_cons_succ, List.getElem_cons_zero, List.setIfInBounds_toArray, List.set_cons_zero, List.set_cons_succ]
      refine wpAnyH_take (i := 3) (v := undef) rfl (by kernel_rfl) (by kernel_rfl) (by kernel_rfl) (fun _ _ _ h => h) (Or.inr ⟨by rfl, rfl⟩) (by assumption) ?_
      try simp only [Act.put, List.getElem_toArray, List.getElem_cons_succ, List.getElem_cons_zero, List.setIfInBounds_toArray, List.set_cons_zero, List.set_cons_succ]
      refine wpAnyH_take (i := 4) (v := undef) rfl (by kernel_rfl) (by kernel_rfl) (by kernel_rfl) (fun _ _ _ h => h) (Or.inr ⟨by rfl, rfl⟩) (by assumption) ?_
      try simp only [Act.put, List.getElem_toArray, List.getElem_cons_succ, List.getElem_cons_zero, List.setIfInBounds_toArray, List.set_cons_zero, List.set_cons_succ]
      refine wpAnyH_take (i := 5) (v := ?_) rfl (by kernel_rfl) (by kernel_rfl) (by kernel_rfl) (fun _ _ _ h => h) (Or.inl ⟨by rfl, ?_⟩) (by assumption) ?_
      rotate_left
      · intro w hSw; (try dsimp only at hSw); go_simp <;> with_reducible rfl
      try simp only [Act.put, List.getElem_toArray, List.getElem_cons_succ, List.getElem_cons_zero, List.setIfInBounds_toArray, List.set_cons_zero, List.set_cons_succ]
      refine wpAnyH_take (i := 6) (v := ?_) rfl (by kernel_rfl) (by kernel_rfl) (by kernel_rfl) (fun _ _ _ h => h) (Or.inl ⟨by rfl, ?_⟩) (by assumption) ?_
      rotate_left
      · intro w hSw; (try dsimp only at hSw); go_simp <;> with_reducible rfl
      try simp only [Act.put, List.getElem_toArray, List.getElem_cons_succ, List.getElem_cons_zero, List.setIfInBounds_toArray, List.set_cons_zero, List.set_cons_succ]
      refine wpAnyH_take (i := 7) (v := undef) rfl (by kernel_rfl) (by kernel_rfl) (by kernel_rfl) (fun _ _ _ h => h) (Or.inr ⟨by rfl, rfl⟩) (by assumption) ?_
      try simp only [Act.put, List.getElem_toArray, List.getElem_cons_succ, List.getElem_cons_zero, List.setIfInBounds_toArray, List.set_cons_zero, List.set_cons_succ]
      refine wpAnyH_take (i := 8) (v := undef) rfl (by kernel_rfl) (by kernel_rfl) (by kernel_rfl) (fun _ _ _ h => h) (Or.inr ⟨by rfl, rfl⟩) (by assumption) ?_
      try simp only [Act.put, List.getElem_toArray, List.getElem_cons_succ, List.getElem_cons_zero, List.setIfInBounds_toArray, List.set_cons_zero, List.set_cons_succ]
      refine wpAnyH_take (i := 9) (v := undef) rfl (by kernel_rfl) (by kernel_rfl) (by kernel_rfl) (fun _ _ _ h => h) (Or.inr ⟨by rfl, rfl⟩) (by assumption) ?_
      try simp only [Act.put, List.getElem_toArray, List.getElem_cons_succ, List.getElem_cons_zero, List.setIfInBounds_toArray, List.set_cons_zero, List.set_cons_succ]
      refine wpAnyH_take (i := 10) (v := ?_) rfl (by kernel_rfl) (by kernel_rfl) (by kernel_rfl) (fun _ _ _ h => h) (Or.inl ⟨by rfl, ?_⟩) (by assumption) ?_
      rotate_left
      · intro w hSw; (try dsimp only at hSw); go_simp <;> with_reducible rfl
      try simp only [Act.put, List.getElem_toArray, List.getElem_cons_succ, List.getElem_cons_zero, List.setIfInBounds_toArray, List.set_cons_zero, List.set_cons_succ]
      refine wpAnyH_take (i := 11) (v := ?_) rfl (by kernel_rfl) (by kernel_rfl) (by kernel_rfl) (fun _ _ _ h => h) (Or.inl ⟨by rfl, ?_⟩) (by assumption) ?_
      rotate_left
      · intro w hSw; (try dsimp only at hSw); go_simp <;> with_reducible rfl
      try simp only [Act.put, List.getElem_toArray, List.getElem_cons_succ, List.getElem_cons_zero, List.setIfInBounds_toArray, List.set_cons_zero, List.set_cons_succ]
      refine wpAnyH_take (i := 12) (v := undef) rfl (by kernel_rfl) (by kernel_rfl) (by kernel_rfl) (fun _ _ _ h => h) (Or.inr ⟨by rfl, rfl⟩) (by assumption) ?_
      try simp only [Act.put, List.getElem_toArray, List.getElem_cons_succ, List.getElem_cons_zero, List.setIfInBounds_toArray, List.set_cons_zero, List.set_cons_succ]
      refine wpAnyH_take (i := 13) (v := undef) rfl (by kernel_rfl) (by kernel_rfl) (by kernel_rfl) (fun _ _ _ h => h) (Or.inr ⟨by rfl, rfl⟩) (by assumption) ?_
      try simp only [Act.put, List.getElem_toArray, List.getElem_cons_succ, List.getElem_cons_zero, List.setIfInBounds_toArray, List.set_cons_zero, List.set_cons_succ]
      refine wpAnyH_take (i := 14) (v := undef) rfl (by kernel_rfl) (by kernel_rfl) (by kernel_rfl) (fun _ _ _ h => h) (Or.inr ⟨by rfl, rfl⟩) (by assumption) ?_
      try simp only [Act.put, List.getElem_toArray, List.getElem_cons_succ, List.getElem_cons_zero, List.setIfInBounds_toArray, List.set_cons_zero, List.set_cons_succ]
      refine wpAnyH_take (i := 15) (v := undef) rfl (by kernel_rfl) (by kernel_rfl) (by kernel_rfl) (fun _ _ _ h => h) (Or.inr ⟨by rfl, rfl⟩) (by assumption) ?_
      try simp only [Act.put, List.getElem_toArray, List.getElem_cons_succ, List.getElem_cons_zero, List.setIfInBounds_toArray, List.set_cons_zero, List.set_cons_succ]
      refine wpAnyH_take (i := 16) (v := undef) rfl (by kernel_rfl) (by kernel_rfl) (by kernel_rfl) (fun _ _ _ h => h) (Or.inr ⟨by rfl, rfl⟩) (by assumption) ?_
      try simp only [Act.put, List.getElem_toArray, List.getElem_cons_succ, List.getElem_cons_zero, List.setIfInBounds_toArray, List.set_cons_zero, List.set_cons_succ]
      refine wpAnyH_take (i := 17) (v := undef) rfl (by kernel_rfl) (by kernel_rfl) (by kernel_rfl) (fun _ _ _ h => h) (Or.inr ⟨by rfl, rfl⟩) (by assumption) ?_
      try simp only [Act.put, List.getElem_toArray, List.getElem_cons_succ, List.getElem_cons_zero, List.setIfInBounds_toArray, List.set_cons_zero, List.set_cons_succ]
      refine wpAnyH_take (i := 18) (v := undef) rfl (by kernel_rfl) (by kernel_rfl) (by kernel_rfl) (fun _ _ _ h => h) (Or.inr ⟨by rfl, rfl⟩) (by assumption) ?_
      try simp only [Act.put, List.getElem_toArray, List.getElem_cons_succ, List.getElem_cons_zero, List.setIfInBounds_toArray, List.set_cons_zero, List.set_cons_succ]
      refine wpAnyH_take (i := 19) (v := undef) rfl (by kernel_rfl) (by kernel_rfl) (by kernel_rfl) (fun _ _ _ h => h) (Or.inr ⟨by rfl, rfl⟩) (by assumption) ?_
      try simp only [Act.put, List.getElem_toArray, List.getElem_cons_succ, List.getElem_cons_zero, List.setIfInBounds_toArray, List.set_cons_zero, List.set_cons_succ]
      refine wpAnyH_take (i := 20) (v := undef) rfl (by kernel_rfl) (by kernel_rfl) (by kernel_rfl) (fun _ _ _ h => h) (Or.inr ⟨by rfl, rfl⟩) (by assumption) ?_
      try simp only [Act.put, List.getElem_toArray, List.getElem_cons_succ, List.getElem_cons_zero, List.setIfInBounds_toArray, List.set_cons_zero, List.set_cons_succ]
      refine wpAnyH_take (i := 21) (v := undef) rfl (by kernel_rfl) (by kernel_rfl) (by kernel_rfl) (fun _ _ _ h => h) (Or.inr ⟨by rfl, rfl⟩) (by assumption) ?_
      try simp only [Act.put, List.getElem_toArray, List.getElem_cons_succ, List.getElem_cons_zero, List.setIfInBounds_toArray, List.set_cons_zero, List.set_cons_succ]
      refine wpAnyH_take (i := 22) (v := undef) rfl (by kernel_rfl) (by kernel_rfl) (by kernel_rfl) (fun _ _ _ h => h) (Or.inr ⟨by rfl, rfl⟩) (by assumption) ?_
      try simp only [Act.put, List.getElem_toArray, List.getElem_cons_succ, List.getElem_cons_zero, List.setIfInBounds_toArray, List.set_cons_zero, List.set_cons_succ]
      refine wpAnyH_take (i := 23) (v := ?_) rfl (by kernel_rfl) (by kernel_rfl) (by kernel_rfl) (fun _ _ _ h => h) (Or.inl ⟨by rfl, ?_⟩) (by assumption) ?_
      rotate_left
      · intro w hSw; (try dsimp only at hSw); go_simp <;> with_reducible rfl
      try simp only [Act.put, List.getElem_toArray, List.getElem_cons_succ, List.getElem_cons_zero, List.setIfInBounds_toArray, List.set_cons_zero, List.set_cons_succ]
      refine wpAnyH_done (by kernel_rfl) ?_ _
      clear r0 r1 r2 a0 a1 a2 s0
      generalize w2.drew = w3 at S3 ⊢
      obtain ⟨⟨t0, t1, t2⟩, f0, f1, f2⟩ := S3.out.at (r := w.heap.size + 1 + 1) (a := nilV) (b := nilV) (c := nilV) (by simp)
      go_wp2
      refine bodyPost_ret (v := .tuple #[tenV nilV nilV nilV, .bool false]) (by simp [results, Tryz.results24, go_sem, t0, t1, t2]) rfl ?_
      exact NewTen2.nils (((S3.out.bel.setCell (by show w.heap.size ≤ w.heap.size + 1 + 1; omega) _).setCell (by show w.heap.size ≤ w.heap.size + 1 + 1; omega) _).setCell (by show w.heap.size ≤ w.heap.size + 1 + 1; omega) _)
end Go.Proofs.YtgbmacppgaopfabGreat
