
/- impl.sorted: a sorted copy. -/
import Derived.Test.YtfdjlahaiogabaaShelfSort
import Derived.Test.YtfdjlahaiogabaaZero
import Derived.Test.YtfdjlahaiogabaaTensorOk
import Derived.Test.YtfdjlahaiogabaaRs
import Derived.Sort.OwnSortedInts
import Derived.Test.YtfdjlahaiogabaaPermuted
import Derived.Deep.RegionHeld3
import Derived.Test.YtfdjlahaiogabaaPermSpec
import Derived.Test.YtfdjlahaiogabaaTenOkImpl
namespace Go.Proofs.Ytfdjlahaiogabaa
set_option maxRecDepth 20000
open Go.RowKit

/-- slices.Sort on a row of the call's own. -/
theorem sort_own {w : World} {lo : Nat} {v : Value} {xs : List Int} (h : Own w lo w.heap.size v xs) (hlw : lo ≤ w.heap.size) (hn : xs.length ≤ 1099511627776) :
    Calls Try.prog 131 #[v] w fun e w' => e = .returned (.tuple #[]) ∧ Own w' lo w'.heap.size v (sortL xs) ∧ Below lo w w' := by
  rcases h.1.2 with ⟨rfl, h0⟩ | ⟨g, cap, cur, rfl, hlo, hg, h1, h2, h3, h4⟩
  · have hx : xs = [] := by
      cases xs with
      | nil => rfl
      | cons x r => simp at h0
    subst hx
    refine (Try.slices_Sort_int_none none 0 w).mono ?_
    rintro e w' ⟨rfl, rfl⟩
    have e0 : sortL [] = [] := List.eq_nil_of_length_eq_zero (sortL_len [])
    rw [e0]
    exact ⟨rfl, Own.nil _ _, Below.refl _ _⟩
  · have hlt := (Array.getElem?_eq_some_iff.1 hg).1
    have h4' : cur.toList.take xs.length = xs.map (Value.int .i64) := by simpa [ints] using h4
    refine (Try.slices_Sort_int g 0 cap xs w (holds_of_blockI hg h4') hlt (by omega)).mono ?_
    rintro e w' ⟨rfl, nn, os, rfl⟩
    have hs : (xs.mergeSort fun x y => decide (x ≤ y)) = sortL xs := rfl
    rw [hs]
    have ho := ownsRow_sortedI (n := nn) (os := os) (ts := sortL xs) (ss := xs) (sortL_len xs) hlo hg h1 h2 h3
    have hgr := grownBy_sortedI (w := w) (g := g) (n := nn) (os := os) (sortL xs).toArray
    exact ⟨rfl, Own.of (n := xs.length) ho (sortL_len xs), (Below.refl lo w).grown hgr hlw (fun k hk => by cases hk; exact hlo)⟩

set_option maxHeartbeats 800000 in
theorem sorted_impl {B : Nat} {v : Value} {xs : List Int} {w : World} (h : Rd B w v (ints xs)) (hB : B ≤ w.heap.size) (hn : xs.length ≤ 1099511627776) :
    Calls Try.prog 82 #[v] w (NewRow w (sortL xs)) := by
  have HC := Lib.hid (clone_any h hB hn)
  clear h hB
  go_enter Try.func82, Try.ntmps82
  go_wp2_with fail
  refine HC.out.mono ?_
  rintro e w1 ⟨r, rfl, ho, hb⟩
  have HS := Lib.hid (sort_own ho hb.size hn)
  have HB := Lib.hid hb
  clear ho hb HC
  go_wp2_with fail
  refine HS.out.mono ?_
  rintro e w2 ⟨rfl, ho, hb⟩
  have HO := Lib.hid ho
  have HB2 := Lib.hid (HB.out.trans hb)
  clear ho hb HS HB
  go_wp2
  go_ret
  exact ⟨r, rfl, HO.out, HB2.out⟩
end Go.Proofs.Ytfdjlahaiogabaa
namespace Go.Proofs.Ytfdjlahaiogabaa
set_option maxRecDepth 20000
open Go.RowKit

theorem tensorB_axes {k p q : Int} {L D X : List Int} (ht : tensorB k p q L D X = true) : AxesV L D ∧ 0 ≤ sizeI L D := by
  obtain ⟨-, h0, -, -⟩ := tensorB_inv ht
  rcases sizeI_cases L D with ⟨h, -⟩ | ⟨-, h2, -, -⟩
  · omega
  · exact ⟨h2, h0⟩
theorem sort_set {L D : List Int} (h : AxesV L D) : SetV L (sortL L) := setV_perm (sortL_perm L) h.2.2.2.2

set_option maxHeartbeats 3200000 in
theorem ascending_impl {B : Nat} {lv dv xv : Value} {k p q : Int} {L D X : List Int} {w : World} (h : RdT B w lv dv xv L D X) (hB : B ≤ w.heap.size) (ht : tensorB k p q L D X = true) :
    Calls Try.prog 88 #[tenV lv dv xv, ringV k p q] w (NewTen w (sortL L) (dimsVia L D (sortL L)) (permDataL k q L D X (sortL L))) := by
  have HT := Lib.hid h
  have HB := Lib.hid hB
  have hax := tensorB_axes ht
  have S0 : Hid (Rs w (((w.alloc (.cells #[lv, dv, xv] 28)).alloc (.cells #[.int .i64 k, .int .i64 p, .int .i64 q] 31)).alloc (.cells #[nilV, nilV, nilV] 28)) [(w.heap.size + 1 + 1, nilV, nilV, nilV), (w.heap.size + 1, .int .i64 k, .int .i64 p, .int .i64 q), (w.heap.size, lv, dv, xv)] []) := by
    have h := (((Rs.start w).box lv dv xv 28).box (.int .i64 k) (.int .i64 p) (.int .i64 q) 31).box nilV nilV nilV 28
    simp only [World.size_alloc] at h
    exact h
  have HSo := Lib.hid (fun (w1 : World) (hb : Below w.heap.size w w1) => sorted_impl (HT.out.below hb HB.out).l (Nat.le_trans HB.out hb.size) (by have := hax.1.1; omega))
  have HPo := Lib.hid (fun (w1 : World) (hb : Below w.heap.size w w1) (vS : Value) (ho : Rd w1.heap.size w1 vS (ints (sortL L))) =>
    have hr := HT.out.below hb HB.out
    have hle := Nat.le_trans HB.out hb.size
    permuted_impl (B := w1.heap.size) ⟨hr.l.mono hle, hr.d.mono hle, hr.x.mono hle⟩ ho (Nat.le_refl _) ht (sort_set hax.1))
  obtain ⟨al, cl, rfl, -⟩ := ints_form h.l
  obtain ⟨ad, cd, rfl, -⟩ := ints_form h.d
  obtain ⟨ax, cx, rfl, -⟩ := ints_form h.x
  obtain ⟨sl, hsl⟩ : ∃ s, s = sortL L := ⟨_, rfl⟩
  obtain ⟨sd, hsd⟩ : ∃ s, s = dimsVia L D (sortL L) := ⟨_, rfl⟩
  obtain ⟨sx, hsx⟩ : ∃ s, s = permDataL k q L D X (sortL L) := ⟨_, rfl⟩
  rw [← hsd, ← hsx] at HPo ⊢
  rw [← hsl] at HPo HSo ⊢
  clear h hB ht hax hsl hsd hsx
  go_enter Try.func88, Try.ntmps88
  go_wp2
  generalize hW : ((w.alloc (.cells #[.slice al L.length cl, .slice ad D.length cd, .slice ax X.length cx] 28)).alloc (.cells #[.int .i64 k, .int .i64 p, .int .i64 q] 31)).alloc (.cells #[nilV, nilV, nilV] 28) = w1 at S0 ⊢
  have T1 := Lib.hid S0.out.drew
  clear hW S0
  obtain ⟨⟨t0, t1, t2⟩, -⟩ := T1.out.at (r := w.heap.size) (a := .slice al L.length cl) (b := .slice ad D.length cd) (c := .slice ax X.length cx) (by simp)
  obtain ⟨⟨q0, q1, q2⟩, -⟩ := T1.out.at (r := w.heap.size + 1) (a := .int .i64 k) (b := .int .i64 p) (c := .int .i64 q) (by simp)
  have AR1 := Lib.hid True.intro
  have AR2 := Lib.hid True.intro
  go_region_held3 (fun w' => (w'.cell? ⟨w.heap.size, 0, none⟩ = some (.slice al L.length cl) ∧ w'.cell? ⟨w.heap.size, 1, none⟩ = some (.slice ad D.length cd) ∧ w'.cell? ⟨w.heap.size, 2, none⟩ = some (.slice ax X.length cx)) ∧ w'.cell? ⟨w.heap.size + 1, 0, none⟩ = some (.int .i64 k) ∧ w'.cell? ⟨w.heap.size + 1, 1, none⟩ = some (.int .i64 p) ∧ w'.cell? ⟨w.heap.size + 1, 2, none⟩ = some (.int .i64 q)) (first | exact ⟨⟨t0, t1, t2⟩, q0, q1, q2⟩ | with_reducible exact ⟨⟨x0, x1, x2⟩, y0, y1, y2⟩) (first
    | (go_at_call 82; have AR := AR1; clear AR AR1; refine (HSo.out _ T1.out.bel).mono ?_; rintro e w2 ⟨vS, rfl, ho, hb⟩; have T2 := Lib.hid (T1.out.step hb); have HR2 := Lib.hid ho.rd; clear ho hb t0 t1 t2 q0 q1 q2; obtain ⟨⟨t0, t1, t2⟩, -⟩ := T2.out.at (r := w.heap.size) (a := .slice al L.length cl) (b := .slice ad D.length cd) (c := .slice ax X.length cx) (by simp); obtain ⟨⟨q0, q1, q2⟩, -⟩ := T2.out.at (r := w.heap.size + 1) (a := .int .i64 k) (b := .int .i64 p) (c := .int .i64 q) (by simp))
    | (go_at_call 83; have AR := AR2; clear AR AR2; refine (HPo.out _ T2.out.bel _ HR2.out).mono ?_; rintro e w3 ⟨l1, d1, x1, rfl, ho, hb⟩; have T3 := Lib.hid (T2.out.step hb); obtain ⟨a1, c1, rfl, -⟩ := ints_form ho.rows.1.rd; obtain ⟨a2, c2, rfl, -⟩ := ints_form ho.rows.2.1.rd; obtain ⟨a3, c3, rfl, -⟩ := ints_form ho.rows.2.2.rd; have HO := Lib.hid ho; have HLE := Lib.hid T2.out.bel.size; clear ho hb t0 t1 t2 q0 q1 q2; obtain ⟨⟨t0, t1, t2⟩, -⟩ := T3.out.at (r := w.heap.size) (a := .slice al L.length cl) (b := .slice ad D.length cd) (c := .slice ax X.length cx) (by simp); obtain ⟨⟨q0, q1, q2⟩, -⟩ := T3.out.at (r := w.heap.size + 1) (a := .int .i64 k) (b := .int .i64 p) (c := .int .i64 q) (by simp); obtain ⟨⟨z0, z1, z2⟩, f0, f1, f2⟩ := T3.out.at (r := w.heap.size + 1 + 1) (a := nilV) (b := nilV) (c := nilV) (by simp); have T4 := Lib.hid (T3.out.set3 (.slice a1 sl.length c1) (.slice a2 sd.length c2) (.slice a3 sx.length c3)); obtain ⟨⟨x0, x1, x2⟩, -⟩ := T4.out.at (r := w.heap.size) (a := .slice al L.length cl) (b := .slice ad D.length cd) (c := .slice ax X.length cx) (by simp); obtain ⟨⟨y0, y1, y2⟩, -⟩ := T4.out.at (r := w.heap.size + 1) (a := .int .i64 k) (b := .int .i64 p) (c := .int .i64 q) (by simp)))
  go_wp2
  refine bodyPost_ret (v := tenV (.slice a1 sl.length c1) (.slice a2 sd.length c2) (.slice a3 sx.length c3)) (by simp [results, Try.results88, go_sem, z0, z1, z2]) rfl ?_
  have hlt := (T2.out.bx (w.heap.size + 1 + 1, nilV, nilV, nilV) (by simp)).lt
  exact ⟨_, _, _, rfl, (HO.out.set3 hlt _ _ _).wide HLE.out (by simp) (by simp), T4.out.bel⟩
end Go.Proofs.Ytfdjlahaiogabaa
namespace Go.Proofs.Ytfdjlahaiogabaa
set_option maxRecDepth 20000
open Go.RowKit

set_option maxHeartbeats 1600000 in
theorem sort_tensor_impl {B : Nat} {lv dv xv : Value} {k p q : Int} {L D X : List Int} {w : World} (h : RdT B w lv dv xv L D X) (hB : B ≤ w.heap.size) (hn : LenT L D X) (hI : allI L) :
    Calls Try.prog 41 #[ringV k p q, tenV lv dv xv] w (NewTen w (if tensorB k p q L D X = true then sortL L else []) (if tensorB k p q L D X = true then dimsVia L D (sortL L) else []) (if tensorB k p q L D X = true then permDataL k q L D X (sortL L) else [])) := by
  have HT := Lib.hid h
  have HB := Lib.hid hB
  have HII := Lib.hid hI
  obtain ⟨al, cl, rfl, -⟩ := ints_form h.l
  obtain ⟨ad, cd, rfl, -⟩ := ints_form h.d
  obtain ⟨ax, cx, rfl, -⟩ := ints_form h.x
  obtain ⟨ml, hml⟩ : ∃ m, m = L.length := ⟨_, rfl⟩
  obtain ⟨md, hmd⟩ : ∃ m, m = D.length := ⟨_, rfl⟩
  obtain ⟨mx, hmx⟩ : ∃ m, m = X.length := ⟨_, rfl⟩
  rw [← hml, ← hmd, ← hmx] at HT ⊢
  have R0 := Lib.hid (Rs.three w k p q (.slice al ml cl) (.slice ad md cd) (.slice ax mx cx) 31 28 28)
  have HOK := Lib.hid (fun (w1 : World) (hb : Below w.heap.size w w1) => tensor_ok_impl (k := k) (p := p) (n := q) (HT.out.below hb HB.out) (Nat.le_trans HB.out hb.size) hn HII.out)
  have HAS := Lib.hid (fun (w1 : World) (hb : Below w.heap.size w w1) (ht : tensorB k p q L D X = true) => ascending_impl (HT.out.below hb HB.out) (Nat.le_trans HB.out hb.size) ht)
  obtain ⟨tb, htb⟩ : ∃ b, b = tensorB k p q L D X := ⟨_, rfl⟩
  rw [← htb] at HOK ⊢
  have HTB := Lib.hid htb
  clear h hB hn htb hI hml hmd hmx
  obtain ⟨⟨r0, r1, r2⟩, -⟩ := R0.out.at (r := w.heap.size) (a := .int .i64 k) (b := .int .i64 p) (c := .int .i64 q) (by simp)
  obtain ⟨⟨s0, s1, s2⟩, -⟩ := R0.out.at (r := w.heap.size + 1) (a := .slice al ml cl) (b := .slice ad md cd) (c := .slice ax mx cx) (by simp)
  cases tb with
  | false =>
    simp only [Bool.false_eq_true, if_false]
    go_enter Try.func41, Try.ntmps41
    go_wp2_with fail
    refine (HOK.out _ R0.out.bel).mono ?_
    clear r0 r1 r2 s0 s1 s2
    rintro e w1 ⟨rfl, hb⟩
    have R1 := Lib.hid (R0.out.step hb)
    clear hb R0 HOK
    obtain ⟨⟨r0, r1, r2⟩, -⟩ := R1.out.at (r := w.heap.size) (a := .int .i64 k) (b := .int .i64 p) (c := .int .i64 q) (by simp)
    obtain ⟨⟨s0, s1, s2⟩, -⟩ := R1.out.at (r := w.heap.size + 1) (a := .slice al ml cl) (b := .slice ad md cd) (c := .slice ax mx cx) (by simp)
    obtain ⟨⟨t0, t1, t2⟩, f0, f1, f2⟩ := R1.out.at (r := w.heap.size + 1 + 1) (a := nilV) (b := nilV) (c := nilV) (by simp)
    clear r0 r1 r2 s0 s1 s2
    go_wp2
    refine bodyPost_ret (v := tenV nilV nilV nilV) (by simp [results, Try.results41, go_sem, t0, t1, t2]) rfl ?_
    exact NewTen.nils (((R1.out.bel.setCell (by simp; omega) _).setCell (by simp; omega) _).setCell (by simp; omega) _)
  | true =>
    simp only [if_true]
    go_enter Try.func41, Try.ntmps41
    go_wp2_with fail
    refine (HOK.out _ R0.out.bel).mono ?_
    clear r0 r1 r2 s0 s1 s2
    rintro e w1 ⟨rfl, hb⟩
    have R1 := Lib.hid (R0.out.step hb)
    clear hb R0 HOK
    obtain ⟨⟨r0, r1, r2⟩, -⟩ := R1.out.at (r := w.heap.size) (a := .int .i64 k) (b := .int .i64 p) (c := .int .i64 q) (by simp)
    obtain ⟨⟨s0, s1, s2⟩, -⟩ := R1.out.at (r := w.heap.size + 1) (a := .slice al ml cl) (b := .slice ad md cd) (c := .slice ax mx cx) (by simp)
    obtain ⟨⟨t0, t1, t2⟩, f0, f1, f2⟩ := R1.out.at (r := w.heap.size + 1 + 1) (a := nilV) (b := nilV) (c := nilV) (by simp)
    have HQ := Lib.hid (HAS.out _ R1.out.bel HTB.out.symm)
    clear HAS t0 t1 t2 f0 f1 f2
    go_wp2_with fail
    refine HQ.out.mono ?_
    clear r0 r1 r2 s0 s1 s2
    rintro e w3 ⟨l', d', x', rfl, ho, hb⟩
    have R3 := Lib.hid (R1.out.step hb)
    obtain ⟨a1, c1, rfl, -⟩ := ints_form ho.rows.1.rd
    obtain ⟨a2, c2, rfl, -⟩ := ints_form ho.rows.2.1.rd
    obtain ⟨a3, c3, rfl, -⟩ := ints_form ho.rows.2.2.rd
    have lt1 := (R1.out.bx (w.heap.size + 1 + 1, nilV, nilV, nilV) (by simp)).lt
    have hz1 := R1.out.bel.size
    obtain ⟨m1, hm1⟩ : ∃ m, m = (sortL L).length := ⟨_, rfl⟩
    obtain ⟨m2, hm2⟩ : ∃ m, m = (dimsVia L D (sortL L)).length := ⟨_, rfl⟩
    obtain ⟨m3, hm3⟩ : ∃ m, m = (permDataL k q L D X (sortL L)).length := ⟨_, rfl⟩
    rw [← hm1, ← hm2, ← hm3] at ho ⊢
    have HO := Lib.hid (ho.set3 lt1 (.slice a1 m1 c1) (.slice a2 m2 c2) (.slice a3 m3 c3))
    clear hb ho hm1 hm2 hm3 HQ
    obtain ⟨⟨t0, t1, t2⟩, f0, f1, f2⟩ := R3.out.at (r := w.heap.size + 1 + 1) (a := nilV) (b := nilV) (c := nilV) (by simp)
    go_wp2
    refine bodyPost_ret (v := tenV (.slice a1 m1 c1) (.slice a2 m2 c2) (.slice a3 m3 c3)) (by simp [results, Try.results41, go_sem, t0, t1, t2]) rfl ?_
    exact ⟨_, _, _, rfl, HO.out.wide hz1 (by simp) (by simp), ((R3.out.bel.setCell (by simp; omega) _).setCell (by simp; omega) _).setCell (by simp; omega) _⟩
end Go.Proofs.Ytfdjlahaiogabaa
