
/- slices.Repeat. -/
import Derived.Test.YtdheakjjnaifkaaZero
import Derived.Laws.CopyOwn
import Derived.Deep.RegionLaw
import Derived.Test.YtdheakjjnaifkaaRs
import Derived.Deep.RegionHeld3
import Derived.Test.YtdheakjjnaifkaaSizeImpl
namespace Go.Proofs.Ytdheakjjnaifkaa
set_option maxRecDepth 20000
open Go.RowKit

theorem repL_add (z : List Int) (a b : Nat) : repL z (a + b) = repL z a ++ repL z b := by
  unfold repL
  rw [← List.flatten_append, List.replicate_append_replicate]
theorem repL_one (z : List Int) : repL z 1 = z := by simp [repL]
theorem repL_take (z : List Int) {a b : Nat} (h : a ≤ b) : (repL z b).take (a * z.length) = repL z a := by
  obtain ⟨d, rfl⟩ : ∃ d, b = a + d := ⟨b - a, by omega⟩
  rw [repL_add, List.take_append_of_le_length (by rw [repL_len]; exact Nat.le_refl _), List.take_of_length_le (by rw [repL_len]; exact Nat.le_refl _)]
theorem cell_heap {w : World} {g j : Nat} {t : TypeId} {f : Nat × Nat} {cur : List Value} {v : Value} (h : w.heap[g]? = some (.cells cur.toArray t f)) (hj : cur[j]? = some v) : w.cell? ⟨g, j, none⟩ = some v := by
  simp [World.cell?, h, hj]
/-- A row under way: the first q cells are z, j times. -/
structure Rep (w wr : World) (g m c N j q : Nat) (z : List Int) (cur : List Value) : Prop where
  hq : q = j * m
  hj : 1 ≤ j ∧ j ≤ c
  len : cur.length = N
  pre : cur.take q = ints (repL z j)
  heap : wr.heap[g]? = some (.cells cur.toArray 3 (0, 0))
  bel : Below w.heap.size w wr
theorem ints_take (xs : List Int) (n : Nat) : (ints xs).take n = ints (xs.take n) := by simp [ints, List.map_take]
theorem Rep.more {w wr w' : World} {g m c N j q : Nat} {z : List Int} {cur : List Value} (h : Rep w wr g m c N j q z cur) (hz : z.length = m) (hN : N = c * m) (hlt : q < N)
    (hh : w'.heap[g]? = some (.cells (splice cur q (cur.take (Nat.min q (N - q)))).toArray 3 (0, 0))) (hb : Below w.heap.size w w') :
    Rep w w' g m c N (j + Nat.min j (c - j)) (q + Nat.min q (N - q)) z (splice cur q (cur.take (Nat.min q (N - q)))) := by
  obtain ⟨hq, ⟨hj1, hj2⟩, hl, hp, -, -⟩ := h
  have hd : Nat.min q (N - q) = Nat.min j (c - j) * m := by
    show min q (N - q) = min j (c - j) * m
    rw [hN, hq, ← Nat.sub_mul, Nat.mul_min_mul_right]
  have hdle : Nat.min q (N - q) ≤ q := Nat.min_le_left _ _
  have hdle2 : Nat.min q (N - q) ≤ N - q := Nat.min_le_right _ _
  have hm1 : Nat.min j (c - j) ≤ c - j := Nat.min_le_right _ _
  have hm2 : Nat.min j (c - j) ≤ j := Nat.min_le_left _ _
  have e2 : (cur.take (Nat.min q (N - q))).length = Nat.min q (N - q) := by rw [List.length_take]; omega
  refine ⟨by rw [hd, Nat.add_mul, ← hq], ⟨by omega, by omega⟩, by rw [length_splice _ _ _ (by omega), hl], ?_, hh, hb⟩
  have e1 : cur.take (Nat.min q (N - q)) = ints (repL z (Nat.min j (c - j))) := by
    rw [← repL_take z hm2, ← ints_take, ← hp, List.take_take, hz, ← hd, Nat.min_eq_left hdle]
  rw [repL_add, ints_append, ← hp, ← e1]
  unfold splice
  have e3 : (cur.take q).length = q := by rw [List.length_take]; omega
  rw [← List.append_assoc, List.take_append_of_le_length (by rw [List.length_append, e2, e3]; exact Nat.le_refl _), List.take_of_length_le (by rw [List.length_append, e2, e3]; exact Nat.le_refl _)]

end Go.Proofs.Ytdheakjjnaifkaa
namespace Go.Proofs.Ytdheakjjnaifkaa
set_option maxRecDepth 20000
open Go.RowKit

set_option maxHeartbeats 1600000 in
theorem clone_ten {B : Nat} {lv dv xv : Value} {L D X : List Int} {w : World} (h : RdT B w lv dv xv L D X) (hB : B ≤ w.heap.size) (h1 : L.length ≤ 1099511627776) (h2 : D.length ≤ 1099511627776) (h3 : X.length ≤ 1099511627776) :
    Calls Try.prog 75 #[tenV lv dv xv] w (NewTen w L D X) := by
  have H0 := Lib.hid h
  have HB := Lib.hid hB
  obtain ⟨al, cl, rfl, -⟩ := ints_form h.l
  obtain ⟨ad, cd, rfl, -⟩ := ints_form h.d
  obtain ⟨ax, cx, rfl, -⟩ := ints_form h.x
  have T0 := Lib.hid (Bx.two w (.slice al L.length cl) (.slice ad D.length cd) (.slice ax X.length cx) nilV nilV nilV 55 55)
  have HI1 := Lib.hid (fun (w1 : World) (hb : Below w.heap.size w w1) => clone_any (H0.out.below hb HB.out).l (Nat.le_trans HB.out hb.size) h1)
  have HI2 := Lib.hid (fun (w1 : World) (hb : Below w.heap.size w w1) => clone_any (H0.out.below hb HB.out).d (Nat.le_trans HB.out hb.size) h2)
  have HI3 := Lib.hid (fun (w1 : World) (hb : Below w.heap.size w w1) => clone_any (H0.out.below hb HB.out).x (Nat.le_trans HB.out hb.size) h3)
  obtain ⟨ml, hml⟩ : ∃ m, m = L.length := ⟨_, rfl⟩
  obtain ⟨md, hmd⟩ : ∃ m, m = D.length := ⟨_, rfl⟩
  obtain ⟨mx, hmx⟩ : ∃ m, m = X.length := ⟨_, rfl⟩
  rw [← hml, ← hmd, ← hmx] at T0 ⊢
  rw [← hml] at HI1
  rw [← hmd] at HI2
  rw [← hmx] at HI3
  clear h hB h1 h2 h3 H0 hml hmd hmx
  go_enter Try.func75, Try.ntmps75
  go_wp2
  generalize hW : (w.alloc (.cells #[.slice al ml cl, .slice ad md cd, .slice ax mx cx] 55)).alloc (.cells #[nilV, nilV, nilV] 55) = w1 at T0 ⊢
  clear hW
  have T1 := Lib.hid (And.intro (T0.out.1.step ((Below.refl _ _).drew)) (T0.out.2.step ((Below.refl _ _).drew)))
  clear T0
  obtain ⟨-, s0, s1, s2, -⟩ := T1.out.1
  have AR1 := Lib.hid True.intro
  have AR2 := Lib.hid True.intro
  have AR3 := Lib.hid True.intro
  go_region_held3 (fun w' => w'.cell? ⟨w.heap.size, 0, none⟩ = some (.slice al ml cl) ∧ w'.cell? ⟨w.heap.size, 1, none⟩ = some (.slice ad md cd) ∧ w'.cell? ⟨w.heap.size, 2, none⟩ = some (.slice ax mx cx)) (first | exact ⟨s0, s1, s2⟩ | with_reducible exact set3_keep (Nat.ne_of_lt (Nat.lt_succ_self _)) s0 s1 s2) (first
    | (go_at_call 100; have AR := AR1; clear AR AR1; refine (HI1.out _ T1.out.1.bel).mono ?_; rintro e w2 ⟨u1, rfl, ho, hb⟩; obtain ⟨a1, c1, rfl, -⟩ := ints_form ho.rd; have T2 := Lib.hid (And.intro (T1.out.1.step hb) (T1.out.2.step hb)); have Z2 := Lib.hid hb.size; have O12 := Lib.hid ho; clear ho hb s0 s1 s2; obtain ⟨-, s0, s1, s2, -⟩ := T2.out.1)
    | (go_at_call 100; have AR := AR2; clear AR AR2; refine (HI2.out _ T2.out.1.bel).mono ?_; rintro e w3 ⟨u2, rfl, ho, hb⟩; obtain ⟨a2, c2, rfl, -⟩ := ints_form ho.rd; have T3 := Lib.hid (And.intro (T2.out.1.step hb) (T2.out.2.step hb)); have Z3 := Lib.hid hb.size; have O13 := Lib.hid (O12.out.below hb (Nat.le_refl _)); have O23 := Lib.hid ho; clear ho hb s0 s1 s2; obtain ⟨-, s0, s1, s2, -⟩ := T3.out.1)
    | (go_at_call 100; have AR := AR3; clear AR AR3; refine (HI3.out _ T3.out.1.bel).mono ?_; rintro e w4 ⟨u3, rfl, ho, hb⟩; obtain ⟨a3, c3, rfl, -⟩ := ints_form ho.rd; have T4 := Lib.hid (And.intro (T3.out.1.step hb) (T3.out.2.step hb)); have Z4 := Lib.hid hb.size; have O14 := Lib.hid (O13.out.below hb (Nat.le_refl _)); have O24 := Lib.hid (O23.out.below hb (Nat.le_refl _)); have O34 := Lib.hid ho; clear ho hb s0 s1 s2; obtain ⟨-, s0, s1, s2, -⟩ := T4.out.1; obtain ⟨-, t0, t1, t2, fr, -, -⟩ := T4.out.2; have f0 := fr 0; have f1 := fr 1; have f2 := fr 2; clear fr))
  clear s0 s1 s2
  go_wp2
  refine bodyPost_ret (v := tenV (.slice a1 L.length c1) (.slice a2 D.length c2) (.slice a3 X.length c3)) (by simp [results, Try.results75, go_sem, t0, t1, t2]) rfl ?_
  have z1 := T1.out.2.lt
  have z1' := T1.out.1.bel.size
  have z2 := Z2.out
  have z3 := Z3.out
  have z4 := Z4.out
  refine ⟨_, _, _, rfl, ?_, ((T4.out.2.bel.setCell (by simp) _).setCell (by simp) _).setCell (by simp) _⟩
  exact OwnG.wide (lo := w1.drew.heap.size) (hi := w4.heap.size) (OwnG.three (m1 := w2.heap.size) (m2 := w3.heap.size) (Own.set (Own.set (Own.set O14.out (by omega) _) (by omega) _) (by omega) _) (Own.set (Own.set (Own.set O24.out (by omega) _) (by omega) _) (by omega) _) (Own.set (Own.set (Own.set O34.out (by omega) _) (by omega) _) (by omega) _) z2 z3 z4) z1' (by simp) (by simp)
end Go.Proofs.Ytdheakjjnaifkaa
namespace Go.Proofs.Ytdheakjjnaifkaa
set_option maxRecDepth 20000
open Go.RowKit

/-- What a function answers that makes a tensor and says whether. -/
def NewTenB (w : World) (L D X : List Int) (b : Bool) (e : Ending) (w' : World) : Prop := ∃ lv dv xv, e = .returned (.tuple #[tenV lv dv xv, .bool b]) ∧ OwnG w' w.heap.size w'.heap.size [(lv, L), (dv, D), (xv, X)] ∧ Below w.heap.size w w'
theorem NewTenB.nils {w w' : World} {b : Bool} (h : Below w.heap.size w w') : NewTenB w [] [] [] b (.returned (.tuple #[tenV nilV nilV nilV, .bool b])) w' :=
  ⟨_, _, _, rfl, OwnG.three (Own.nils h.size) (Own.nils (Nat.le_refl _)) (Own.nils (Nat.le_refl _)) (Nat.le_refl _) h.size (Nat.le_refl _), h⟩
noncomputable def zeroTenB (k p q : Int) (L D : List Int) : Bool := ringB k p q && decide (0 ≤ sizeI L D)
noncomputable def zeroTenL (k p q : Int) (D : List Int) : List Int := repL (zeroL k p q) (prodL D).toNat
/-- No integers, written so that two of them are told apart. -/
def noneL (_ : Nat) : List Int := []
theorem scalarL_len (k p n : Int) (xs : List Int) : (scalarL k p n xs).length ≤ xs.length := by unfold scalarL; split <;> simp
theorem zeroL_len (k p n : Int) (h : ringB k p n = true) : (zeroL k p n).length ≤ 6 := by
  obtain ⟨m, h1, h2, h3⟩ := width_nat h
  unfold zeroL; simp [h1]; omega
theorem zero_if_len (k p n : Int) (L D : List Int) : (if zeroTenB k p n L D = true then zeroTenL k p n D else []).length ≤ 24576 := by
  split
  · rename_i h
    unfold zeroTenB at h
    simp only [Bool.and_eq_true, decide_eq_true_eq] at h
    unfold zeroTenL
    rw [repL_len]
    have h1 := zeroL_len k p n h.1
    have h2 : (prodL D).toNat ≤ 4096 := by
      rcases sizeI_cases L D with h3 | ⟨_, _, _, h3⟩
      · omega
      · omega
    exact Nat.le_trans (Nat.mul_le_mul h2 h1) (by omega)
  · simp
theorem if_len {b : Bool} {L : List Int} {m : Nat} (h : L.length ≤ m) : (if b = true then L else []).length ≤ m := by
  split
  · exact h
  · exact Nat.zero_le _
theorem putL_len {X x : List Int} {s : Nat} : (putL X s x).length ≤ X.length + x.length := by unfold putL; simp only [List.length_append, List.length_take, List.length_drop]; omega
theorem set_lens {k p q : Int} {L D X ix x : List Int} (h : setB k p q L D X ix x = true) : L.length ≤ 12 ∧ D.length ≤ 12 ∧ X.length ≤ 24576 ∧ x.length ≤ 6 := by
  unfold setB at h
  simp only [Bool.and_eq_true, decide_eq_true_eq] at h
  obtain ⟨-, h2, h3⟩ := h
  obtain ⟨hrb, hs0, hxl, -⟩ := tensorB_inv h2
  have hwd := ring_width hrb
  unfold okElemB at h3
  simp only [Bool.and_eq_true] at h3
  have hx := (elemB_true.1 h3.2).1
  rcases sizeI_cases L D with h | ⟨h4, h5, h6, h7⟩
  · omega
  · have h8 : sizeI L D * widthI k q ≤ 4096 * widthI k q := Int.mul_le_mul_of_nonneg_right (by omega) (by omega)
    have := h5.1
    have := h5.2.1
    omega
theorem set_len_L (k p q : Int) (L D X ix x : List Int) : (if setB k p q L D X ix x = true then L else []).length ≤ 12 := by
  split
  · exact (set_lens ‹_›).1
  · exact Nat.zero_le _
theorem set_len_D (k p q : Int) (L D X ix x : List Int) : (if setB k p q L D X ix x = true then D else []).length ≤ 12 := by
  split
  · exact (set_lens ‹_›).2.1
  · exact Nat.zero_le _
theorem set_len_X (k p q : Int) (L D X ix x : List Int) : (if setB k p q L D X ix x = true then setElemL k q L D X ix x else []).length ≤ 24582 := by
  split
  · have h := set_lens ‹setB k p q L D X ix x = true›
    exact Nat.le_trans putL_len (by omega)
  · exact Nat.zero_le _
end Go.Proofs.Ytdheakjjnaifkaa
namespace Go.Proofs.Ytdheakjjnaifkaa
set_option maxRecDepth 20000
open Go.RowKit

end Go.Proofs.Ytdheakjjnaifkaa
