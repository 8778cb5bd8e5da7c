
/- spec.StackTensors: tensors stacked. -/
import Derived.Test.YtceidekfcnmeaaaShare
import Derived.Test.YtceidekfcnmeaaaTensRow
import Derived.Test.YtceidekfcnmeaaaAddSpec
import Derived.Test.YtceidekfcnmeaaaSliceMath
import Derived.Test.YtceidekfcnmeaaaElemAt
import Derived.Deep.RegionLaw
import Derived.Deep.AppendLies
namespace Go.Proofs.Ytceidekfcnmeaaa
set_option maxRecDepth 20000
open Go.RowKit

theorem Rs.litCell {w0 wr : World} {bs : List BxE} {rows : List RowE} {g : Nat} {x : Int} (h : Rs w0 wr bs rows) (hm : ((.slice (some ⟨g, 0, none⟩) 1 1, [x]) : RowE) ∈ rows) : ∀ (j : Nat) (u : Value), (ints [x])[j]? = some u → wr.cell? ((⟨g, 0, none⟩ : Addr).add j) = some u := by
  intro j u hu
  have ho := h.row (n := 1) hm rfl
  have hj : j = 0 := by
    have := (List.getElem?_eq_some_iff.1 hu).1
    simp [ints] at this
    omega
  subst hj
  have h1 := ho.cellAt 0 (by omega)
  have e : ((⟨g, 0, none⟩ : Addr).add 0) = ⟨g, 0, none⟩ := by unfold Addr.add; split <;> simp_all
  rw [e, h1]
  exact hu

theorem Rs.cells3 {w0 wr : World} {bs : List BxE} {rows : List RowE} {g : Nat} {a b c : Value} (h : Rs w0 wr bs rows) (hm : (g, a, b, c) ∈ bs) : ∀ (j : Nat) (u : Value), [a, b, c][j]? = some u → wr.cell? ((⟨g, 0, none⟩ : Addr).add j) = some u := by
  intro j u hu
  obtain ⟨⟨h0, h1, h2⟩, -⟩ := h.at hm
  have e : ∀ i, ((⟨g, 0, none⟩ : Addr).add i) = ⟨g, i, none⟩ := fun i => by unfold Addr.add; split <;> simp_all
  match j, hu with
  | 0, hu => rw [e]; exact h0.trans hu
  | 1, hu => rw [e]; exact h1.trans hu
  | 2, hu => rw [e]; exact h2.trans hu
  | n + 3, hu => exact absurd hu (by simp)
theorem Rs.rowCell {w0 wr : World} {bs : List BxE} {rows : List RowE} {g n cap : Nat} {xs : List Int} (h : Rs w0 wr bs rows) (hm : ((.slice (some ⟨g, 0, none⟩) n cap, xs) : RowE) ∈ rows) (hn : xs.length = n) : ∀ (j : Nat) (u : Value), (ints xs)[j]? = some u → wr.cell? ((⟨g, 0, none⟩ : Addr).add j) = some u := by
  intro j u hu
  have ho := h.row (n := n) hm hn
  have hj : j < n := by
    have := (List.getElem?_eq_some_iff.1 hu).1
    simp [ints] at this
    omega
  have h1 := ho.cellAt j (by omega)
  have e : ((⟨g, 0, none⟩ : Addr).add j) = ⟨g, j, none⟩ := by unfold Addr.add; split <;> simp_all
  rw [e, h1]
  exact hu
theorem flat_len {wd e : Nat} : ∀ {Ys : List (List Int)}, (∀ Y ∈ Ys, e * wd + wd ≤ Y.length) → (Ys.flatMap fun Y => getL wd Y e).length = Ys.length * wd := by
  intro Ys
  induction Ys with
  | nil => intro _; simp
  | cons Y r ih =>
    intro h
    rw [List.flatMap_cons, List.length_append, ih (fun Z hZ => h Z (List.mem_cons_of_mem _ hZ)), getL_len (h Y List.mem_cons_self), List.length_cons, Nat.add_mul, Nat.one_mul, Nat.add_comm]
theorem room_of {wd e N l : Nat} (he : e < N) (hl : l = N * wd) : e * wd + wd ≤ l := by
  have h := Nat.mul_le_mul_right wd (show e + 1 ≤ N by omega)
  rw [Nat.add_mul, Nat.one_mul] at h
  omega
theorem stackL_len {wd N : Nat} {Ys : List (List Int)} (hY : ∀ Y ∈ Ys, Y.length = N * wd) : ∀ e, e ≤ N → (stackL wd e Ys).length = e * Ys.length * wd := by
  intro e
  induction e with
  | zero => intro _; simp [stackL, gatherL]
  | succ e ih =>
    intro he
    unfold stackL at ih ⊢
    rw [gather_succ, List.length_append, ih (by omega), flat_len (fun Y h => room_of (by omega) (hY Y h)), Nat.add_mul, Nat.one_mul, Nat.add_mul]
/-- How much is there. -/
theorem stack_acc {wd N n e i : Nat} {Ys : List (List Int)} (hY : ∀ Y ∈ Ys, Y.length = N * wd) (hn : Ys.length = n) (he : e < N) (hi : i ≤ n) : (stackL wd e Ys ++ (Ys.take i).flatMap fun Y => getL wd Y e).length = (e * n + i) * wd := by
  rw [List.length_append, stackL_len hY e (by omega), flat_len (fun Y h => room_of he (hY Y (List.mem_of_mem_take h))), List.length_take, hn, Nat.min_eq_left hi, Nat.add_mul]
theorem stack_bound {wd N n e i : Nat} (hN : N * n ≤ 4096) (h6 : wd ≤ 6) (he : e < N) (hi : i < n) : (e * n + i) * wd + wd ≤ 24576 := by
  have h := Nat.mul_le_mul_right n (show e + 1 ≤ N by omega)
  rw [Nat.add_mul, Nat.one_mul] at h
  have h2 : (e * n + i + 1) * wd ≤ 4096 * 6 := Nat.mul_le_mul (by omega) h6
  rw [Nat.add_mul, Nat.one_mul] at h2
  omega
noncomputable def stackX (k q : Int) (ts : List TenE) (L D : List Int) : List Int := stackL (widthI k q).toNat (prodL D).toNat (ts.map fun t => permDataL k q t.1 t.2.1 t.2.2 L)

set_option maxHeartbeats 16000000 in
theorem stack_one {B : Nat} {lv : Value} {k p q b : Int} {ts : List TenE} {n : Nat} {L D X : List Int} {w : World} (ha : RdTs B w lv ts) (hB : B ≤ w.heap.size) (hn : ts.length = n) (h8 : 1 ≤ n ∧ n ≤ 8) (hh : ts[0]? = some (L, D, X)) (hlen : ∀ t ∈ ts, LenT t.1 t.2.1 t.2.2) (hrb : ringB k p q = true) (ht : tensorB k p q L D X = true) {fb : Bool} (hfb : fb = (ts.all (fun t => fitB k p q L D X t.1 t.2.1 t.2.2) && decide (0 ≤ sizeI (L ++ [b]) (D ++ [(n : Int)])))) :
    Calls Try.prog 5 #[ringV k p q, lv, .int .i64 b] w (NewTen2 w (if fb = true then L ++ [b] else []) (if fb = true then D ++ [(n : Int)] else []) (if fb = true then stackX k q ts L D else []) fb) := by
  have HA : Hid (RdTs w.heap.size w lv ts) := Lib.hid (ha.mono hB)
  obtain ⟨pl, cp, rfl⟩ := ha.form
  rw [hn] at HA ⊢
  obtain ⟨gh, oh, al, cl, ad, cd, ax, cx, rfl, hgh, k0, k1, k2, hT⟩ := HA.out.at hh
  have HL0 := Lib.hid (hlen _ (List.mem_of_getElem? hh))
  have FT := Lib.hid (TF.of ht)
  obtain ⟨m1, hm1⟩ : ∃ m, m = L.length := ⟨_, rfl⟩
  obtain ⟨m3, hm3⟩ : ∃ m, m = X.length := ⟨_, rfl⟩
  have hD : D.length = m1 := by rw [hm1]; exact FT.out.ax.2.1.symm
  have h12 : m1 ≤ 12 := by rw [hm1]; exact FT.out.ax.1
  have HT : Hid (RdT w.heap.size w (.slice al m1 cl) (.slice ad m1 cd) (.slice ax m3 cx) L D X) := Lib.hid (by
    have h := hT
    simp only at h
    rw [← hm1, ← hm3, hD] at h
    exact h)
  have HML : Hid (L.length = m1 ∧ D.length = m1 ∧ m1 ≤ 12) := Lib.hid ⟨hm1.symm, hD, h12⟩
  have HK : Hid (∀ W : World, Below w.heap.size w W → W.cell? ⟨gh, oh, none⟩ = some (.slice al m1 cl) ∧ W.cell? ⟨gh, oh + 1, none⟩ = some (.slice ad m1 cd) ∧ W.cell? ⟨gh, oh + 2, none⟩ = some (.slice ax m3 cx)) := Lib.hid (fun W hb => by
    simp only [Nat.zero_mul, Nat.add_zero, ← hm1, hD, ← hm3] at k0 k1 k2
    exact ⟨(hb.cell (p := ⟨gh, oh, none⟩) hgh).trans k0, (hb.cell (p := ⟨gh, oh + 1, none⟩) hgh).trans k1, (hb.cell (p := ⟨gh, oh + 2, none⟩) hgh).trans k2⟩)
  obtain ⟨i0, hi, hz0, hz1, hz2⟩ := info_parts infoInt
  have J0 := Lib.hid hi
  have J1 := Lib.hid hz0
  have J2 := Lib.hid hz1
  have J3 := Lib.hid hz2
  have S0 : Hid (Rs w ((w.alloc (.cells #[.int .i64 k, .int .i64 p, .int .i64 q] 31)).alloc (.cells #[nilV, nilV, nilV] 28)) [(w.heap.size + 1, nilV, nilV, nilV), (w.heap.size, .int .i64 k, .int .i64 p, .int .i64 q)] []) := by
    have h := ((Rs.start w).box (.int .i64 k) (.int .i64 p) (.int .i64 q) 31).box nilV nilV nilV 28
    simp only [World.size_alloc] at h
    exact h
  have HRO := Lib.hid (fun (w1 : World) => ring_ok_spec k p q w1)
  have HIN := Lib.hid (fun (w1 : World) => l01_in (n : Int) 1 8 w1)
  have e8 : inB (n : Int) 1 8 = true := inB_true.2 (by omega)
  have hn0 : 0 < n := h8.1
  rw [hrb] at HRO
  rw [e8] at HIN
  have OKA := Lib.hid (fun (w1 : World) (hb : Below w.heap.size w w1) => tensor_ok_spec (k := k) (p := p) (n := q) (HT.out.below hb (Nat.le_refl _)) hb.size HL0.out)
  rw [ht] at OKA
  have HH := Lib.hid hh
  have HFBE := Lib.hid hfb
  obtain ⟨yl, hyl⟩ : ∃ l, l = (if fb = true then L ++ [b] else []) := ⟨_, rfl⟩
  obtain ⟨yd, hyd⟩ : ∃ l, l = (if fb = true then D ++ [(n : Int)] else []) := ⟨_, rfl⟩
  obtain ⟨yx, hyx⟩ : ∃ l, l = (if fb = true then stackX k q ts L D else []) := ⟨_, rfl⟩
  have HNO : Hid (fb = false → yl = [] ∧ yd = [] ∧ yx = []) := Lib.hid (fun h => by subst h; exact ⟨hyl, hyd, hyx⟩)
  have HYES : Hid (fb = true → yl = L ++ [b] ∧ yd = D ++ [(n : Int)] ∧ yx = stackX k q ts L D) := Lib.hid (fun h => by subst h; exact ⟨hyl, hyd, hyx⟩)
  rw [← hyl, ← hyd, ← hyx]
  obtain ⟨i1, hi1, hy0, hy1, hy2⟩ := info_parts infoTensor
  have I0 := Lib.hid hi1
  have I1 := Lib.hid hy0
  have I2 := Lib.hid hy1
  have I3 := Lib.hid hy2
  have HN := Lib.hid hn
  have HLEN := Lib.hid hlen
  clear hfb hyl hyd hyx hi1 hy0 hy1 hy2 ha hB hn hh hlen hrb ht hgh k0 k1 k2 hT hm1 hm3 hD hi hz0 hz1 hz2 e8
  go_enter Try.func5, Try.ntmps5
  go_wp2
  have RX := Lib.hid S0.out.drew
  obtain ⟨⟨r0, r1, r2⟩, -⟩ := RX.out.at (r := w.heap.size) (a := .int .i64 k) (b := .int .i64 p) (c := .int .i64 q) (by simp)
  obtain ⟨s0, s1, s2⟩ := HK.out _ RX.out.bel
  refine wp_region_held_drew (S := (fun w' => (w'.cell? ⟨w.heap.size, 0, none⟩ = some (.int .i64 k) ∧ w'.cell? ⟨w.heap.size, 1, none⟩ = some (.int .i64 p) ∧ w'.cell? ⟨w.heap.size, 2, none⟩ = some (.int .i64 q)) ∧ (w'.cell? ⟨gh, oh, none⟩ = some (.slice al m1 cl) ∧ w'.cell? ⟨gh, oh + 1, none⟩ = some (.slice ad m1 cd) ∧ w'.cell? ⟨gh, oh + 2, none⟩ = some (.slice ax m3 cx)))) (by kernel_rfl) (by (try dsimp only); with_reducible exact ⟨⟨r0, r1, r2⟩, ⟨s0, s1, s2⟩⟩) (fun hHeld => ?_)
  refine wpAnyH_take (i := 0) (v := ?_) rfl (by kernel_rfl) (by kernel_rfl) (by kernel_rfl) (fun _ _ _ h => h) (Or.inl ⟨by rfl, ?_⟩) (by assumption) ?_
  rotate_left
  · intro w hSw; (try dsimp only at hSw); go_simp <;> with_reducible rfl
  try simp only [Act.put, List.getElem_toArray, List.getElem_cons_zero, List.setIfInBounds_toArray, List.set_cons_zero, List.set_cons_succ]
  refine wpAnyH_ready (rs := [1]) (by kernel_rfl) (by simp) ?_
  refine AllReadyH.cons rfl (fun K hK => ?_) AllReadyH.nil
  go_simp
  (go_at_call 15; refine (HRO.out _).mono ?_; rintro e WX ⟨rfl, hb⟩; replace RX := Lib.hid (RX.out.step hb); clear hb r0 r1 r2 s0 s1 s2; obtain ⟨⟨r0, r1, r2⟩, -⟩ := RX.out.at (r := w.heap.size) (a := .int .i64 k) (b := .int .i64 p) (c := .int .i64 q) (by simp); obtain ⟨s0, s1, s2⟩ := HK.out _ RX.out.bel)
  go_wp2_with fail
  refine hK.out _ _ (by (try dsimp only); with_reducible exact ⟨⟨r0, r1, r2⟩, ⟨s0, s1, s2⟩⟩) (fun hHeld => ?_)
  clear hK K
  try simp only [Act.put, List.getElem_toArray, List.getElem_cons_succ, List.getElem_cons_zero, List.setIfInBounds_toArray, List.set_cons_zero, List.set_cons_succ]
  refine wpAnyH_take (i := 2) (v := ?_) rfl (by kernel_rfl) (by kernel_rfl) (by kernel_rfl) (fun _ _ _ h => h) (Or.inl ⟨by rfl, ?_⟩) (by assumption) ?_
  rotate_left
  · intro w hSw; (try dsimp only at hSw); go_simp <;> with_reducible rfl
  try simp only [Act.put, List.getElem_toArray, List.getElem_cons_succ, List.getElem_cons_zero, List.setIfInBounds_toArray, List.set_cons_zero, List.set_cons_succ]
  refine wpAnyH_take (i := 3) (v := ?_) rfl (by kernel_rfl) (by kernel_rfl) (by kernel_rfl) (fun _ _ _ h => h) (Or.inl ⟨by rfl, ?_⟩) (by assumption) ?_
  rotate_left
  · intro w hSw; (try dsimp only at hSw); go_simp <;> with_reducible rfl
  try simp only [Act.put, List.getElem_toArray, List.getElem_cons_succ, List.getElem_cons_zero, List.setIfInBounds_toArray, List.set_cons_zero, List.set_cons_succ]
  refine wpAnyH_take (i := 4) (v := ?_) rfl (by kernel_rfl) (by kernel_rfl) (by kernel_rfl) (fun _ _ _ h => h) (Or.inl ⟨by rfl, ?_⟩) (by assumption) ?_
  rotate_left
  · intro w hSw; (try dsimp only at hSw); go_simp <;> with_reducible rfl
  try simp only [Act.put, List.getElem_toArray, List.getElem_cons_succ, List.getElem_cons_zero, List.setIfInBounds_toArray, List.set_cons_zero, List.set_cons_succ]
  refine wpAnyH_take (i := 5) (v := ?_) rfl (by kernel_rfl) (by kernel_rfl) (by kernel_rfl) (fun _ _ _ h => h) (Or.inl ⟨by rfl, ?_⟩) (by assumption) ?_
  rotate_left
  · intro w hSw; (try dsimp only at hSw); go_simp <;> with_reducible rfl
  try simp only [Act.put, List.getElem_toArray, List.getElem_cons_succ, List.getElem_cons_zero, List.setIfInBounds_toArray, List.set_cons_zero, List.set_cons_succ]
  refine wpAnyH_ready (rs := [6]) (by kernel_rfl) (by simp) ?_
  refine AllReadyH.cons rfl (fun K hK => ?_) AllReadyH.nil
  go_simp
  (go_at_call 16; refine (HIN.out _).mono ?_; rintro e WX ⟨rfl, rfl⟩)
  go_wp2_with fail
  refine hK.out _ _ (by (try dsimp only); with_reducible exact ⟨⟨r0, r1, r2⟩, ⟨s0, s1, s2⟩⟩) (fun hHeld => ?_)
  clear hK K
  try simp only [Act.put, List.getElem_toArray, List.getElem_cons_succ, List.getElem_cons_zero, List.setIfInBounds_toArray, List.set_cons_zero, List.set_cons_succ]
  refine wpAnyH_take (i := 7) (v := ?_) rfl (by kernel_rfl) (by kernel_rfl) (by kernel_rfl) (fun _ _ _ h => h) (Or.inl ⟨by rfl, ?_⟩) (by assumption) ?_
  rotate_left
  · intro w hSw; (try dsimp only at hSw); go_simp <;> with_reducible rfl
  try simp only [Act.put, List.getElem_toArray, List.getElem_cons_succ, List.getElem_cons_zero, List.setIfInBounds_toArray, List.set_cons_zero, List.set_cons_succ]
  refine wpAnyH_take (i := 8) (v := ?_) rfl (by kernel_rfl) (by kernel_rfl) (by kernel_rfl) (fun _ _ _ h => h) (Or.inl ⟨by rfl, ?_⟩) (by assumption) ?_
  rotate_left
  · intro w hSw; (try dsimp only at hSw); go_simp <;> with_reducible rfl
  try simp only [Act.put, List.getElem_toArray, List.getElem_cons_succ, List.getElem_cons_zero, List.setIfInBounds_toArray, List.set_cons_zero, List.set_cons_succ]
  refine wpAnyH_take (i := 9) (v := ?_) rfl (by kernel_rfl) (by kernel_rfl) (by kernel_rfl) (fun _ _ _ h => h) (Or.inl ⟨by rfl, ?_⟩) (by assumption) ?_
  rotate_left
  · intro w hSw; (try dsimp only at hSw); go_simp <;> with_reducible rfl
  try simp only [Act.put, List.getElem_toArray, List.getElem_cons_succ, List.getElem_cons_zero, List.setIfInBounds_toArray, List.set_cons_zero, List.set_cons_succ]
  refine wpAnyH_take (i := 10) (v := ?_) rfl (by kernel_rfl) (by kernel_rfl) (by kernel_rfl) (fun _ _ _ h => h) (Or.inl ⟨by rfl, ?_⟩) (by assumption) ?_
  rotate_left
  · intro w hSw; (try dsimp only at hSw); go_simp <;> with_reducible rfl
  try simp only [Act.put, List.getElem_toArray, List.getElem_cons_succ, List.getElem_cons_zero, List.setIfInBounds_toArray, List.set_cons_zero, List.set_cons_succ]
  refine wpAnyH_take (i := 11) (v := ?_) rfl (by kernel_rfl) (by kernel_rfl) (by kernel_rfl) (fun _ _ _ h => h) (Or.inl ⟨by rfl, ?_⟩) (by assumption) ?_
  rotate_left
  · intro w hSw; (try dsimp only at hSw); go_simp <;> with_reducible rfl
  try simp only [Act.put, List.getElem_toArray, List.getElem_cons_succ, List.getElem_cons_zero, List.setIfInBounds_toArray, List.set_cons_zero, List.set_cons_succ]
  refine wpAnyH_take (i := 12) (v := ?_) rfl (by kernel_rfl) (by kernel_rfl) (by kernel_rfl) (fun _ _ _ h => h) (Or.inl ⟨by rfl, ?_⟩) (by assumption) ?_
  rotate_left
  · intro w hSw; (try dsimp only at hSw); go_simp <;> with_reducible rfl
  try simp only [Act.put, List.getElem_toArray, List.getElem_cons_succ, List.getElem_cons_zero, List.setIfInBounds_toArray, List.set_cons_zero, List.set_cons_succ]
  refine wpAnyH_take (i := 13) (v := ?_) rfl (by kernel_rfl) (by kernel_rfl) (by kernel_rfl) (fun _ _ _ h => h) (Or.inl ⟨by rfl, ?_⟩) (by assumption) ?_
  rotate_left
  · intro w hSw; (try dsimp only at hSw); go_simp <;> with_reducible rfl
  try simp only [Act.put, List.getElem_toArray, List.getElem_cons_succ, List.getElem_cons_zero, List.setIfInBounds_toArray, List.set_cons_zero, List.set_cons_succ]
  refine wpAnyH_ready (rs := [14]) (by kernel_rfl) (by simp) ?_
  refine AllReadyH.cons rfl (fun K hK => ?_) AllReadyH.nil
  go_simp
  (go_at_call 17; refine (OKA.out _ RX.out.bel).mono ?_; rintro e WX ⟨rfl, hb⟩; replace RX := Lib.hid (RX.out.step hb); clear hb r0 r1 r2 s0 s1 s2; obtain ⟨⟨r0, r1, r2⟩, -⟩ := RX.out.at (r := w.heap.size) (a := .int .i64 k) (b := .int .i64 p) (c := .int .i64 q) (by simp); obtain ⟨s0, s1, s2⟩ := HK.out _ RX.out.bel)
  go_wp2_with fail
  refine hK.out _ _ (by (try dsimp only); with_reducible exact ⟨⟨r0, r1, r2⟩, ⟨s0, s1, s2⟩⟩) (fun hHeld => ?_)
  clear hK K
  try simp only [Act.put, List.getElem_toArray, List.getElem_cons_succ, List.getElem_cons_zero, List.setIfInBounds_toArray, List.set_cons_zero, List.set_cons_succ]
  refine wpAnyH_take (i := 15) (v := ?_) rfl (by kernel_rfl) (by kernel_rfl) (by kernel_rfl) (fun _ _ _ h => h) (Or.inl ⟨by rfl, ?_⟩) (by assumption) ?_
  rotate_left
  · intro w hSw; (try dsimp only at hSw); go_simp <;> with_reducible rfl
  try simp only [Act.put, List.getElem_toArray, List.getElem_cons_succ, List.getElem_cons_zero, List.setIfInBounds_toArray, List.set_cons_zero, List.set_cons_succ]
  refine wpAnyH_take (i := 16) (v := ?_) rfl (by kernel_rfl) (by kernel_rfl) (by kernel_rfl) (fun _ _ _ h => h) (Or.inl ⟨by rfl, ?_⟩) (by assumption) ?_
  rotate_left
  · intro w hSw; (try dsimp only at hSw); go_simp <;> with_reducible rfl
  try simp only [Act.put, List.getElem_toArray, List.getElem_cons_succ, List.getElem_cons_zero, List.setIfInBounds_toArray, List.set_cons_zero, List.set_cons_succ]
  refine wpAnyH_done (by kernel_rfl) ?_ _
  clear r0 r1 r2 s0 s1 s2 OKA HRO HIN S0 hHeld
  go_upto_region 3 with fail
  obtain ⟨wr, hwr⟩ : ∃ W, W = WX := ⟨_, rfl⟩
  rw [← hwr] at RX ⊢
  clear hwr
  go_cut [8] (fun s8 wx => ∃ (g18 g7 c7 g16 c16 : Nat), s8 = .pointer (some ⟨g18, 0, none⟩) ∧ Hid (Rs w wx [(g18, .slice (some ⟨g7, 0, none⟩) (m1 + 1) c7, .slice (some ⟨g16, 0, none⟩) (m1 + 1) c16, nilV), (w.heap.size + 1, nilV, nilV, nilV), (w.heap.size, .int .i64 k, .int .i64 p, .int .i64 q)] [(.slice (some ⟨g7, 0, none⟩) (m1 + 1) c7, L ++ [b]), (.slice (some ⟨g16, 0, none⟩) (m1 + 1) c16, D ++ [(n : Int)])]))
  case first =>
    replace RX := Lib.hid RX.out.nil.nil.nil.nil.drew
    refine wp_region_held_drew (S := (fun w' => w'.cell? ⟨gh, oh, none⟩ = some (.slice al m1 cl) ∧ w'.cell? ⟨gh, oh + 1, none⟩ = some (.slice ad m1 cd) ∧ w'.cell? ⟨gh, oh + 2, none⟩ = some (.slice ax m3 cx))) (by kernel_rfl) (by (try dsimp only); with_reducible exact HK.out _ RX.out.bel) (fun hHeld => ?_)
    obtain ⟨WX, hW⟩ : ∃ W, W = wr.drew := ⟨_, rfl⟩
    rw [← hW] at hHeld RX ⊢
    clear hW
    refine wpAnyH_take (i := 0) (v := ?_) rfl (by kernel_rfl) (by kernel_rfl) (by kernel_rfl) (fun _ _ _ h => h) (Or.inl ⟨by rfl, ?_⟩) (by assumption) ?_
    rotate_left
    · intro w hSw; (try dsimp only at hSw); go_simp <;> with_reducible rfl
    try simp only [Act.put, List.getElem_toArray, List.getElem_cons_zero, List.setIfInBounds_toArray, List.set_cons_zero, List.set_cons_succ]
    refine wpAnyH_take (i := 1) (v := ?_) rfl (by kernel_rfl) (by kernel_rfl) (by kernel_rfl) (fun _ _ _ h => h) (Or.inl ⟨by rfl, ?_⟩) (by assumption) ?_
    rotate_left
    · intro w hSw; (try dsimp only at hSw); go_simp <;> with_reducible rfl
    try simp only [Act.put, List.getElem_toArray, List.getElem_cons_succ, List.getElem_cons_zero, List.setIfInBounds_toArray, List.set_cons_zero, List.set_cons_succ]
    refine wpAnyH_take (i := 2) (v := ?_) rfl (by kernel_rfl) (by kernel_rfl) (by kernel_rfl) (fun _ _ _ h => h) (Or.inl ⟨by rfl, ?_⟩) (by assumption) ?_
    rotate_left
    · intro w hSw; (try dsimp only at hSw); go_simp <;> with_reducible rfl
    try simp only [Act.put, List.getElem_toArray, List.getElem_cons_succ, List.getElem_cons_zero, List.setIfInBounds_toArray, List.set_cons_zero, List.set_cons_succ]
    refine wpAnyH_take (i := 3) (v := ?_) rfl (by kernel_rfl) (by kernel_rfl) (by kernel_rfl) (fun _ _ _ h => h) (Or.inl ⟨by rfl, ?_⟩) (by assumption) ?_
    rotate_left
    · intro w hSw; (try dsimp only at hSw); go_simp <;> with_reducible rfl
    try simp only [Act.put, List.getElem_toArray, List.getElem_cons_succ, List.getElem_cons_zero, List.setIfInBounds_toArray, List.set_cons_zero, List.set_cons_succ]
    refine wpAnyH_take (i := 5) (v := ?_) rfl (by kernel_rfl) (by kernel_rfl) (by kernel_rfl) (fun _ _ _ h => h) (Or.inl ⟨by rfl, ?_⟩) (by assumption) ?_
    rotate_left
    · intro w hSw; (try dsimp only at hSw); go_simp <;> with_reducible rfl
    try simp only [Act.put, List.getElem_toArray, List.getElem_cons_succ, List.getElem_cons_zero, List.setIfInBounds_toArray, List.set_cons_zero, List.set_cons_succ]
    refine wpAnyH_take (i := 8) (v := ?_) rfl (by kernel_rfl) (by kernel_rfl) (by kernel_rfl) (fun _ _ _ h => h) (Or.inl ⟨by rfl, ?_⟩) (by assumption) ?_
    rotate_left
    · intro w hSw; (try dsimp only at hSw); go_simp <;> with_reducible rfl
    try simp only [Act.put, List.getElem_toArray, List.getElem_cons_succ, List.getElem_cons_zero, List.setIfInBounds_toArray, List.set_cons_zero, List.set_cons_succ]
    refine wpAnyH_take (i := 9) (v := ?_) rfl (by kernel_rfl) (by kernel_rfl) (by kernel_rfl) (fun _ _ _ h => h) (Or.inl ⟨by rfl, ?_⟩) (by assumption) ?_
    rotate_left
    · intro w hSw; (try dsimp only at hSw); go_simp <;> with_reducible rfl
    try simp only [Act.put, List.getElem_toArray, List.getElem_cons_succ, List.getElem_cons_zero, List.setIfInBounds_toArray, List.set_cons_zero, List.set_cons_succ]
    refine wpAnyH_take (i := 10) (v := ?_) rfl (by kernel_rfl) (by kernel_rfl) (by kernel_rfl) (fun _ _ _ h => h) (Or.inl ⟨by rfl, ?_⟩) (by assumption) ?_
    rotate_left
    · intro w hSw; (try dsimp only at hSw); go_simp <;> with_reducible rfl
    try simp only [Act.put, List.getElem_toArray, List.getElem_cons_succ, List.getElem_cons_zero, List.setIfInBounds_toArray, List.set_cons_zero, List.set_cons_succ]
    refine wpAnyH_take (i := 11) (v := ?_) rfl (by kernel_rfl) (by kernel_rfl) (by kernel_rfl) (fun _ _ _ h => h) (Or.inl ⟨by rfl, ?_⟩) (by assumption) ?_
    rotate_left
    · intro w hSw; (try dsimp only at hSw); go_simp <;> with_reducible rfl
    try simp only [Act.put, List.getElem_toArray, List.getElem_cons_succ, List.getElem_cons_zero, List.setIfInBounds_toArray, List.set_cons_zero, List.set_cons_succ]
    refine wpAnyH_take (i := 13) (v := ?_) rfl (by kernel_rfl) (by kernel_rfl) (by kernel_rfl) (fun _ _ _ h => h) (Or.inl ⟨by rfl, ?_⟩) (by assumption) ?_
    rotate_left
    · intro w hSw; (try dsimp only at hSw); go_simp <;> with_reducible rfl
    try simp only [Act.put, List.getElem_toArray, List.getElem_cons_succ, List.getElem_cons_zero, List.setIfInBounds_toArray, List.set_cons_zero, List.set_cons_succ]
    refine wpAnyH_take (i := 14) (v := ?_) rfl (by kernel_rfl) (by kernel_rfl) (by kernel_rfl) (fun _ _ _ h => h) (Or.inl ⟨by rfl, ?_⟩) (by assumption) ?_
    rotate_left
    · intro w hSw; (try dsimp only at hSw); go_simp <;> with_reducible rfl
    try simp only [Act.put, List.getElem_toArray, List.getElem_cons_succ, List.getElem_cons_zero, List.setIfInBounds_toArray, List.set_cons_zero, List.set_cons_succ]
    apply share12 (F := fun (g7 : Nat) (c7 : Nat) (g4 : Option Addr) (c4 : Nat) (g6 : Nat) (g16 : Nat) (c16 : Nat) (g12 : Option Addr) (c12 : Nat) (g15 : Nat) (g18 : Nat) (WX : World) => Hid (Rs w WX [(g18, .slice (some ⟨g7, 0, none⟩) (m1 + 1) c7, .slice (some ⟨g16, 0, none⟩) (m1 + 1) c16, nilV), (w.heap.size + 1, nilV, nilV, nilV), (w.heap.size, .int .i64 k, .int .i64 p, .int .i64 q)] [(.slice (some ⟨g7, 0, none⟩) (m1 + 1) c7, L ++ [b]), (.slice (some ⟨g6, 0, none⟩) 1 1, [b]), (.slice (some ⟨g16, 0, none⟩) (m1 + 1) c16, D ++ [(n : Int)]), (.slice (some ⟨g15, 0, none⟩) 1 1, [(n : Int)])]))
    intro K4_6_7_12_15_16_18_19
    apply share12 (F := fun (g7 : Nat) (c7 : Nat) (g4 : Option Addr) (c4 : Nat) (g6 : Nat) (g16 : Nat) (c16 : Nat) (g12 : Option Addr) (c12 : Nat) (g15 : Nat) (g18 : Nat) (WX : World) => Hid (Rs w WX [(g18, nilV, nilV, nilV), (w.heap.size + 1, nilV, nilV, nilV), (w.heap.size, .int .i64 k, .int .i64 p, .int .i64 q)] [(.slice (some ⟨g7, 0, none⟩) (m1 + 1) c7, L ++ [b]), (.slice (some ⟨g6, 0, none⟩) 1 1, [b]), (.slice (some ⟨g16, 0, none⟩) (m1 + 1) c16, D ++ [(n : Int)]), (.slice (some ⟨g15, 0, none⟩) 1 1, [(n : Int)])]))
    intro K4_6_7_12_15_16_18
    apply share11 (F := fun (g7 : Nat) (c7 : Nat) (g4 : Option Addr) (c4 : Nat) (g6 : Nat) (g16 : Nat) (c16 : Nat) (g12 : Option Addr) (c12 : Nat) (g15 : Nat) (WX : World) => Hid (Rs w WX [(w.heap.size + 1, nilV, nilV, nilV), (w.heap.size, .int .i64 k, .int .i64 p, .int .i64 q)] [(.slice (some ⟨g7, 0, none⟩) (m1 + 1) c7, L ++ [b]), (.slice (some ⟨g6, 0, none⟩) 1 1, [b]), (.slice (some ⟨g16, 0, none⟩) (m1 + 1) c16, D ++ [(n : Int)]), (.slice (some ⟨g15, 0, none⟩) 1 1, [(n : Int)])]))
    intro K4_6_7_12_15_16
    apply share10 (F := fun (g7 : Nat) (c7 : Nat) (g4 : Option Addr) (c4 : Nat) (g6 : Nat) (g12 : Option Addr) (c12 : Nat) (g15 : Nat) (g18 : Nat) (WX : World) => Hid (Rs w WX [(g18, nilV, nilV, nilV), (w.heap.size + 1, nilV, nilV, nilV), (w.heap.size, .int .i64 k, .int .i64 p, .int .i64 q)] [(.slice (some ⟨g7, 0, none⟩) (m1 + 1) c7, L ++ [b]), (.slice (some ⟨g6, 0, none⟩) 1 1, [b]), (.slice g12 m1 c12, D), (.slice (some ⟨g15, 0, none⟩) 1 1, [(n : Int)])]))
    intro K4_6_7_12_15_18
    apply share9 (F := fun (g7 : Nat) (c7 : Nat) (g4 : Option Addr) (c4 : Nat) (g6 : Nat) (g12 : Option Addr) (c12 : Nat) (g15 : Nat) (WX : World) => Hid (Rs w WX [(w.heap.size + 1, nilV, nilV, nilV), (w.heap.size, .int .i64 k, .int .i64 p, .int .i64 q)] [(.slice (some ⟨g7, 0, none⟩) (m1 + 1) c7, L ++ [b]), (.slice (some ⟨g6, 0, none⟩) 1 1, [b]), (.slice g12 m1 c12, D), (.slice (some ⟨g15, 0, none⟩) 1 1, [(n : Int)])]))
    intro K4_6_7_12_15
    apply share9 (F := fun (g7 : Nat) (c7 : Nat) (g4 : Option Addr) (c4 : Nat) (g6 : Nat) (g12 : Option Addr) (c12 : Nat) (g18 : Nat) (WX : World) => Hid (Rs w WX [(g18, nilV, nilV, nilV), (w.heap.size + 1, nilV, nilV, nilV), (w.heap.size, .int .i64 k, .int .i64 p, .int .i64 q)] [(.slice (some ⟨g7, 0, none⟩) (m1 + 1) c7, L ++ [b]), (.slice (some ⟨g6, 0, none⟩) 1 1, [b]), (.slice g12 m1 c12, D), (nilV, [])]))
    intro K4_6_7_12_18
    apply share8 (F := fun (g7 : Nat) (c7 : Nat) (g4 : Option Addr) (c4 : Nat) (g6 : Nat) (g15 : Nat) (g18 : Nat) (WX : World) => Hid (Rs w WX [(g18, nilV, nilV, nilV), (w.heap.size + 1, nilV, nilV, nilV), (w.heap.size, .int .i64 k, .int .i64 p, .int .i64 q)] [(.slice (some ⟨g7, 0, none⟩) (m1 + 1) c7, L ++ [b]), (.slice (some ⟨g6, 0, none⟩) 1 1, [b]), (nilV, []), (.slice (some ⟨g15, 0, none⟩) 1 1, [(n : Int)])]))
    intro K4_6_7_15_18
    apply share8 (F := fun (g7 : Nat) (c7 : Nat) (g4 : Option Addr) (c4 : Nat) (g6 : Nat) (g12 : Option Addr) (c12 : Nat) (WX : World) => Hid (Rs w WX [(w.heap.size + 1, nilV, nilV, nilV), (w.heap.size, .int .i64 k, .int .i64 p, .int .i64 q)] [(.slice (some ⟨g7, 0, none⟩) (m1 + 1) c7, L ++ [b]), (.slice (some ⟨g6, 0, none⟩) 1 1, [b]), (.slice g12 m1 c12, D), (nilV, [])]))
    intro K4_6_7_12
    apply share7 (F := fun (g7 : Nat) (c7 : Nat) (g4 : Option Addr) (c4 : Nat) (g6 : Nat) (g15 : Nat) (WX : World) => Hid (Rs w WX [(w.heap.size + 1, nilV, nilV, nilV), (w.heap.size, .int .i64 k, .int .i64 p, .int .i64 q)] [(.slice (some ⟨g7, 0, none⟩) (m1 + 1) c7, L ++ [b]), (.slice (some ⟨g6, 0, none⟩) 1 1, [b]), (nilV, []), (.slice (some ⟨g15, 0, none⟩) 1 1, [(n : Int)])]))
    intro K4_6_7_15
    apply share7 (F := fun (g7 : Nat) (c7 : Nat) (g4 : Option Addr) (c4 : Nat) (g6 : Nat) (g18 : Nat) (WX : World) => Hid (Rs w WX [(g18, nilV, nilV, nilV), (w.heap.size + 1, nilV, nilV, nilV), (w.heap.size, .int .i64 k, .int .i64 p, .int .i64 q)] [(.slice (some ⟨g7, 0, none⟩) (m1 + 1) c7, L ++ [b]), (.slice (some ⟨g6, 0, none⟩) 1 1, [b]), (nilV, []), (nilV, [])]))
    intro K4_6_7_18
    apply share6 (F := fun (g4 : Option Addr) (c4 : Nat) (g6 : Nat) (g15 : Nat) (g18 : Nat) (WX : World) => Hid (Rs w WX [(g18, nilV, nilV, nilV), (w.heap.size + 1, nilV, nilV, nilV), (w.heap.size, .int .i64 k, .int .i64 p, .int .i64 q)] [(.slice g4 m1 c4, L), (.slice (some ⟨g6, 0, none⟩) 1 1, [b]), (nilV, []), (.slice (some ⟨g15, 0, none⟩) 1 1, [(n : Int)])]))
    intro K4_6_15_18
    apply share6 (F := fun (g7 : Nat) (c7 : Nat) (g4 : Option Addr) (c4 : Nat) (g6 : Nat) (WX : World) => Hid (Rs w WX [(w.heap.size + 1, nilV, nilV, nilV), (w.heap.size, .int .i64 k, .int .i64 p, .int .i64 q)] [(.slice (some ⟨g7, 0, none⟩) (m1 + 1) c7, L ++ [b]), (.slice (some ⟨g6, 0, none⟩) 1 1, [b]), (nilV, []), (nilV, [])]))
    intro K4_6_7
    apply share5 (F := fun (g4 : Option Addr) (c4 : Nat) (g6 : Nat) (g15 : Nat) (WX : World) => Hid (Rs w WX [(w.heap.size + 1, nilV, nilV, nilV), (w.heap.size, .int .i64 k, .int .i64 p, .int .i64 q)] [(.slice g4 m1 c4, L), (.slice (some ⟨g6, 0, none⟩) 1 1, [b]), (nilV, []), (.slice (some ⟨g15, 0, none⟩) 1 1, [(n : Int)])]))
    intro K4_6_15
    apply share5 (F := fun (g4 : Option Addr) (c4 : Nat) (g6 : Nat) (g18 : Nat) (WX : World) => Hid (Rs w WX [(g18, nilV, nilV, nilV), (w.heap.size + 1, nilV, nilV, nilV), (w.heap.size, .int .i64 k, .int .i64 p, .int .i64 q)] [(.slice g4 m1 c4, L), (.slice (some ⟨g6, 0, none⟩) 1 1, [b]), (nilV, []), (nilV, [])]))
    intro K4_6_18
    apply share5 (F := fun (g4 : Option Addr) (c4 : Nat) (g15 : Nat) (g18 : Nat) (WX : World) => Hid (Rs w WX [(g18, nilV, nilV, nilV), (w.heap.size + 1, nilV, nilV, nilV), (w.heap.size, .int .i64 k, .int .i64 p, .int .i64 q)] [(.slice g4 m1 c4, L), (nilV, []), (nilV, []), (.slice (some ⟨g15, 0, none⟩) 1 1, [(n : Int)])]))
    intro K4_15_18
    apply share4 (F := fun (g6 : Nat) (g15 : Nat) (g18 : Nat) (WX : World) => Hid (Rs w WX [(g18, nilV, nilV, nilV), (w.heap.size + 1, nilV, nilV, nilV), (w.heap.size, .int .i64 k, .int .i64 p, .int .i64 q)] [(nilV, []), (.slice (some ⟨g6, 0, none⟩) 1 1, [b]), (nilV, []), (.slice (some ⟨g15, 0, none⟩) 1 1, [(n : Int)])]))
    intro K6_15_18
    apply share4 (F := fun (g4 : Option Addr) (c4 : Nat) (g6 : Nat) (WX : World) => Hid (Rs w WX [(w.heap.size + 1, nilV, nilV, nilV), (w.heap.size, .int .i64 k, .int .i64 p, .int .i64 q)] [(.slice g4 m1 c4, L), (.slice (some ⟨g6, 0, none⟩) 1 1, [b]), (nilV, []), (nilV, [])]))
    intro K4_6
    apply share4 (F := fun (g4 : Option Addr) (c4 : Nat) (g15 : Nat) (WX : World) => Hid (Rs w WX [(w.heap.size + 1, nilV, nilV, nilV), (w.heap.size, .int .i64 k, .int .i64 p, .int .i64 q)] [(.slice g4 m1 c4, L), (nilV, []), (nilV, []), (.slice (some ⟨g15, 0, none⟩) 1 1, [(n : Int)])]))
    intro K4_15
    apply share4 (F := fun (g4 : Option Addr) (c4 : Nat) (g18 : Nat) (WX : World) => Hid (Rs w WX [(g18, nilV, nilV, nilV), (w.heap.size + 1, nilV, nilV, nilV), (w.heap.size, .int .i64 k, .int .i64 p, .int .i64 q)] [(.slice g4 m1 c4, L), (nilV, []), (nilV, []), (nilV, [])]))
    intro K4_18
    apply share3 (F := fun (g6 : Nat) (g15 : Nat) (WX : World) => Hid (Rs w WX [(w.heap.size + 1, nilV, nilV, nilV), (w.heap.size, .int .i64 k, .int .i64 p, .int .i64 q)] [(nilV, []), (.slice (some ⟨g6, 0, none⟩) 1 1, [b]), (nilV, []), (.slice (some ⟨g15, 0, none⟩) 1 1, [(n : Int)])]))
    intro K6_15
    apply share3 (F := fun (g6 : Nat) (g18 : Nat) (WX : World) => Hid (Rs w WX [(g18, nilV, nilV, nilV), (w.heap.size + 1, nilV, nilV, nilV), (w.heap.size, .int .i64 k, .int .i64 p, .int .i64 q)] [(nilV, []), (.slice (some ⟨g6, 0, none⟩) 1 1, [b]), (nilV, []), (nilV, [])]))
    intro K6_18
    apply share3 (F := fun (g15 : Nat) (g18 : Nat) (WX : World) => Hid (Rs w WX [(g18, nilV, nilV, nilV), (w.heap.size + 1, nilV, nilV, nilV), (w.heap.size, .int .i64 k, .int .i64 p, .int .i64 q)] [(nilV, []), (nilV, []), (nilV, []), (.slice (some ⟨g15, 0, none⟩) 1 1, [(n : Int)])]))
    intro K15_18
    apply share3 (F := fun (g4 : Option Addr) (c4 : Nat) (WX : World) => Hid (Rs w WX [(w.heap.size + 1, nilV, nilV, nilV), (w.heap.size, .int .i64 k, .int .i64 p, .int .i64 q)] [(.slice g4 m1 c4, L), (nilV, []), (nilV, []), (nilV, [])]))
    intro K4
    apply share2 (F := fun (g6 : Nat) (WX : World) => Hid (Rs w WX [(w.heap.size + 1, nilV, nilV, nilV), (w.heap.size, .int .i64 k, .int .i64 p, .int .i64 q)] [(nilV, []), (.slice (some ⟨g6, 0, none⟩) 1 1, [b]), (nilV, []), (nilV, [])]))
    intro K6
    apply share2 (F := fun (g15 : Nat) (WX : World) => Hid (Rs w WX [(w.heap.size + 1, nilV, nilV, nilV), (w.heap.size, .int .i64 k, .int .i64 p, .int .i64 q)] [(nilV, []), (nilV, []), (nilV, []), (.slice (some ⟨g15, 0, none⟩) 1 1, [(n : Int)])]))
    intro K15
    apply share2 (F := fun (g18 : Nat) (WX : World) => Hid (Rs w WX [(g18, nilV, nilV, nilV), (w.heap.size + 1, nilV, nilV, nilV), (w.heap.size, .int .i64 k, .int .i64 p, .int .i64 q)] [(nilV, []), (nilV, []), (nilV, []), (nilV, [])]))
    intro K18
    focus
      refine wpAnyH_ready (rs := [4, 6, 15, 18]) (by kernel_rfl) (by simp) ?_
      refine AllReadyH.cons rfl (fun K hK => ?_) (AllReadyH.cons rfl (fun K hK => ?_) (AllReadyH.cons rfl (fun K hK => ?_) (AllReadyH.cons rfl (fun K hK => ?_) AllReadyH.nil)))
      focus
        (go_simp; go_at_call 18; refine (ints_new (HT.out.l.below RX.out.bel (Nat.le_refl _)) RX.out.bel.size (by have := HML.out; omega)).mono ?_; rintro e WX ⟨v, rfl, ho, hb⟩; obtain ⟨g4, c4, rfl, -⟩ := ints_form ho.rd; have RY := RX.out.put1 hb ho; rw [HML.out.1] at RY ⊢; replace RX := Lib.hid RY; clear RY hb ho; change K _ _)
        refine hK.out _ _ (by (try dsimp only); with_reducible exact HK.out _ RX.out.bel) (fun hHeld => ?_)
        clear hK K
        try simp only [Act.put, List.getElem_toArray, List.getElem_cons_succ, List.getElem_cons_zero, List.setIfInBounds_toArray, List.set_cons_zero, List.set_cons_succ]
        exact K4.out g4 c4 WX RX
      focus
        (go_simp; obtain ⟨WX, g6, hW, hg, RY⟩ := RX.out.litX2 b; rw [hW]; (try rw [hg]); replace RX := Lib.hid RY; clear RY hW hg)
        refine hK.out _ _ (by (try dsimp only); with_reducible exact HK.out _ RX.out.bel) (fun hHeld => ?_)
        clear hK K
        try simp only [Act.put, List.getElem_toArray, List.getElem_cons_succ, List.getElem_cons_zero, List.setIfInBounds_toArray, List.set_cons_zero, List.set_cons_succ]
        exact K6.out g6 WX RX
      focus
        (go_simp; obtain ⟨WX, g15, hW, hg, RY⟩ := RX.out.litX4 (n : Int); rw [hW]; (try rw [hg]); replace RX := Lib.hid RY; clear RY hW hg)
        refine hK.out _ _ (by (try dsimp only); with_reducible exact HK.out _ RX.out.bel) (fun hHeld => ?_)
        clear hK K
        try simp only [Act.put, List.getElem_toArray, List.getElem_cons_succ, List.getElem_cons_zero, List.setIfInBounds_toArray, List.set_cons_zero, List.set_cons_succ]
        exact K15.out g15 WX RX
      focus
        (go_simp; obtain ⟨WX, g18, hW, hg, RY⟩ := RX.out.boxX nilV nilV nilV 28; rw [hW]; (try rw [hg]); replace RX := Lib.hid RY; clear RY hW hg)
        refine hK.out _ _ (by (try dsimp only); with_reducible exact HK.out _ RX.out.bel) (fun hHeld => ?_)
        clear hK K
        try simp only [Act.put, List.getElem_toArray, List.getElem_cons_succ, List.getElem_cons_zero, List.setIfInBounds_toArray, List.set_cons_zero, List.set_cons_succ]
        exact K18.out g18 WX RX
    focus
      intro g18 WX RX
      have hHeld : ((fun w' => w'.cell? ⟨gh, oh, none⟩ = some (.slice al m1 cl) ∧ w'.cell? ⟨gh, oh + 1, none⟩ = some (.slice ad m1 cd) ∧ w'.cell? ⟨gh, oh + 2, none⟩ = some (.slice ax m3 cx))) WX := by (try dsimp only); with_reducible exact HK.out _ RX.out.bel
      refine wpAnyH_ready (rs := [4, 6, 15]) (by kernel_rfl) (by simp) ?_
      refine AllReadyH.cons rfl (fun K hK => ?_) (AllReadyH.cons rfl (fun K hK => ?_) (AllReadyH.cons rfl (fun K hK => ?_) AllReadyH.nil))
      focus
        (go_simp; go_at_call 18; refine (ints_new (HT.out.l.below RX.out.bel (Nat.le_refl _)) RX.out.bel.size (by have := HML.out; omega)).mono ?_; rintro e WX ⟨v, rfl, ho, hb⟩; obtain ⟨g4, c4, rfl, -⟩ := ints_form ho.rd; have RY := RX.out.put1 hb ho; rw [HML.out.1] at RY ⊢; replace RX := Lib.hid RY; clear RY hb ho; change K _ _)
        refine hK.out _ _ (by (try dsimp only); with_reducible exact HK.out _ RX.out.bel) (fun hHeld => ?_)
        clear hK K
        try simp only [Act.put, List.getElem_toArray, List.getElem_cons_succ, List.getElem_cons_zero, List.setIfInBounds_toArray, List.set_cons_zero, List.set_cons_succ]
        exact K4_18.out g4 c4 g18 WX RX
      focus
        (go_simp; obtain ⟨WX, g6, hW, hg, RY⟩ := RX.out.litX2 b; rw [hW]; (try rw [hg]); replace RX := Lib.hid RY; clear RY hW hg)
        refine hK.out _ _ (by (try dsimp only); with_reducible exact HK.out _ RX.out.bel) (fun hHeld => ?_)
        clear hK K
        try simp only [Act.put, List.getElem_toArray, List.getElem_cons_succ, List.getElem_cons_zero, List.setIfInBounds_toArray, List.set_cons_zero, List.set_cons_succ]
        exact K6_18.out g6 g18 WX RX
      focus
        (go_simp; obtain ⟨WX, g15, hW, hg, RY⟩ := RX.out.litX4 (n : Int); rw [hW]; (try rw [hg]); replace RX := Lib.hid RY; clear RY hW hg)
        refine hK.out _ _ (by (try dsimp only); with_reducible exact HK.out _ RX.out.bel) (fun hHeld => ?_)
        clear hK K
        try simp only [Act.put, List.getElem_toArray, List.getElem_cons_succ, List.getElem_cons_zero, List.setIfInBounds_toArray, List.set_cons_zero, List.set_cons_succ]
        exact K15_18.out g15 g18 WX RX
    focus
      intro g15 WX RX
      have hHeld : ((fun w' => w'.cell? ⟨gh, oh, none⟩ = some (.slice al m1 cl) ∧ w'.cell? ⟨gh, oh + 1, none⟩ = some (.slice ad m1 cd) ∧ w'.cell? ⟨gh, oh + 2, none⟩ = some (.slice ax m3 cx))) WX := by (try dsimp only); with_reducible exact HK.out _ RX.out.bel
      refine wpAnyH_ready (rs := [4, 6, 18]) (by kernel_rfl) (by simp) ?_
      refine AllReadyH.cons rfl (fun K hK => ?_) (AllReadyH.cons rfl (fun K hK => ?_) (AllReadyH.cons rfl (fun K hK => ?_) AllReadyH.nil))
      focus
        (go_simp; go_at_call 18; refine (ints_new (HT.out.l.below RX.out.bel (Nat.le_refl _)) RX.out.bel.size (by have := HML.out; omega)).mono ?_; rintro e WX ⟨v, rfl, ho, hb⟩; obtain ⟨g4, c4, rfl, -⟩ := ints_form ho.rd; have RY := RX.out.put1 hb ho; rw [HML.out.1] at RY ⊢; replace RX := Lib.hid RY; clear RY hb ho; change K _ _)
        refine hK.out _ _ (by (try dsimp only); with_reducible exact HK.out _ RX.out.bel) (fun hHeld => ?_)
        clear hK K
        try simp only [Act.put, List.getElem_toArray, List.getElem_cons_succ, List.getElem_cons_zero, List.setIfInBounds_toArray, List.set_cons_zero, List.set_cons_succ]
        exact K4_15.out g4 c4 g15 WX RX
      focus
        (go_simp; obtain ⟨WX, g6, hW, hg, RY⟩ := RX.out.litX2 b; rw [hW]; (try rw [hg]); replace RX := Lib.hid RY; clear RY hW hg)
        refine hK.out _ _ (by (try dsimp only); with_reducible exact HK.out _ RX.out.bel) (fun hHeld => ?_)
        clear hK K
        try simp only [Act.put, List.getElem_toArray, List.getElem_cons_succ, List.getElem_cons_zero, List.setIfInBounds_toArray, List.set_cons_zero, List.set_cons_succ]
        exact K6_15.out g6 g15 WX RX
      focus
        (go_simp; obtain ⟨WX, g18, hW, hg, RY⟩ := RX.out.boxX nilV nilV nilV 28; rw [hW]; (try rw [hg]); replace RX := Lib.hid RY; clear RY hW hg)
        refine hK.out _ _ (by (try dsimp only); with_reducible exact HK.out _ RX.out.bel) (fun hHeld => ?_)
        clear hK K
        try simp only [Act.put, List.getElem_toArray, List.getElem_cons_succ, List.getElem_cons_zero, List.setIfInBounds_toArray, List.set_cons_zero, List.set_cons_succ]
        exact wpAnyH_listed (by kernel_rfl) (K15_18.out g15 g18 WX RX)
    focus
      intro g6 WX RX
      have hHeld : ((fun w' => w'.cell? ⟨gh, oh, none⟩ = some (.slice al m1 cl) ∧ w'.cell? ⟨gh, oh + 1, none⟩ = some (.slice ad m1 cd) ∧ w'.cell? ⟨gh, oh + 2, none⟩ = some (.slice ax m3 cx))) WX := by (try dsimp only); with_reducible exact HK.out _ RX.out.bel
      refine wpAnyH_ready (rs := [4, 15, 18]) (by kernel_rfl) (by simp) ?_
      refine AllReadyH.cons rfl (fun K hK => ?_) (AllReadyH.cons rfl (fun K hK => ?_) (AllReadyH.cons rfl (fun K hK => ?_) AllReadyH.nil))
      focus
        (go_simp; go_at_call 18; refine (ints_new (HT.out.l.below RX.out.bel (Nat.le_refl _)) RX.out.bel.size (by have := HML.out; omega)).mono ?_; rintro e WX ⟨v, rfl, ho, hb⟩; obtain ⟨g4, c4, rfl, -⟩ := ints_form ho.rd; have RY := RX.out.put1 hb ho; rw [HML.out.1] at RY ⊢; replace RX := Lib.hid RY; clear RY hb ho; change K _ _)
        refine hK.out _ _ (by (try dsimp only); with_reducible exact HK.out _ RX.out.bel) (fun hHeld => ?_)
        clear hK K
        try simp only [Act.put, List.getElem_toArray, List.getElem_cons_succ, List.getElem_cons_zero, List.setIfInBounds_toArray, List.set_cons_zero, List.set_cons_succ]
        exact K4_6.out g4 c4 g6 WX RX
      focus
        (go_simp; obtain ⟨WX, g15, hW, hg, RY⟩ := RX.out.litX4 (n : Int); rw [hW]; (try rw [hg]); replace RX := Lib.hid RY; clear RY hW hg)
        refine hK.out _ _ (by (try dsimp only); with_reducible exact HK.out _ RX.out.bel) (fun hHeld => ?_)
        clear hK K
        try simp only [Act.put, List.getElem_toArray, List.getElem_cons_succ, List.getElem_cons_zero, List.setIfInBounds_toArray, List.set_cons_zero, List.set_cons_succ]
        exact wpAnyH_listed (by kernel_rfl) (K6_15.out g6 g15 WX RX)
      focus
        (go_simp; obtain ⟨WX, g18, hW, hg, RY⟩ := RX.out.boxX nilV nilV nilV 28; rw [hW]; (try rw [hg]); replace RX := Lib.hid RY; clear RY hW hg)
        refine hK.out _ _ (by (try dsimp only); with_reducible exact HK.out _ RX.out.bel) (fun hHeld => ?_)
        clear hK K
        try simp only [Act.put, List.getElem_toArray, List.getElem_cons_succ, List.getElem_cons_zero, List.setIfInBounds_toArray, List.set_cons_zero, List.set_cons_succ]
        exact wpAnyH_listed (by kernel_rfl) (K6_18.out g6 g18 WX RX)
    focus
      intro g4 c4 WX RX
      have hHeld : ((fun w' => w'.cell? ⟨gh, oh, none⟩ = some (.slice al m1 cl) ∧ w'.cell? ⟨gh, oh + 1, none⟩ = some (.slice ad m1 cd) ∧ w'.cell? ⟨gh, oh + 2, none⟩ = some (.slice ax m3 cx))) WX := by (try dsimp only); with_reducible exact HK.out _ RX.out.bel
      refine wpAnyH_ready (rs := [6, 15, 18]) (by kernel_rfl) (by simp) ?_
      refine AllReadyH.cons rfl (fun K hK => ?_) (AllReadyH.cons rfl (fun K hK => ?_) (AllReadyH.cons rfl (fun K hK => ?_) AllReadyH.nil))
      focus
        (go_simp; obtain ⟨WX, g6, hW, hg, RY⟩ := RX.out.litX2 b; rw [hW]; (try rw [hg]); replace RX := Lib.hid RY; clear RY hW hg)
        refine hK.out _ _ (by (try dsimp only); with_reducible exact HK.out _ RX.out.bel) (fun hHeld => ?_)
        clear hK K
        try simp only [Act.put, List.getElem_toArray, List.getElem_cons_succ, List.getElem_cons_zero, List.setIfInBounds_toArray, List.set_cons_zero, List.set_cons_succ]
        exact wpAnyH_listed (by kernel_rfl) (K4_6.out g4 c4 g6 WX RX)
      focus
        (go_simp; obtain ⟨WX, g15, hW, hg, RY⟩ := RX.out.litX4 (n : Int); rw [hW]; (try rw [hg]); replace RX := Lib.hid RY; clear RY hW hg)
        refine hK.out _ _ (by (try dsimp only); with_reducible exact HK.out _ RX.out.bel) (fun hHeld => ?_)
        clear hK K
        try simp only [Act.put, List.getElem_toArray, List.getElem_cons_succ, List.getElem_cons_zero, List.setIfInBounds_toArray, List.set_cons_zero, List.set_cons_succ]
        exact wpAnyH_listed (by kernel_rfl) (K4_15.out g4 c4 g15 WX RX)
      focus
        (go_simp; obtain ⟨WX, g18, hW, hg, RY⟩ := RX.out.boxX nilV nilV nilV 28; rw [hW]; (try rw [hg]); replace RX := Lib.hid RY; clear RY hW hg)
        refine hK.out _ _ (by (try dsimp only); with_reducible exact HK.out _ RX.out.bel) (fun hHeld => ?_)
        clear hK K
        try simp only [Act.put, List.getElem_toArray, List.getElem_cons_succ, List.getElem_cons_zero, List.setIfInBounds_toArray, List.set_cons_zero, List.set_cons_succ]
        exact wpAnyH_listed (by kernel_rfl) (K4_18.out g4 c4 g18 WX RX)
    focus
      intro g15 g18 WX RX
      have hHeld : ((fun w' => w'.cell? ⟨gh, oh, none⟩ = some (.slice al m1 cl) ∧ w'.cell? ⟨gh, oh + 1, none⟩ = some (.slice ad m1 cd) ∧ w'.cell? ⟨gh, oh + 2, none⟩ = some (.slice ax m3 cx))) WX := by (try dsimp only); with_reducible exact HK.out _ RX.out.bel
      refine wpAnyH_ready (rs := [4, 6]) (by kernel_rfl) (by simp) ?_
      refine AllReadyH.cons rfl (fun K hK => ?_) (AllReadyH.cons rfl (fun K hK => ?_) AllReadyH.nil)
      focus
        (go_simp; go_at_call 18; refine (ints_new (HT.out.l.below RX.out.bel (Nat.le_refl _)) RX.out.bel.size (by have := HML.out; omega)).mono ?_; rintro e WX ⟨v, rfl, ho, hb⟩; obtain ⟨g4, c4, rfl, -⟩ := ints_form ho.rd; have RY := RX.out.put1 hb ho; rw [HML.out.1] at RY ⊢; replace RX := Lib.hid RY; clear RY hb ho; change K _ _)
        refine hK.out _ _ (by (try dsimp only); with_reducible exact HK.out _ RX.out.bel) (fun hHeld => ?_)
        clear hK K
        try simp only [Act.put, List.getElem_toArray, List.getElem_cons_succ, List.getElem_cons_zero, List.setIfInBounds_toArray, List.set_cons_zero, List.set_cons_succ]
        exact K4_15_18.out g4 c4 g15 g18 WX RX
      focus
        (go_simp; obtain ⟨WX, g6, hW, hg, RY⟩ := RX.out.litX2 b; rw [hW]; (try rw [hg]); replace RX := Lib.hid RY; clear RY hW hg)
        refine hK.out _ _ (by (try dsimp only); with_reducible exact HK.out _ RX.out.bel) (fun hHeld => ?_)
        clear hK K
        try simp only [Act.put, List.getElem_toArray, List.getElem_cons_succ, List.getElem_cons_zero, List.setIfInBounds_toArray, List.set_cons_zero, List.set_cons_succ]
        exact K6_15_18.out g6 g15 g18 WX RX
    focus
      intro g6 g18 WX RX
      have hHeld : ((fun w' => w'.cell? ⟨gh, oh, none⟩ = some (.slice al m1 cl) ∧ w'.cell? ⟨gh, oh + 1, none⟩ = some (.slice ad m1 cd) ∧ w'.cell? ⟨gh, oh + 2, none⟩ = some (.slice ax m3 cx))) WX := by (try dsimp only); with_reducible exact HK.out _ RX.out.bel
      refine wpAnyH_ready (rs := [4, 15]) (by kernel_rfl) (by simp) ?_
      refine AllReadyH.cons rfl (fun K hK => ?_) (AllReadyH.cons rfl (fun K hK => ?_) AllReadyH.nil)
      focus
        (go_simp; go_at_call 18; refine (ints_new (HT.out.l.below RX.out.bel (Nat.le_refl _)) RX.out.bel.size (by have := HML.out; omega)).mono ?_; rintro e WX ⟨v, rfl, ho, hb⟩; obtain ⟨g4, c4, rfl, -⟩ := ints_form ho.rd; have RY := RX.out.put1 hb ho; rw [HML.out.1] at RY ⊢; replace RX := Lib.hid RY; clear RY hb ho; change K _ _)
        refine hK.out _ _ (by (try dsimp only); with_reducible exact HK.out _ RX.out.bel) (fun hHeld => ?_)
        clear hK K
        try simp only [Act.put, List.getElem_toArray, List.getElem_cons_succ, List.getElem_cons_zero, List.setIfInBounds_toArray, List.set_cons_zero, List.set_cons_succ]
        exact K4_6_18.out g4 c4 g6 g18 WX RX
      focus
        (go_simp; obtain ⟨WX, g15, hW, hg, RY⟩ := RX.out.litX4 (n : Int); rw [hW]; (try rw [hg]); replace RX := Lib.hid RY; clear RY hW hg)
        refine hK.out _ _ (by (try dsimp only); with_reducible exact HK.out _ RX.out.bel) (fun hHeld => ?_)
        clear hK K
        try simp only [Act.put, List.getElem_toArray, List.getElem_cons_succ, List.getElem_cons_zero, List.setIfInBounds_toArray, List.set_cons_zero, List.set_cons_succ]
        exact wpAnyH_listed (by kernel_rfl) (K6_15_18.out g6 g15 g18 WX RX)
    focus
      intro g6 g15 WX RX
      have hHeld : ((fun w' => w'.cell? ⟨gh, oh, none⟩ = some (.slice al m1 cl) ∧ w'.cell? ⟨gh, oh + 1, none⟩ = some (.slice ad m1 cd) ∧ w'.cell? ⟨gh, oh + 2, none⟩ = some (.slice ax m3 cx))) WX := by (try dsimp only); with_reducible exact HK.out _ RX.out.bel
      refine wpAnyH_ready (rs := [4, 18]) (by kernel_rfl) (by simp) ?_
      refine AllReadyH.cons rfl (fun K hK => ?_) (AllReadyH.cons rfl (fun K hK => ?_) AllReadyH.nil)
      focus
        (go_simp; go_at_call 18; refine (ints_new (HT.out.l.below RX.out.bel (Nat.le_refl _)) RX.out.bel.size (by have := HML.out; omega)).mono ?_; rintro e WX ⟨v, rfl, ho, hb⟩; obtain ⟨g4, c4, rfl, -⟩ := ints_form ho.rd; have RY := RX.out.put1 hb ho; rw [HML.out.1] at RY ⊢; replace RX := Lib.hid RY; clear RY hb ho; change K _ _)
        refine hK.out _ _ (by (try dsimp only); with_reducible exact HK.out _ RX.out.bel) (fun hHeld => ?_)
        clear hK K
        try simp only [Act.put, List.getElem_toArray, List.getElem_cons_succ, List.getElem_cons_zero, List.setIfInBounds_toArray, List.set_cons_zero, List.set_cons_succ]
        exact K4_6_15.out g4 c4 g6 g15 WX RX
      focus
        (go_simp; obtain ⟨WX, g18, hW, hg, RY⟩ := RX.out.boxX nilV nilV nilV 28; rw [hW]; (try rw [hg]); replace RX := Lib.hid RY; clear RY hW hg)
        refine hK.out _ _ (by (try dsimp only); with_reducible exact HK.out _ RX.out.bel) (fun hHeld => ?_)
        clear hK K
        try simp only [Act.put, List.getElem_toArray, List.getElem_cons_succ, List.getElem_cons_zero, List.setIfInBounds_toArray, List.set_cons_zero, List.set_cons_succ]
        exact wpAnyH_listed (by kernel_rfl) (K6_15_18.out g6 g15 g18 WX RX)
    focus
      intro g4 c4 g18 WX RX
      have hHeld : ((fun w' => w'.cell? ⟨gh, oh, none⟩ = some (.slice al m1 cl) ∧ w'.cell? ⟨gh, oh + 1, none⟩ = some (.slice ad m1 cd) ∧ w'.cell? ⟨gh, oh + 2, none⟩ = some (.slice ax m3 cx))) WX := by (try dsimp only); with_reducible exact HK.out _ RX.out.bel
      refine wpAnyH_ready (rs := [6, 15]) (by kernel_rfl) (by simp) ?_
      refine AllReadyH.cons rfl (fun K hK => ?_) (AllReadyH.cons rfl (fun K hK => ?_) AllReadyH.nil)
      focus
        (go_simp; obtain ⟨WX, g6, hW, hg, RY⟩ := RX.out.litX2 b; rw [hW]; (try rw [hg]); replace RX := Lib.hid RY; clear RY hW hg)
        refine hK.out _ _ (by (try dsimp only); with_reducible exact HK.out _ RX.out.bel) (fun hHeld => ?_)
        clear hK K
        try simp only [Act.put, List.getElem_toArray, List.getElem_cons_succ, List.getElem_cons_zero, List.setIfInBounds_toArray, List.set_cons_zero, List.set_cons_succ]
        exact wpAnyH_listed (by kernel_rfl) (K4_6_18.out g4 c4 g6 g18 WX RX)
      focus
        (go_simp; obtain ⟨WX, g15, hW, hg, RY⟩ := RX.out.litX4 (n : Int); rw [hW]; (try rw [hg]); replace RX := Lib.hid RY; clear RY hW hg)
        refine hK.out _ _ (by (try dsimp only); with_reducible exact HK.out _ RX.out.bel) (fun hHeld => ?_)
        clear hK K
        try simp only [Act.put, List.getElem_toArray, List.getElem_cons_succ, List.getElem_cons_zero, List.setIfInBounds_toArray, List.set_cons_zero, List.set_cons_succ]
        exact wpAnyH_listed (by kernel_rfl) (K4_15_18.out g4 c4 g15 g18 WX RX)
    focus
      intro g4 c4 g15 WX RX
      have hHeld : ((fun w' => w'.cell? ⟨gh, oh, none⟩ = some (.slice al m1 cl) ∧ w'.cell? ⟨gh, oh + 1, none⟩ = some (.slice ad m1 cd) ∧ w'.cell? ⟨gh, oh + 2, none⟩ = some (.slice ax m3 cx))) WX := by (try dsimp only); with_reducible exact HK.out _ RX.out.bel
      refine wpAnyH_ready (rs := [6, 18]) (by kernel_rfl) (by simp) ?_
      refine AllReadyH.cons rfl (fun K hK => ?_) (AllReadyH.cons rfl (fun K hK => ?_) AllReadyH.nil)
      focus
        (go_simp; obtain ⟨WX, g6, hW, hg, RY⟩ := RX.out.litX2 b; rw [hW]; (try rw [hg]); replace RX := Lib.hid RY; clear RY hW hg)
        refine hK.out _ _ (by (try dsimp only); with_reducible exact HK.out _ RX.out.bel) (fun hHeld => ?_)
        clear hK K
        try simp only [Act.put, List.getElem_toArray, List.getElem_cons_succ, List.getElem_cons_zero, List.setIfInBounds_toArray, List.set_cons_zero, List.set_cons_succ]
        exact wpAnyH_listed (by kernel_rfl) (K4_6_15.out g4 c4 g6 g15 WX RX)
      focus
        (go_simp; obtain ⟨WX, g18, hW, hg, RY⟩ := RX.out.boxX nilV nilV nilV 28; rw [hW]; (try rw [hg]); replace RX := Lib.hid RY; clear RY hW hg)
        refine hK.out _ _ (by (try dsimp only); with_reducible exact HK.out _ RX.out.bel) (fun hHeld => ?_)
        clear hK K
        try simp only [Act.put, List.getElem_toArray, List.getElem_cons_succ, List.getElem_cons_zero, List.setIfInBounds_toArray, List.set_cons_zero, List.set_cons_succ]
        exact wpAnyH_listed (by kernel_rfl) (K4_15_18.out g4 c4 g15 g18 WX RX)
    focus
      intro g4 c4 g6 WX RX
      have hHeld : ((fun w' => w'.cell? ⟨gh, oh, none⟩ = some (.slice al m1 cl) ∧ w'.cell? ⟨gh, oh + 1, none⟩ = some (.slice ad m1 cd) ∧ w'.cell? ⟨gh, oh + 2, none⟩ = some (.slice ax m3 cx))) WX := by (try dsimp only); with_reducible exact HK.out _ RX.out.bel
      refine wpAnyH_ready (rs := [7, 15, 18]) (by kernel_rfl) (by simp) ?_
      refine AllReadyH.cons rfl (fun K hK => ?_) (AllReadyH.cons rfl (fun K hK => ?_) (AllReadyH.cons rfl (fun K hK => ?_) AllReadyH.nil))
      focus
        (have O1 := RX.out.row (v := .slice g4 m1 c4) (xs := L) (by simp) HML.out.1; have N1 := RX.out.litCell (g := g6) (x := b) (by simp); refine step_append_lies _ rfl (.tmp 39) (.tmp 41) 26 rfl w.heap.size 3 i0 (.int .i64 0) 1 8 Try.underlying26 J0.out J1.out J2.out J3.out rfl Nat.one_pos (.slice g4 m1 c4) m1 (ints L) rfl O1 ⟨g6, 0, none⟩ 1 1 (ints [b]) rfl rfl N1 (one_cells _) Nat.one_pos (by unfold maxLen; omega) (by omega) RX.out.bel.size _ rfl ?_; intro g7 c7 WX hown hgrow hl _; rw [← ints_append] at hown; have h11 := RX.out.app hown (by simp [HML.out.1]) hgrow hl; replace RX := Lib.hid h11; clear h11 O1 N1 hown hgrow hl)
        refine hK.out _ _ (by (try dsimp only); with_reducible exact HK.out _ RX.out.bel) (fun hHeld => ?_)
        clear hK K
        try simp only [Act.put, List.getElem_toArray, List.getElem_cons_succ, List.getElem_cons_zero, List.setIfInBounds_toArray, List.set_cons_zero, List.set_cons_succ]
        exact K4_6_7.out g7 c7 g4 c4 g6 WX RX
      focus
        (go_simp; obtain ⟨WX, g15, hW, hg, RY⟩ := RX.out.litX4 (n : Int); rw [hW]; (try rw [hg]); replace RX := Lib.hid RY; clear RY hW hg)
        refine hK.out _ _ (by (try dsimp only); with_reducible exact HK.out _ RX.out.bel) (fun hHeld => ?_)
        clear hK K
        try simp only [Act.put, List.getElem_toArray, List.getElem_cons_succ, List.getElem_cons_zero, List.setIfInBounds_toArray, List.set_cons_zero, List.set_cons_succ]
        exact wpAnyH_listed (by kernel_rfl) (K4_6_15.out g4 c4 g6 g15 WX RX)
      focus
        (go_simp; obtain ⟨WX, g18, hW, hg, RY⟩ := RX.out.boxX nilV nilV nilV 28; rw [hW]; (try rw [hg]); replace RX := Lib.hid RY; clear RY hW hg)
        refine hK.out _ _ (by (try dsimp only); with_reducible exact HK.out _ RX.out.bel) (fun hHeld => ?_)
        clear hK K
        try simp only [Act.put, List.getElem_toArray, List.getElem_cons_succ, List.getElem_cons_zero, List.setIfInBounds_toArray, List.set_cons_zero, List.set_cons_succ]
        exact wpAnyH_listed (by kernel_rfl) (K4_6_18.out g4 c4 g6 g18 WX RX)
    focus
      intro g6 g15 g18 WX RX
      have hHeld : ((fun w' => w'.cell? ⟨gh, oh, none⟩ = some (.slice al m1 cl) ∧ w'.cell? ⟨gh, oh + 1, none⟩ = some (.slice ad m1 cd) ∧ w'.cell? ⟨gh, oh + 2, none⟩ = some (.slice ax m3 cx))) WX := by (try dsimp only); with_reducible exact HK.out _ RX.out.bel
      refine wpAnyH_ready (rs := [4]) (by kernel_rfl) (by simp) ?_
      refine AllReadyH.cons rfl (fun K hK => ?_) AllReadyH.nil
      focus
        (go_simp; go_at_call 18; refine (ints_new (HT.out.l.below RX.out.bel (Nat.le_refl _)) RX.out.bel.size (by have := HML.out; omega)).mono ?_; rintro e WX ⟨v, rfl, ho, hb⟩; obtain ⟨g4, c4, rfl, -⟩ := ints_form ho.rd; have RY := RX.out.put1 hb ho; rw [HML.out.1] at RY ⊢; replace RX := Lib.hid RY; clear RY hb ho; change K _ _)
        refine hK.out _ _ (by (try dsimp only); with_reducible exact HK.out _ RX.out.bel) (fun hHeld => ?_)
        clear hK K
        try simp only [Act.put, List.getElem_toArray, List.getElem_cons_succ, List.getElem_cons_zero, List.setIfInBounds_toArray, List.set_cons_zero, List.set_cons_succ]
        exact K4_6_15_18.out g4 c4 g6 g15 g18 WX RX
    focus
      intro g4 c4 g15 g18 WX RX
      have hHeld : ((fun w' => w'.cell? ⟨gh, oh, none⟩ = some (.slice al m1 cl) ∧ w'.cell? ⟨gh, oh + 1, none⟩ = some (.slice ad m1 cd) ∧ w'.cell? ⟨gh, oh + 2, none⟩ = some (.slice ax m3 cx))) WX := by (try dsimp only); with_reducible exact HK.out _ RX.out.bel
      refine wpAnyH_ready (rs := [6]) (by kernel_rfl) (by simp) ?_
      refine AllReadyH.cons rfl (fun K hK => ?_) AllReadyH.nil
      focus
        (go_simp; obtain ⟨WX, g6, hW, hg, RY⟩ := RX.out.litX2 b; rw [hW]; (try rw [hg]); replace RX := Lib.hid RY; clear RY hW hg)
        refine hK.out _ _ (by (try dsimp only); with_reducible exact HK.out _ RX.out.bel) (fun hHeld => ?_)
        clear hK K
        try simp only [Act.put, List.getElem_toArray, List.getElem_cons_succ, List.getElem_cons_zero, List.setIfInBounds_toArray, List.set_cons_zero, List.set_cons_succ]
        exact wpAnyH_listed (by kernel_rfl) (K4_6_15_18.out g4 c4 g6 g15 g18 WX RX)
    focus
      intro g4 c4 g6 g18 WX RX
      have hHeld : ((fun w' => w'.cell? ⟨gh, oh, none⟩ = some (.slice al m1 cl) ∧ w'.cell? ⟨gh, oh + 1, none⟩ = some (.slice ad m1 cd) ∧ w'.cell? ⟨gh, oh + 2, none⟩ = some (.slice ax m3 cx))) WX := by (try dsimp only); with_reducible exact HK.out _ RX.out.bel
      refine wpAnyH_ready (rs := [7, 15]) (by kernel_rfl) (by simp) ?_
      refine AllReadyH.cons rfl (fun K hK => ?_) (AllReadyH.cons rfl (fun K hK => ?_) AllReadyH.nil)
      focus
        (have O1 := RX.out.row (v := .slice g4 m1 c4) (xs := L) (by simp) HML.out.1; have N1 := RX.out.litCell (g := g6) (x := b) (by simp); refine step_append_lies _ rfl (.tmp 39) (.tmp 41) 26 rfl w.heap.size 3 i0 (.int .i64 0) 1 8 Try.underlying26 J0.out J1.out J2.out J3.out rfl Nat.one_pos (.slice g4 m1 c4) m1 (ints L) rfl O1 ⟨g6, 0, none⟩ 1 1 (ints [b]) rfl rfl N1 (one_cells _) Nat.one_pos (by unfold maxLen; omega) (by omega) RX.out.bel.size _ rfl ?_; intro g7 c7 WX hown hgrow hl _; rw [← ints_append] at hown; have h11 := RX.out.app hown (by simp [HML.out.1]) hgrow hl; replace RX := Lib.hid h11; clear h11 O1 N1 hown hgrow hl)
        refine hK.out _ _ (by (try dsimp only); with_reducible exact HK.out _ RX.out.bel) (fun hHeld => ?_)
        clear hK K
        try simp only [Act.put, List.getElem_toArray, List.getElem_cons_succ, List.getElem_cons_zero, List.setIfInBounds_toArray, List.set_cons_zero, List.set_cons_succ]
        exact K4_6_7_18.out g7 c7 g4 c4 g6 g18 WX RX
      focus
        (go_simp; obtain ⟨WX, g15, hW, hg, RY⟩ := RX.out.litX4 (n : Int); rw [hW]; (try rw [hg]); replace RX := Lib.hid RY; clear RY hW hg)
        refine hK.out _ _ (by (try dsimp only); with_reducible exact HK.out _ RX.out.bel) (fun hHeld => ?_)
        clear hK K
        try simp only [Act.put, List.getElem_toArray, List.getElem_cons_succ, List.getElem_cons_zero, List.setIfInBounds_toArray, List.set_cons_zero, List.set_cons_succ]
        exact wpAnyH_listed (by kernel_rfl) (K4_6_15_18.out g4 c4 g6 g15 g18 WX RX)
    focus
      intro g4 c4 g6 g15 WX RX
      have hHeld : ((fun w' => w'.cell? ⟨gh, oh, none⟩ = some (.slice al m1 cl) ∧ w'.cell? ⟨gh, oh + 1, none⟩ = some (.slice ad m1 cd) ∧ w'.cell? ⟨gh, oh + 2, none⟩ = some (.slice ax m3 cx))) WX := by (try dsimp only); with_reducible exact HK.out _ RX.out.bel
      refine wpAnyH_ready (rs := [7, 18]) (by kernel_rfl) (by simp) ?_
      refine AllReadyH.cons rfl (fun K hK => ?_) (AllReadyH.cons rfl (fun K hK => ?_) AllReadyH.nil)
      focus
        (have O1 := RX.out.row (v := .slice g4 m1 c4) (xs := L) (by simp) HML.out.1; have N1 := RX.out.litCell (g := g6) (x := b) (by simp); refine step_append_lies _ rfl (.tmp 39) (.tmp 41) 26 rfl w.heap.size 3 i0 (.int .i64 0) 1 8 Try.underlying26 J0.out J1.out J2.out J3.out rfl Nat.one_pos (.slice g4 m1 c4) m1 (ints L) rfl O1 ⟨g6, 0, none⟩ 1 1 (ints [b]) rfl rfl N1 (one_cells _) Nat.one_pos (by unfold maxLen; omega) (by omega) RX.out.bel.size _ rfl ?_; intro g7 c7 WX hown hgrow hl _; rw [← ints_append] at hown; have h11 := RX.out.app hown (by simp [HML.out.1]) hgrow hl; replace RX := Lib.hid h11; clear h11 O1 N1 hown hgrow hl)
        refine hK.out _ _ (by (try dsimp only); with_reducible exact HK.out _ RX.out.bel) (fun hHeld => ?_)
        clear hK K
        try simp only [Act.put, List.getElem_toArray, List.getElem_cons_succ, List.getElem_cons_zero, List.setIfInBounds_toArray, List.set_cons_zero, List.set_cons_succ]
        exact K4_6_7_15.out g7 c7 g4 c4 g6 g15 WX RX
      focus
        (go_simp; obtain ⟨WX, g18, hW, hg, RY⟩ := RX.out.boxX nilV nilV nilV 28; rw [hW]; (try rw [hg]); replace RX := Lib.hid RY; clear RY hW hg)
        refine hK.out _ _ (by (try dsimp only); with_reducible exact HK.out _ RX.out.bel) (fun hHeld => ?_)
        clear hK K
        try simp only [Act.put, List.getElem_toArray, List.getElem_cons_succ, List.getElem_cons_zero, List.setIfInBounds_toArray, List.set_cons_zero, List.set_cons_succ]
        exact wpAnyH_listed (by kernel_rfl) (K4_6_15_18.out g4 c4 g6 g15 g18 WX RX)
    focus
      intro g7 c7 g4 c4 g6 WX RX
      have hHeld : ((fun w' => w'.cell? ⟨gh, oh, none⟩ = some (.slice al m1 cl) ∧ w'.cell? ⟨gh, oh + 1, none⟩ = some (.slice ad m1 cd) ∧ w'.cell? ⟨gh, oh + 2, none⟩ = some (.slice ax m3 cx))) WX := by (try dsimp only); with_reducible exact HK.out _ RX.out.bel
      refine wpAnyH_ready (rs := [12, 15, 18]) (by kernel_rfl) (by simp) ?_
      refine AllReadyH.cons rfl (fun K hK => ?_) (AllReadyH.cons rfl (fun K hK => ?_) (AllReadyH.cons rfl (fun K hK => ?_) AllReadyH.nil))
      focus
        (go_simp; go_at_call 18; refine (ints_new (HT.out.d.below RX.out.bel (Nat.le_refl _)) RX.out.bel.size (by have := HML.out; omega)).mono ?_; rintro e WX ⟨v, rfl, ho, hb⟩; obtain ⟨g12, c12, rfl, -⟩ := ints_form ho.rd; have RY := RX.out.put3 hb ho; rw [HML.out.2.1] at RY ⊢; replace RX := Lib.hid RY; clear RY hb ho; change K _ _)
        refine hK.out _ _ (by (try dsimp only); with_reducible exact HK.out _ RX.out.bel) (fun hHeld => ?_)
        clear hK K
        try simp only [Act.put, List.getElem_toArray, List.getElem_cons_succ, List.getElem_cons_zero, List.setIfInBounds_toArray, List.set_cons_zero, List.set_cons_succ]
        exact K4_6_7_12.out g7 c7 g4 c4 g6 g12 c12 WX RX
      focus
        (go_simp; obtain ⟨WX, g15, hW, hg, RY⟩ := RX.out.litX4 (n : Int); rw [hW]; (try rw [hg]); replace RX := Lib.hid RY; clear RY hW hg)
        refine hK.out _ _ (by (try dsimp only); with_reducible exact HK.out _ RX.out.bel) (fun hHeld => ?_)
        clear hK K
        try simp only [Act.put, List.getElem_toArray, List.getElem_cons_succ, List.getElem_cons_zero, List.setIfInBounds_toArray, List.set_cons_zero, List.set_cons_succ]
        exact wpAnyH_listed (by kernel_rfl) (K4_6_7_15.out g7 c7 g4 c4 g6 g15 WX RX)
      focus
        (go_simp; obtain ⟨WX, g18, hW, hg, RY⟩ := RX.out.boxX nilV nilV nilV 28; rw [hW]; (try rw [hg]); replace RX := Lib.hid RY; clear RY hW hg)
        refine hK.out _ _ (by (try dsimp only); with_reducible exact HK.out _ RX.out.bel) (fun hHeld => ?_)
        clear hK K
        try simp only [Act.put, List.getElem_toArray, List.getElem_cons_succ, List.getElem_cons_zero, List.setIfInBounds_toArray, List.set_cons_zero, List.set_cons_succ]
        exact wpAnyH_listed (by kernel_rfl) (K4_6_7_18.out g7 c7 g4 c4 g6 g18 WX RX)
    focus
      intro g4 c4 g6 g15 g18 WX RX
      have hHeld : ((fun w' => w'.cell? ⟨gh, oh, none⟩ = some (.slice al m1 cl) ∧ w'.cell? ⟨gh, oh + 1, none⟩ = some (.slice ad m1 cd) ∧ w'.cell? ⟨gh, oh + 2, none⟩ = some (.slice ax m3 cx))) WX := by (try dsimp only); with_reducible exact HK.out _ RX.out.bel
      refine wpAnyH_ready (rs := [7]) (by kernel_rfl) (by simp) ?_
      refine AllReadyH.cons rfl (fun K hK => ?_) AllReadyH.nil
      focus
        (have O1 := RX.out.row (v := .slice g4 m1 c4) (xs := L) (by simp) HML.out.1; have N1 := RX.out.litCell (g := g6) (x := b) (by simp); refine step_append_lies _ rfl (.tmp 39) (.tmp 41) 26 rfl w.heap.size 3 i0 (.int .i64 0) 1 8 Try.underlying26 J0.out J1.out J2.out J3.out rfl Nat.one_pos (.slice g4 m1 c4) m1 (ints L) rfl O1 ⟨g6, 0, none⟩ 1 1 (ints [b]) rfl rfl N1 (one_cells _) Nat.one_pos (by unfold maxLen; omega) (by omega) RX.out.bel.size _ rfl ?_; intro g7 c7 WX hown hgrow hl _; rw [← ints_append] at hown; have h11 := RX.out.app hown (by simp [HML.out.1]) hgrow hl; replace RX := Lib.hid h11; clear h11 O1 N1 hown hgrow hl)
        refine hK.out _ _ (by (try dsimp only); with_reducible exact HK.out _ RX.out.bel) (fun hHeld => ?_)
        clear hK K
        try simp only [Act.put, List.getElem_toArray, List.getElem_cons_succ, List.getElem_cons_zero, List.setIfInBounds_toArray, List.set_cons_zero, List.set_cons_succ]
        exact K4_6_7_15_18.out g7 c7 g4 c4 g6 g15 g18 WX RX
    focus
      intro g7 c7 g4 c4 g6 g18 WX RX
      have hHeld : ((fun w' => w'.cell? ⟨gh, oh, none⟩ = some (.slice al m1 cl) ∧ w'.cell? ⟨gh, oh + 1, none⟩ = some (.slice ad m1 cd) ∧ w'.cell? ⟨gh, oh + 2, none⟩ = some (.slice ax m3 cx))) WX := by (try dsimp only); with_reducible exact HK.out _ RX.out.bel
      refine wpAnyH_ready (rs := [12, 15]) (by kernel_rfl) (by simp) ?_
      refine AllReadyH.cons rfl (fun K hK => ?_) (AllReadyH.cons rfl (fun K hK => ?_) AllReadyH.nil)
      focus
        (go_simp; go_at_call 18; refine (ints_new (HT.out.d.below RX.out.bel (Nat.le_refl _)) RX.out.bel.size (by have := HML.out; omega)).mono ?_; rintro e WX ⟨v, rfl, ho, hb⟩; obtain ⟨g12, c12, rfl, -⟩ := ints_form ho.rd; have RY := RX.out.put3 hb ho; rw [HML.out.2.1] at RY ⊢; replace RX := Lib.hid RY; clear RY hb ho; change K _ _)
        refine hK.out _ _ (by (try dsimp only); with_reducible exact HK.out _ RX.out.bel) (fun hHeld => ?_)
        clear hK K
        try simp only [Act.put, List.getElem_toArray, List.getElem_cons_succ, List.getElem_cons_zero, List.setIfInBounds_toArray, List.set_cons_zero, List.set_cons_succ]
        exact K4_6_7_12_18.out g7 c7 g4 c4 g6 g12 c12 g18 WX RX
      focus
        (go_simp; obtain ⟨WX, g15, hW, hg, RY⟩ := RX.out.litX4 (n : Int); rw [hW]; (try rw [hg]); replace RX := Lib.hid RY; clear RY hW hg)
        refine hK.out _ _ (by (try dsimp only); with_reducible exact HK.out _ RX.out.bel) (fun hHeld => ?_)
        clear hK K
        try simp only [Act.put, List.getElem_toArray, List.getElem_cons_succ, List.getElem_cons_zero, List.setIfInBounds_toArray, List.set_cons_zero, List.set_cons_succ]
        exact wpAnyH_listed (by kernel_rfl) (K4_6_7_15_18.out g7 c7 g4 c4 g6 g15 g18 WX RX)
    focus
      intro g7 c7 g4 c4 g6 g15 WX RX
      have hHeld : ((fun w' => w'.cell? ⟨gh, oh, none⟩ = some (.slice al m1 cl) ∧ w'.cell? ⟨gh, oh + 1, none⟩ = some (.slice ad m1 cd) ∧ w'.cell? ⟨gh, oh + 2, none⟩ = some (.slice ax m3 cx))) WX := by (try dsimp only); with_reducible exact HK.out _ RX.out.bel
      refine wpAnyH_ready (rs := [12, 18]) (by kernel_rfl) (by simp) ?_
      refine AllReadyH.cons rfl (fun K hK => ?_) (AllReadyH.cons rfl (fun K hK => ?_) AllReadyH.nil)
      focus
        (go_simp; go_at_call 18; refine (ints_new (HT.out.d.below RX.out.bel (Nat.le_refl _)) RX.out.bel.size (by have := HML.out; omega)).mono ?_; rintro e WX ⟨v, rfl, ho, hb⟩; obtain ⟨g12, c12, rfl, -⟩ := ints_form ho.rd; have RY := RX.out.put3 hb ho; rw [HML.out.2.1] at RY ⊢; replace RX := Lib.hid RY; clear RY hb ho; change K _ _)
        refine hK.out _ _ (by (try dsimp only); with_reducible exact HK.out _ RX.out.bel) (fun hHeld => ?_)
        clear hK K
        try simp only [Act.put, List.getElem_toArray, List.getElem_cons_succ, List.getElem_cons_zero, List.setIfInBounds_toArray, List.set_cons_zero, List.set_cons_succ]
        exact K4_6_7_12_15.out g7 c7 g4 c4 g6 g12 c12 g15 WX RX
      focus
        (go_simp; obtain ⟨WX, g18, hW, hg, RY⟩ := RX.out.boxX nilV nilV nilV 28; rw [hW]; (try rw [hg]); replace RX := Lib.hid RY; clear RY hW hg)
        refine hK.out _ _ (by (try dsimp only); with_reducible exact HK.out _ RX.out.bel) (fun hHeld => ?_)
        clear hK K
        try simp only [Act.put, List.getElem_toArray, List.getElem_cons_succ, List.getElem_cons_zero, List.setIfInBounds_toArray, List.set_cons_zero, List.set_cons_succ]
        exact wpAnyH_listed (by kernel_rfl) (K4_6_7_15_18.out g7 c7 g4 c4 g6 g15 g18 WX RX)
    focus
      intro g7 c7 g4 c4 g6 g12 c12 WX RX
      have hHeld : ((fun w' => w'.cell? ⟨gh, oh, none⟩ = some (.slice al m1 cl) ∧ w'.cell? ⟨gh, oh + 1, none⟩ = some (.slice ad m1 cd) ∧ w'.cell? ⟨gh, oh + 2, none⟩ = some (.slice ax m3 cx))) WX := by (try dsimp only); with_reducible exact HK.out _ RX.out.bel
      refine wpAnyH_ready (rs := [15, 18]) (by kernel_rfl) (by simp) ?_
      refine AllReadyH.cons rfl (fun K hK => ?_) (AllReadyH.cons rfl (fun K hK => ?_) AllReadyH.nil)
      focus
        (go_simp; obtain ⟨WX, g15, hW, hg, RY⟩ := RX.out.litX4 (n : Int); rw [hW]; (try rw [hg]); replace RX := Lib.hid RY; clear RY hW hg)
        refine hK.out _ _ (by (try dsimp only); with_reducible exact HK.out _ RX.out.bel) (fun hHeld => ?_)
        clear hK K
        try simp only [Act.put, List.getElem_toArray, List.getElem_cons_succ, List.getElem_cons_zero, List.setIfInBounds_toArray, List.set_cons_zero, List.set_cons_succ]
        exact wpAnyH_listed (by kernel_rfl) (K4_6_7_12_15.out g7 c7 g4 c4 g6 g12 c12 g15 WX RX)
      focus
        (go_simp; obtain ⟨WX, g18, hW, hg, RY⟩ := RX.out.boxX nilV nilV nilV 28; rw [hW]; (try rw [hg]); replace RX := Lib.hid RY; clear RY hW hg)
        refine hK.out _ _ (by (try dsimp only); with_reducible exact HK.out _ RX.out.bel) (fun hHeld => ?_)
        clear hK K
        try simp only [Act.put, List.getElem_toArray, List.getElem_cons_succ, List.getElem_cons_zero, List.setIfInBounds_toArray, List.set_cons_zero, List.set_cons_succ]
        exact wpAnyH_listed (by kernel_rfl) (K4_6_7_12_18.out g7 c7 g4 c4 g6 g12 c12 g18 WX RX)
    focus
      intro g7 c7 g4 c4 g6 g15 g18 WX RX
      have hHeld : ((fun w' => w'.cell? ⟨gh, oh, none⟩ = some (.slice al m1 cl) ∧ w'.cell? ⟨gh, oh + 1, none⟩ = some (.slice ad m1 cd) ∧ w'.cell? ⟨gh, oh + 2, none⟩ = some (.slice ax m3 cx))) WX := by (try dsimp only); with_reducible exact HK.out _ RX.out.bel
      refine wpAnyH_ready (rs := [12]) (by kernel_rfl) (by simp) ?_
      refine AllReadyH.cons rfl (fun K hK => ?_) AllReadyH.nil
      focus
        (go_simp; go_at_call 18; refine (ints_new (HT.out.d.below RX.out.bel (Nat.le_refl _)) RX.out.bel.size (by have := HML.out; omega)).mono ?_; rintro e WX ⟨v, rfl, ho, hb⟩; obtain ⟨g12, c12, rfl, -⟩ := ints_form ho.rd; have RY := RX.out.put3 hb ho; rw [HML.out.2.1] at RY ⊢; replace RX := Lib.hid RY; clear RY hb ho; change K _ _)
        refine hK.out _ _ (by (try dsimp only); with_reducible exact HK.out _ RX.out.bel) (fun hHeld => ?_)
        clear hK K
        try simp only [Act.put, List.getElem_toArray, List.getElem_cons_succ, List.getElem_cons_zero, List.setIfInBounds_toArray, List.set_cons_zero, List.set_cons_succ]
        exact K4_6_7_12_15_18.out g7 c7 g4 c4 g6 g12 c12 g15 g18 WX RX
    focus
      intro g7 c7 g4 c4 g6 g12 c12 g18 WX RX
      have hHeld : ((fun w' => w'.cell? ⟨gh, oh, none⟩ = some (.slice al m1 cl) ∧ w'.cell? ⟨gh, oh + 1, none⟩ = some (.slice ad m1 cd) ∧ w'.cell? ⟨gh, oh + 2, none⟩ = some (.slice ax m3 cx))) WX := by (try dsimp only); with_reducible exact HK.out _ RX.out.bel
      refine wpAnyH_ready (rs := [15]) (by kernel_rfl) (by simp) ?_
      refine AllReadyH.cons rfl (fun K hK => ?_) AllReadyH.nil
      focus
        (go_simp; obtain ⟨WX, g15, hW, hg, RY⟩ := RX.out.litX4 (n : Int); rw [hW]; (try rw [hg]); replace RX := Lib.hid RY; clear RY hW hg)
        refine hK.out _ _ (by (try dsimp only); with_reducible exact HK.out _ RX.out.bel) (fun hHeld => ?_)
        clear hK K
        try simp only [Act.put, List.getElem_toArray, List.getElem_cons_succ, List.getElem_cons_zero, List.setIfInBounds_toArray, List.set_cons_zero, List.set_cons_succ]
        exact wpAnyH_listed (by kernel_rfl) (K4_6_7_12_15_18.out g7 c7 g4 c4 g6 g12 c12 g15 g18 WX RX)
    focus
      intro g7 c7 g4 c4 g6 g12 c12 g15 WX RX
      have hHeld : ((fun w' => w'.cell? ⟨gh, oh, none⟩ = some (.slice al m1 cl) ∧ w'.cell? ⟨gh, oh + 1, none⟩ = some (.slice ad m1 cd) ∧ w'.cell? ⟨gh, oh + 2, none⟩ = some (.slice ax m3 cx))) WX := by (try dsimp only); with_reducible exact HK.out _ RX.out.bel
      refine wpAnyH_ready (rs := [16, 18]) (by kernel_rfl) (by simp) ?_
      refine AllReadyH.cons rfl (fun K hK => ?_) (AllReadyH.cons rfl (fun K hK => ?_) AllReadyH.nil)
      focus
        (have O1 := RX.out.row (v := .slice g12 m1 c12) (xs := D) (by simp) HML.out.2.1; have N1 := RX.out.litCell (g := g15) (x := (n : Int)) (by simp); refine step_append_lies _ rfl (.tmp 47) (.tmp 50) 26 rfl w.heap.size 3 i0 (.int .i64 0) 1 8 Try.underlying26 J0.out J1.out J2.out J3.out rfl Nat.one_pos (.slice g12 m1 c12) m1 (ints D) rfl O1 ⟨g15, 0, none⟩ 1 1 (ints [(n : Int)]) rfl rfl N1 (one_cells _) Nat.one_pos (by unfold maxLen; omega) (by omega) RX.out.bel.size _ rfl ?_; intro g16 c16 WX hown hgrow hl _; rw [← ints_append] at hown; have h11 := (RX.out.third.app hown (by simp [HML.out.2.1]) hgrow hl).backT; replace RX := Lib.hid h11; clear h11 O1 N1 hown hgrow hl)
        refine hK.out _ _ (by (try dsimp only); with_reducible exact HK.out _ RX.out.bel) (fun hHeld => ?_)
        clear hK K
        try simp only [Act.put, List.getElem_toArray, List.getElem_cons_succ, List.getElem_cons_zero, List.setIfInBounds_toArray, List.set_cons_zero, List.set_cons_succ]
        refine wpAnyH_take (i := 17) (v := ?_) rfl (by kernel_rfl) (by kernel_rfl) (by kernel_rfl) (fun _ _ _ h => h) (Or.inl ⟨by rfl, ?_⟩) (by assumption) ?_
        rotate_left
        · intro w hSw; (try dsimp only at hSw); go_simp <;> with_reducible rfl
        try simp only [Act.put, List.getElem_toArray, List.getElem_cons_succ, List.getElem_cons_zero, List.setIfInBounds_toArray, List.set_cons_zero, List.set_cons_succ]
        exact K4_6_7_12_15_16.out g7 c7 g4 c4 g6 g16 c16 g12 c12 g15 WX RX
      focus
        (go_simp; obtain ⟨WX, g18, hW, hg, RY⟩ := RX.out.boxX nilV nilV nilV 28; rw [hW]; (try rw [hg]); replace RX := Lib.hid RY; clear RY hW hg)
        refine hK.out _ _ (by (try dsimp only); with_reducible exact HK.out _ RX.out.bel) (fun hHeld => ?_)
        clear hK K
        try simp only [Act.put, List.getElem_toArray, List.getElem_cons_succ, List.getElem_cons_zero, List.setIfInBounds_toArray, List.set_cons_zero, List.set_cons_succ]
        exact wpAnyH_listed (by kernel_rfl) (K4_6_7_12_15_18.out g7 c7 g4 c4 g6 g12 c12 g15 g18 WX RX)
    focus
      intro g7 c7 g4 c4 g6 g12 c12 g15 g18 WX RX
      have hHeld : ((fun w' => w'.cell? ⟨gh, oh, none⟩ = some (.slice al m1 cl) ∧ w'.cell? ⟨gh, oh + 1, none⟩ = some (.slice ad m1 cd) ∧ w'.cell? ⟨gh, oh + 2, none⟩ = some (.slice ax m3 cx))) WX := by (try dsimp only); with_reducible exact HK.out _ RX.out.bel
      refine wpAnyH_ready (rs := [16]) (by kernel_rfl) (by simp) ?_
      refine AllReadyH.cons rfl (fun K hK => ?_) AllReadyH.nil
      focus
        (have O1 := RX.out.row (v := .slice g12 m1 c12) (xs := D) (by simp) HML.out.2.1; have N1 := RX.out.litCell (g := g15) (x := (n : Int)) (by simp); refine step_append_lies _ rfl (.tmp 47) (.tmp 50) 26 rfl w.heap.size 3 i0 (.int .i64 0) 1 8 Try.underlying26 J0.out J1.out J2.out J3.out rfl Nat.one_pos (.slice g12 m1 c12) m1 (ints D) rfl O1 ⟨g15, 0, none⟩ 1 1 (ints [(n : Int)]) rfl rfl N1 (one_cells _) Nat.one_pos (by unfold maxLen; omega) (by omega) RX.out.bel.size _ rfl ?_; intro g16 c16 WX hown hgrow hl _; rw [← ints_append] at hown; have h11 := (RX.out.third.app hown (by simp [HML.out.2.1]) hgrow hl).backT; replace RX := Lib.hid h11; clear h11 O1 N1 hown hgrow hl)
        refine hK.out _ _ (by (try dsimp only); with_reducible exact HK.out _ RX.out.bel) (fun hHeld => ?_)
        clear hK K
        try simp only [Act.put, List.getElem_toArray, List.getElem_cons_succ, List.getElem_cons_zero, List.setIfInBounds_toArray, List.set_cons_zero, List.set_cons_succ]
        refine wpAnyH_take (i := 17) (v := ?_) rfl (by kernel_rfl) (by kernel_rfl) (by kernel_rfl) (fun _ _ _ h => h) (Or.inl ⟨by rfl, ?_⟩) (by assumption) ?_
        rotate_left
        · intro w hSw; (try dsimp only at hSw); go_simp <;> with_reducible rfl
        try simp only [Act.put, List.getElem_toArray, List.getElem_cons_succ, List.getElem_cons_zero, List.setIfInBounds_toArray, List.set_cons_zero, List.set_cons_succ]
        exact K4_6_7_12_15_16_18.out g7 c7 g4 c4 g6 g16 c16 g12 c12 g15 g18 WX RX
    focus
      intro g7 c7 g4 c4 g6 g16 c16 g12 c12 g15 WX RX
      have hHeld : ((fun w' => w'.cell? ⟨gh, oh, none⟩ = some (.slice al m1 cl) ∧ w'.cell? ⟨gh, oh + 1, none⟩ = some (.slice ad m1 cd) ∧ w'.cell? ⟨gh, oh + 2, none⟩ = some (.slice ax m3 cx))) WX := by (try dsimp only); with_reducible exact HK.out _ RX.out.bel
      refine wpAnyH_ready (rs := [18]) (by kernel_rfl) (by simp) ?_
      refine AllReadyH.cons rfl (fun K hK => ?_) AllReadyH.nil
      focus
        (go_simp; obtain ⟨WX, g18, hW, hg, RY⟩ := RX.out.boxX nilV nilV nilV 28; rw [hW]; (try rw [hg]); replace RX := Lib.hid RY; clear RY hW hg)
        refine hK.out _ _ (by (try dsimp only); with_reducible exact HK.out _ RX.out.bel) (fun hHeld => ?_)
        clear hK K
        try simp only [Act.put, List.getElem_toArray, List.getElem_cons_succ, List.getElem_cons_zero, List.setIfInBounds_toArray, List.set_cons_zero, List.set_cons_succ]
        exact wpAnyH_listed (by kernel_rfl) (K4_6_7_12_15_16_18.out g7 c7 g4 c4 g6 g16 c16 g12 c12 g15 g18 WX RX)
    focus
      intro g7 c7 g4 c4 g6 g16 c16 g12 c12 g15 g18 WX RX
      have hHeld : ((fun w' => w'.cell? ⟨gh, oh, none⟩ = some (.slice al m1 cl) ∧ w'.cell? ⟨gh, oh + 1, none⟩ = some (.slice ad m1 cd) ∧ w'.cell? ⟨gh, oh + 2, none⟩ = some (.slice ax m3 cx))) WX := by (try dsimp only); with_reducible exact HK.out _ RX.out.bel
      refine wpAnyH_ready (rs := [19]) (by kernel_rfl) (by simp) ?_
      refine AllReadyH.cons rfl (fun K hK => ?_) AllReadyH.nil
      focus
        (obtain ⟨⟨t0, t1, t2⟩, f0, f1, f2⟩ := RX.out.at (r := g18) (a := nilV) (b := nilV) (c := nilV) (by simp); go_simp; have RY := RX.out.set3 (.slice (some ⟨g7, 0, none⟩) (m1 + 1) c7) (.slice (some ⟨g16, 0, none⟩) (m1 + 1) c16) nilV; obtain ⟨WY, hW⟩ : ∃ WY, WY = (((WX.setCell ⟨g18, 0, none⟩ (.slice (some ⟨g7, 0, none⟩) (m1 + 1) c7)).setCell ⟨g18, 1, none⟩ (.slice (some ⟨g16, 0, none⟩) (m1 + 1) c16)).setCell ⟨g18, 2, none⟩ nilV) := ⟨_, rfl⟩; rw [← hW] at RY ⊢; clear hW t0 t1 t2 f0 f1 f2; obtain ⟨WX, hW⟩ : ∃ W, W = WY := ⟨_, rfl⟩; rw [← hW] at RY ⊢; replace RX := Lib.hid RY; clear RY hW)
        refine hK.out _ _ (by (try dsimp only); with_reducible exact HK.out _ RX.out.bel) (fun hHeld => ?_)
        clear hK K
        try simp only [Act.put, List.getElem_toArray, List.getElem_cons_succ, List.getElem_cons_zero, List.setIfInBounds_toArray, List.set_cons_zero, List.set_cons_succ]
        exact K4_6_7_12_15_16_18_19.out g7 c7 g4 c4 g6 g16 c16 g12 c12 g15 g18 WX RX
    intro g7 c7 g4 c4 g6 g16 c16 g12 c12 g15 g18 WX RX
    refine wpAnyH_done (by kernel_rfl) ?_ _
  -- 26 states
    go_wp2_with fail
    go_meet
    exact ⟨_, _, _, _, _, rfl, Lib.hid (RX.out.sub (List.Sublist.cons_cons _ (List.Sublist.cons _ (List.Sublist.cons_cons _ (List.Sublist.cons _ (List.Sublist.refl _))))))⟩
  obtain ⟨g18, g7, c7, g16, c16, rfl, RX⟩ := hcut
  have T1 := Lib.hid (RsT.lit RX.out)
  obtain ⟨AL, hAL⟩ : ∃ f : TenE → TenE, f = fun t => (L, dimsVia t.1 t.2.1 L, permDataL k q t.1 t.2.1 t.2.2 L) := ⟨_, rfl⟩
  obtain ⟨FB, hFB⟩ : ∃ f : TenE → Bool, f = fun t => fitB k p q L D X t.1 t.2.1 t.2.2 := ⟨_, rfl⟩
  have HAL := Lib.hid hAL
  have HFB := Lib.hid hFB
  clear hAL hFB
  go_wp2
  go_loopw [9, 56] (fun va iv wr => ∃ (j ca : Nat) (ga : Option Addr) (zs : List (TenW × TenE)), j ≤ n ∧ iv = .int .i64 j ∧ va = .slice ga j ca ∧ Hid (zs.map (·.2) = (ts.take j).map AL) ∧ Hid (∀ t ∈ ts.take j, FB t = true) ∧ Hid (RsT w wr [(g18, .slice (some ⟨g7, 0, none⟩) (m1 + 1) c7, .slice (some ⟨g16, 0, none⟩) (m1 + 1) c16, nilV), (w.heap.size + 1, nilV, nilV, nilV), (w.heap.size, .int .i64 k, .int .i64 p, .int .i64 q)] (rowsR zs ++ [(.slice (some ⟨g7, 0, none⟩) (m1 + 1) c7, L ++ [b]), (.slice (some ⟨g16, 0, none⟩) (m1 + 1) c16, D ++ [(n : Int)])]) (.slice ga j ca) (zs.map (·.1)))) (fun _ iv _ => n - (intOf iv).toNat)
  case atStart => exact ⟨0, 0, _, [], by omega, rfl, rfl, Lib.hid (by simp), Lib.hid (by simp), T1⟩
  case round =>
    clear T1 RX
    obtain ⟨j, ca, ga, zs, hj, rfl, rfl, HZ, HF, HR⟩ := hrel
    by_cases hlt : j < n
    · obtain ⟨t, ht⟩ : ∃ t, ts[j]? = some t := ⟨_, List.getElem?_eq_getElem (by rw [HN.out]; exact hlt)⟩
      obtain ⟨g2, off2, a1, c1, a2, c2, a3, c3, e, hg, k0, k1, k2, hT⟩ := HA.out.at ht
      injection e with e
      injection e with e1 e2
      subst e1 e2
      have HTL := Lib.hid (HLEN.out t (List.mem_of_getElem? ht))
      have HFT := Lib.hid (fun (W : World) (hb : Below w.heap.size w W) => fits_spec (k := k) (p := p) (q := q) (HT.out.below hb (Nat.le_refl _)) (hT.below hb (Nat.le_refl _)) hb.size hb.size HL0.out HTL.out)
      obtain ⟨m4, hm4⟩ : ∃ m, m = t.1.length := ⟨_, rfl⟩
      obtain ⟨m5, hm5⟩ : ∃ m, m = t.2.1.length := ⟨_, rfl⟩
      obtain ⟨m6, hm6⟩ : ∃ m, m = t.2.2.length := ⟨_, rfl⟩
      rw [← hm4, ← hm5, ← hm6] at HFT
      rw [← hm4] at k0
      rw [← hm5] at k1
      rw [← hm6] at k2
      replace k0 := (HR.out.rs.bel.cell (p := ⟨gh, oh + j * 3, none⟩) hg).trans k0
      replace k1 := (HR.out.rs.bel.cell (p := ⟨gh, oh + j * 3 + 1, none⟩) hg).trans k1
      replace k2 := (HR.out.rs.bel.cell (p := ⟨gh, oh + j * 3 + 2, none⟩) hg).trans k2
      obtain ⟨ft, hft⟩ : ∃ x, x = fitB k p q L D X t.1 t.2.1 t.2.2 := ⟨_, rfl⟩
      rw [← hft] at HFT
      have HFTB : Hid (FB t = ft) := Lib.hid (by rw [HFB.out, hft])
      obtain ⟨zl, hzl⟩ : ∃ l, l = (if bothB k p q L D X t.1 t.2.1 t.2.2 = true then L else []) := ⟨_, rfl⟩
      obtain ⟨zd, hzd⟩ : ∃ l, l = (if bothB k p q L D X t.1 t.2.1 t.2.2 = true then dimsVia t.1 t.2.1 L else []) := ⟨_, rfl⟩
      obtain ⟨zx, hzx⟩ : ∃ l, l = (if bothB k p q L D X t.1 t.2.1 t.2.2 = true then permDataL k q t.1 t.2.1 t.2.2 L else []) := ⟨_, rfl⟩
      rw [← hzl, ← hzd, ← hzx] at HFT
      have HAT : Hid (ft = true → (zl, zd, zx) = AL t) := Lib.hid (fun h => by
        have hb : bothB k p q L D X t.1 t.2.1 t.2.2 = true := by rw [hft] at h; unfold fitB at h; simp only [Bool.and_eq_true] at h; exact h.1
        rw [hzl, hzd, hzx, if_pos hb, if_pos hb, if_pos hb, HAL.out])
      obtain ⟨z1, hz1⟩ : ∃ m, m = zl.length := ⟨_, rfl⟩
      obtain ⟨z2, hz2⟩ : ∃ m, m = zd.length := ⟨_, rfl⟩
      obtain ⟨z3, hz3⟩ : ∃ m, m = zx.length := ⟨_, rfl⟩
      have HZ3 : Hid (z1 = zl.length ∧ z2 = zd.length ∧ z3 = zx.length) := Lib.hid ⟨hz1, hz2, hz3⟩
      have HTJ := Lib.hid ht
      obtain ⟨wr2, g11, hW, hg11, -, T2⟩ := HR.out.boxX (.slice a1 m4 c1) (.slice a2 m5 c2) (.slice a3 m6 c3) 28
      have RX := Lib.hid T2.drew
      clear hT hm4 hm5 hm6 hft hzl hzd hzx hz1 hz2 hz3 ht hg T2
      go_upto_region 8 with fail
      (try rw [hW])
      (try rw [hg11])
      clear k0 k1 k2 hW hg11
      refine wp_region_held_drew (S := (fun w' => (w'.cell? ⟨w.heap.size, 0, none⟩ = some (.int .i64 k) ∧ w'.cell? ⟨w.heap.size, 1, none⟩ = some (.int .i64 p) ∧ w'.cell? ⟨w.heap.size, 2, none⟩ = some (.int .i64 q)) ∧ (w'.cell? ⟨gh, oh, none⟩ = some (.slice al m1 cl) ∧ w'.cell? ⟨gh, oh + 1, none⟩ = some (.slice ad m1 cd) ∧ w'.cell? ⟨gh, oh + 2, none⟩ = some (.slice ax m3 cx)) ∧ (w'.cell? ⟨g11, 0, none⟩ = some (.slice a1 m4 c1) ∧ w'.cell? ⟨g11, 1, none⟩ = some (.slice a2 m5 c2) ∧ w'.cell? ⟨g11, 2, none⟩ = some (.slice a3 m6 c3)))) (by kernel_rfl) (by (try dsimp only); with_reducible exact ⟨(RX.out.rs.at (r := w.heap.size) (a := .int .i64 k) (b := .int .i64 p) (c := .int .i64 q) (by first | exact List.mem_cons_self | exact List.mem_cons_of_mem _ (List.mem_cons_self) | exact List.mem_cons_of_mem _ (List.mem_cons_of_mem _ (List.mem_cons_self)) | exact List.mem_cons_of_mem _ (List.mem_cons_of_mem _ (List.mem_cons_of_mem _ (List.mem_cons_self))) | exact List.mem_cons_of_mem _ (List.mem_cons_of_mem _ (List.mem_cons_of_mem _ (List.mem_cons_of_mem _ (List.mem_cons_self)))) | exact List.mem_cons_of_mem _ (List.mem_cons_of_mem _ (List.mem_cons_of_mem _ (List.mem_cons_of_mem _ (List.mem_cons_of_mem _ (List.mem_cons_self))))))).1, HK.out _ RX.out.rs.bel, (RX.out.rs.at (r := g11) (a := .slice a1 m4 c1) (b := .slice a2 m5 c2) (c := .slice a3 m6 c3) (by first | exact List.mem_cons_self | exact List.mem_cons_of_mem _ (List.mem_cons_self) | exact List.mem_cons_of_mem _ (List.mem_cons_of_mem _ (List.mem_cons_self)) | exact List.mem_cons_of_mem _ (List.mem_cons_of_mem _ (List.mem_cons_of_mem _ (List.mem_cons_self))) | exact List.mem_cons_of_mem _ (List.mem_cons_of_mem _ (List.mem_cons_of_mem _ (List.mem_cons_of_mem _ (List.mem_cons_self)))) | exact List.mem_cons_of_mem _ (List.mem_cons_of_mem _ (List.mem_cons_of_mem _ (List.mem_cons_of_mem _ (List.mem_cons_of_mem _ (List.mem_cons_self))))))).1⟩) (fun hHeld => ?_)
      obtain ⟨WX, hW⟩ : ∃ W, W = wr2.drew := ⟨_, rfl⟩
      rw [← hW] at hHeld RX ⊢
      clear hW
      refine wpAnyH_take (i := 0) (v := ?_) rfl (by kernel_rfl) (by kernel_rfl) (by kernel_rfl) (fun _ _ _ h => h) (Or.inl ⟨by rfl, ?_⟩) (by assumption) ?_
      rotate_left
      · intro w hSw; (try dsimp only at hSw); go_simp <;> with_reducible rfl
      try simp only [Act.put, List.getElem_toArray, List.getElem_cons_zero, List.setIfInBounds_toArray, List.set_cons_zero, List.set_cons_succ]
      refine wpAnyH_take (i := 1) (v := ?_) rfl (by kernel_rfl) (by kernel_rfl) (by kernel_rfl) (fun _ _ _ h => h) (Or.inl ⟨by rfl, ?_⟩) (by assumption) ?_
      rotate_left
      · intro w hSw; (try dsimp only at hSw); go_simp <;> with_reducible rfl
      try simp only [Act.put, List.getElem_toArray, List.getElem_cons_succ, List.getElem_cons_zero, List.setIfInBounds_toArray, List.set_cons_zero, List.set_cons_succ]
      refine wpAnyH_take (i := 2) (v := ?_) rfl (by kernel_rfl) (by kernel_rfl) (by kernel_rfl) (fun _ _ _ h => h) (Or.inl ⟨by rfl, ?_⟩) (by assumption) ?_
      rotate_left
      · intro w hSw; (try dsimp only at hSw); go_simp <;> with_reducible rfl
      try simp only [Act.put, List.getElem_toArray, List.getElem_cons_succ, List.getElem_cons_zero, List.setIfInBounds_toArray, List.set_cons_zero, List.set_cons_succ]
      refine wpAnyH_take (i := 3) (v := ?_) rfl (by kernel_rfl) (by kernel_rfl) (by kernel_rfl) (fun _ _ _ h => h) (Or.inl ⟨by rfl, ?_⟩) (by assumption) ?_
      rotate_left
      · intro w hSw; (try dsimp only at hSw); go_simp <;> with_reducible rfl
      try simp only [Act.put, List.getElem_toArray, List.getElem_cons_succ, List.getElem_cons_zero, List.setIfInBounds_toArray, List.set_cons_zero, List.set_cons_succ]
      refine wpAnyH_take (i := 4) (v := ?_) rfl (by kernel_rfl) (by kernel_rfl) (by kernel_rfl) (fun _ _ _ h => h) (Or.inl ⟨by rfl, ?_⟩) (by assumption) ?_
      rotate_left
      · intro w hSw; (try dsimp only at hSw); go_simp <;> with_reducible rfl
      try simp only [Act.put, List.getElem_toArray, List.getElem_cons_succ, List.getElem_cons_zero, List.setIfInBounds_toArray, List.set_cons_zero, List.set_cons_succ]
      apply share8 (F := fun (b1 : Option Addr) (d1 : Nat) (b2 : Option Addr) (d2 : Nat) (b3 : Option Addr) (d3 : Nat) (g12 : Nat) (WX : World) => Hid (RsT w WX [(g12, .slice b1 z1 d1, .slice b2 z2 d2, .slice b3 z3 d3), (g11, .slice a1 m4 c1, .slice a2 m5 c2, .slice a3 m6 c3), (g18, .slice (some ⟨g7, 0, none⟩) (m1 + 1) c7, .slice (some ⟨g16, 0, none⟩) (m1 + 1) c16, nilV), (w.heap.size + 1, nilV, nilV, nilV), (w.heap.size, .int .i64 k, .int .i64 p, .int .i64 q)] ((.slice b1 z1 d1, zl) :: (.slice b2 z2 d2, zd) :: (.slice b3 z3 d3, zx) :: (rowsR zs ++ [(.slice (some ⟨g7, 0, none⟩) (m1 + 1) c7, L ++ [b]), (.slice (some ⟨g16, 0, none⟩) (m1 + 1) c16, D ++ [(n : Int)])])) (.slice ga j ca) (zs.map (·.1))))
      intro K5_9_10
      apply share8 (F := fun (b1 : Option Addr) (d1 : Nat) (b2 : Option Addr) (d2 : Nat) (b3 : Option Addr) (d3 : Nat) (g12 : Nat) (WX : World) => Hid (RsT w WX [(g12, nilV, nilV, nilV), (g11, .slice a1 m4 c1, .slice a2 m5 c2, .slice a3 m6 c3), (g18, .slice (some ⟨g7, 0, none⟩) (m1 + 1) c7, .slice (some ⟨g16, 0, none⟩) (m1 + 1) c16, nilV), (w.heap.size + 1, nilV, nilV, nilV), (w.heap.size, .int .i64 k, .int .i64 p, .int .i64 q)] ((.slice b1 z1 d1, zl) :: (.slice b2 z2 d2, zd) :: (.slice b3 z3 d3, zx) :: (rowsR zs ++ [(.slice (some ⟨g7, 0, none⟩) (m1 + 1) c7, L ++ [b]), (.slice (some ⟨g16, 0, none⟩) (m1 + 1) c16, D ++ [(n : Int)])])) (.slice ga j ca) (zs.map (·.1))))
      intro K5_9
      apply share7 (F := fun (b1 : Option Addr) (d1 : Nat) (b2 : Option Addr) (d2 : Nat) (b3 : Option Addr) (d3 : Nat) (WX : World) => Hid (RsT w WX [(g11, .slice a1 m4 c1, .slice a2 m5 c2, .slice a3 m6 c3), (g18, .slice (some ⟨g7, 0, none⟩) (m1 + 1) c7, .slice (some ⟨g16, 0, none⟩) (m1 + 1) c16, nilV), (w.heap.size + 1, nilV, nilV, nilV), (w.heap.size, .int .i64 k, .int .i64 p, .int .i64 q)] ((.slice b1 z1 d1, zl) :: (.slice b2 z2 d2, zd) :: (.slice b3 z3 d3, zx) :: (rowsR zs ++ [(.slice (some ⟨g7, 0, none⟩) (m1 + 1) c7, L ++ [b]), (.slice (some ⟨g16, 0, none⟩) (m1 + 1) c16, D ++ [(n : Int)])])) (.slice ga j ca) (zs.map (·.1))))
      intro K5
      apply share2 (F := fun (g12 : Nat) (WX : World) => Hid (RsT w WX [(g12, nilV, nilV, nilV), (g11, .slice a1 m4 c1, .slice a2 m5 c2, .slice a3 m6 c3), (g18, .slice (some ⟨g7, 0, none⟩) (m1 + 1) c7, .slice (some ⟨g16, 0, none⟩) (m1 + 1) c16, nilV), (w.heap.size + 1, nilV, nilV, nilV), (w.heap.size, .int .i64 k, .int .i64 p, .int .i64 q)] (rowsR zs ++ [(.slice (some ⟨g7, 0, none⟩) (m1 + 1) c7, L ++ [b]), (.slice (some ⟨g16, 0, none⟩) (m1 + 1) c16, D ++ [(n : Int)])]) (.slice ga j ca) (zs.map (·.1))))
      intro K9
      focus
        refine wpAnyH_ready (rs := [5, 9]) (by kernel_rfl) (by simp) ?_
        refine AllReadyH.cons rfl (fun K hK => ?_) (AllReadyH.cons rfl (fun K hK => ?_) AllReadyH.nil)
        focus
          (go_simp; go_at_call 19; refine (HFT.out _ RX.out.rs.bel).mono ?_; rintro e WX ⟨v1, v2, v3, rfl, ho, hb⟩; obtain ⟨b1, d1, rfl, -⟩ := ints_form ho.rows.1.rd; obtain ⟨b2, d2, rfl, -⟩ := ints_form ho.rows.2.1.rd; obtain ⟨b3, d3, rfl, -⟩ := ints_form ho.rows.2.2.rd; rw [← HZ3.out.1, ← HZ3.out.2.1, ← HZ3.out.2.2] at ho ⊢; replace RX := Lib.hid (RX.out.new3 hb ho); clear hb ho; change K _ _)
          refine hK.out _ _ (by (try dsimp only); with_reducible exact ⟨(RX.out.rs.at (r := w.heap.size) (a := .int .i64 k) (b := .int .i64 p) (c := .int .i64 q) (by first | exact List.mem_cons_self | exact List.mem_cons_of_mem _ (List.mem_cons_self) | exact List.mem_cons_of_mem _ (List.mem_cons_of_mem _ (List.mem_cons_self)) | exact List.mem_cons_of_mem _ (List.mem_cons_of_mem _ (List.mem_cons_of_mem _ (List.mem_cons_self))) | exact List.mem_cons_of_mem _ (List.mem_cons_of_mem _ (List.mem_cons_of_mem _ (List.mem_cons_of_mem _ (List.mem_cons_self)))) | exact List.mem_cons_of_mem _ (List.mem_cons_of_mem _ (List.mem_cons_of_mem _ (List.mem_cons_of_mem _ (List.mem_cons_of_mem _ (List.mem_cons_self))))))).1, HK.out _ RX.out.rs.bel, (RX.out.rs.at (r := g11) (a := .slice a1 m4 c1) (b := .slice a2 m5 c2) (c := .slice a3 m6 c3) (by first | exact List.mem_cons_self | exact List.mem_cons_of_mem _ (List.mem_cons_self) | exact List.mem_cons_of_mem _ (List.mem_cons_of_mem _ (List.mem_cons_self)) | exact List.mem_cons_of_mem _ (List.mem_cons_of_mem _ (List.mem_cons_of_mem _ (List.mem_cons_self))) | exact List.mem_cons_of_mem _ (List.mem_cons_of_mem _ (List.mem_cons_of_mem _ (List.mem_cons_of_mem _ (List.mem_cons_self)))) | exact List.mem_cons_of_mem _ (List.mem_cons_of_mem _ (List.mem_cons_of_mem _ (List.mem_cons_of_mem _ (List.mem_cons_of_mem _ (List.mem_cons_self))))))).1⟩) (fun hHeld => ?_)
          clear hK K
          try simp only [Act.put, List.getElem_toArray, List.getElem_cons_succ, List.getElem_cons_zero, List.setIfInBounds_toArray, List.set_cons_zero, List.set_cons_succ]
          refine wpAnyH_take (i := 6) (v := ?_) rfl (by kernel_rfl) (by kernel_rfl) (by kernel_rfl) (fun _ _ _ h => h) (Or.inl ⟨by rfl, ?_⟩) (by assumption) ?_
          rotate_left
          · intro w hSw; (try dsimp only at hSw); go_simp <;> with_reducible rfl
          try simp only [Act.put, List.getElem_toArray, List.getElem_cons_succ, List.getElem_cons_zero, List.setIfInBounds_toArray, List.set_cons_zero, List.set_cons_succ]
          refine wpAnyH_take (i := 7) (v := ?_) rfl (by kernel_rfl) (by kernel_rfl) (by kernel_rfl) (fun _ _ _ h => h) (Or.inl ⟨by rfl, ?_⟩) (by assumption) ?_
          rotate_left
          · intro w hSw; (try dsimp only at hSw); go_simp <;> with_reducible rfl
          try simp only [Act.put, List.getElem_toArray, List.getElem_cons_succ, List.getElem_cons_zero, List.setIfInBounds_toArray, List.set_cons_zero, List.set_cons_succ]
          refine wpAnyH_take (i := 8) (v := ?_) rfl (by kernel_rfl) (by kernel_rfl) (by kernel_rfl) (fun _ _ _ h => h) (Or.inl ⟨by rfl, ?_⟩) (by assumption) ?_
          rotate_left
          · intro w hSw; (try dsimp only at hSw); go_simp <;> with_reducible rfl
          try simp only [Act.put, List.getElem_toArray, List.getElem_cons_succ, List.getElem_cons_zero, List.setIfInBounds_toArray, List.set_cons_zero, List.set_cons_succ]
          exact K5.out b1 d1 b2 d2 b3 d3 WX RX
        focus
          (go_simp; obtain ⟨WX, g12, hW, hg, -, RY⟩ := RX.out.boxX nilV nilV nilV 28; rw [hW]; (try rw [hg]); replace RX := Lib.hid RY; clear RY hW hg)
          refine hK.out _ _ (by (try dsimp only); with_reducible exact ⟨(RX.out.rs.at (r := w.heap.size) (a := .int .i64 k) (b := .int .i64 p) (c := .int .i64 q) (by first | exact List.mem_cons_self | exact List.mem_cons_of_mem _ (List.mem_cons_self) | exact List.mem_cons_of_mem _ (List.mem_cons_of_mem _ (List.mem_cons_self)) | exact List.mem_cons_of_mem _ (List.mem_cons_of_mem _ (List.mem_cons_of_mem _ (List.mem_cons_self))) | exact List.mem_cons_of_mem _ (List.mem_cons_of_mem _ (List.mem_cons_of_mem _ (List.mem_cons_of_mem _ (List.mem_cons_self)))) | exact List.mem_cons_of_mem _ (List.mem_cons_of_mem _ (List.mem_cons_of_mem _ (List.mem_cons_of_mem _ (List.mem_cons_of_mem _ (List.mem_cons_self))))))).1, HK.out _ RX.out.rs.bel, (RX.out.rs.at (r := g11) (a := .slice a1 m4 c1) (b := .slice a2 m5 c2) (c := .slice a3 m6 c3) (by first | exact List.mem_cons_self | exact List.mem_cons_of_mem _ (List.mem_cons_self) | exact List.mem_cons_of_mem _ (List.mem_cons_of_mem _ (List.mem_cons_self)) | exact List.mem_cons_of_mem _ (List.mem_cons_of_mem _ (List.mem_cons_of_mem _ (List.mem_cons_self))) | exact List.mem_cons_of_mem _ (List.mem_cons_of_mem _ (List.mem_cons_of_mem _ (List.mem_cons_of_mem _ (List.mem_cons_self)))) | exact List.mem_cons_of_mem _ (List.mem_cons_of_mem _ (List.mem_cons_of_mem _ (List.mem_cons_of_mem _ (List.mem_cons_of_mem _ (List.mem_cons_self))))))).1⟩) (fun hHeld => ?_)
          clear hK K
          try simp only [Act.put, List.getElem_toArray, List.getElem_cons_succ, List.getElem_cons_zero, List.setIfInBounds_toArray, List.set_cons_zero, List.set_cons_succ]
          exact K9.out g12 WX RX
      focus
        intro g12 WX RX
        have hHeld : ((fun w' => (w'.cell? ⟨w.heap.size, 0, none⟩ = some (.int .i64 k) ∧ w'.cell? ⟨w.heap.size, 1, none⟩ = some (.int .i64 p) ∧ w'.cell? ⟨w.heap.size, 2, none⟩ = some (.int .i64 q)) ∧ (w'.cell? ⟨gh, oh, none⟩ = some (.slice al m1 cl) ∧ w'.cell? ⟨gh, oh + 1, none⟩ = some (.slice ad m1 cd) ∧ w'.cell? ⟨gh, oh + 2, none⟩ = some (.slice ax m3 cx)) ∧ (w'.cell? ⟨g11, 0, none⟩ = some (.slice a1 m4 c1) ∧ w'.cell? ⟨g11, 1, none⟩ = some (.slice a2 m5 c2) ∧ w'.cell? ⟨g11, 2, none⟩ = some (.slice a3 m6 c3)))) WX := by (try dsimp only); with_reducible exact ⟨(RX.out.rs.at (r := w.heap.size) (a := .int .i64 k) (b := .int .i64 p) (c := .int .i64 q) (by first | exact List.mem_cons_self | exact List.mem_cons_of_mem _ (List.mem_cons_self) | exact List.mem_cons_of_mem _ (List.mem_cons_of_mem _ (List.mem_cons_self)) | exact List.mem_cons_of_mem _ (List.mem_cons_of_mem _ (List.mem_cons_of_mem _ (List.mem_cons_self))) | exact List.mem_cons_of_mem _ (List.mem_cons_of_mem _ (List.mem_cons_of_mem _ (List.mem_cons_of_mem _ (List.mem_cons_self)))) | exact List.mem_cons_of_mem _ (List.mem_cons_of_mem _ (List.mem_cons_of_mem _ (List.mem_cons_of_mem _ (List.mem_cons_of_mem _ (List.mem_cons_self))))))).1, HK.out _ RX.out.rs.bel, (RX.out.rs.at (r := g11) (a := .slice a1 m4 c1) (b := .slice a2 m5 c2) (c := .slice a3 m6 c3) (by first | exact List.mem_cons_self | exact List.mem_cons_of_mem _ (List.mem_cons_self) | exact List.mem_cons_of_mem _ (List.mem_cons_of_mem _ (List.mem_cons_self)) | exact List.mem_cons_of_mem _ (List.mem_cons_of_mem _ (List.mem_cons_of_mem _ (List.mem_cons_self))) | exact List.mem_cons_of_mem _ (List.mem_cons_of_mem _ (List.mem_cons_of_mem _ (List.mem_cons_of_mem _ (List.mem_cons_self)))) | exact List.mem_cons_of_mem _ (List.mem_cons_of_mem _ (List.mem_cons_of_mem _ (List.mem_cons_of_mem _ (List.mem_cons_of_mem _ (List.mem_cons_self))))))).1⟩
        refine wpAnyH_ready (rs := [5]) (by kernel_rfl) (by simp) ?_
        refine AllReadyH.cons rfl (fun K hK => ?_) AllReadyH.nil
        focus
          (go_simp; go_at_call 19; refine (HFT.out _ RX.out.rs.bel).mono ?_; rintro e WX ⟨v1, v2, v3, rfl, ho, hb⟩; obtain ⟨b1, d1, rfl, -⟩ := ints_form ho.rows.1.rd; obtain ⟨b2, d2, rfl, -⟩ := ints_form ho.rows.2.1.rd; obtain ⟨b3, d3, rfl, -⟩ := ints_form ho.rows.2.2.rd; rw [← HZ3.out.1, ← HZ3.out.2.1, ← HZ3.out.2.2] at ho ⊢; replace RX := Lib.hid (RX.out.new3 hb ho); clear hb ho; change K _ _)
          refine hK.out _ _ (by (try dsimp only); with_reducible exact ⟨(RX.out.rs.at (r := w.heap.size) (a := .int .i64 k) (b := .int .i64 p) (c := .int .i64 q) (by first | exact List.mem_cons_self | exact List.mem_cons_of_mem _ (List.mem_cons_self) | exact List.mem_cons_of_mem _ (List.mem_cons_of_mem _ (List.mem_cons_self)) | exact List.mem_cons_of_mem _ (List.mem_cons_of_mem _ (List.mem_cons_of_mem _ (List.mem_cons_self))) | exact List.mem_cons_of_mem _ (List.mem_cons_of_mem _ (List.mem_cons_of_mem _ (List.mem_cons_of_mem _ (List.mem_cons_self)))) | exact List.mem_cons_of_mem _ (List.mem_cons_of_mem _ (List.mem_cons_of_mem _ (List.mem_cons_of_mem _ (List.mem_cons_of_mem _ (List.mem_cons_self))))))).1, HK.out _ RX.out.rs.bel, (RX.out.rs.at (r := g11) (a := .slice a1 m4 c1) (b := .slice a2 m5 c2) (c := .slice a3 m6 c3) (by first | exact List.mem_cons_self | exact List.mem_cons_of_mem _ (List.mem_cons_self) | exact List.mem_cons_of_mem _ (List.mem_cons_of_mem _ (List.mem_cons_self)) | exact List.mem_cons_of_mem _ (List.mem_cons_of_mem _ (List.mem_cons_of_mem _ (List.mem_cons_self))) | exact List.mem_cons_of_mem _ (List.mem_cons_of_mem _ (List.mem_cons_of_mem _ (List.mem_cons_of_mem _ (List.mem_cons_self)))) | exact List.mem_cons_of_mem _ (List.mem_cons_of_mem _ (List.mem_cons_of_mem _ (List.mem_cons_of_mem _ (List.mem_cons_of_mem _ (List.mem_cons_self))))))).1⟩) (fun hHeld => ?_)
          clear hK K
          try simp only [Act.put, List.getElem_toArray, List.getElem_cons_succ, List.getElem_cons_zero, List.setIfInBounds_toArray, List.set_cons_zero, List.set_cons_succ]
          refine wpAnyH_take (i := 6) (v := ?_) rfl (by kernel_rfl) (by kernel_rfl) (by kernel_rfl) (fun _ _ _ h => h) (Or.inl ⟨by rfl, ?_⟩) (by assumption) ?_
          rotate_left
          · intro w hSw; (try dsimp only at hSw); go_simp <;> with_reducible rfl
          try simp only [Act.put, List.getElem_toArray, List.getElem_cons_succ, List.getElem_cons_zero, List.setIfInBounds_toArray, List.set_cons_zero, List.set_cons_succ]
          refine wpAnyH_take (i := 7) (v := ?_) rfl (by kernel_rfl) (by kernel_rfl) (by kernel_rfl) (fun _ _ _ h => h) (Or.inl ⟨by rfl, ?_⟩) (by assumption) ?_
          rotate_left
          · intro w hSw; (try dsimp only at hSw); go_simp <;> with_reducible rfl
          try simp only [Act.put, List.getElem_toArray, List.getElem_cons_succ, List.getElem_cons_zero, List.setIfInBounds_toArray, List.set_cons_zero, List.set_cons_succ]
          refine wpAnyH_take (i := 8) (v := ?_) rfl (by kernel_rfl) (by kernel_rfl) (by kernel_rfl) (fun _ _ _ h => h) (Or.inl ⟨by rfl, ?_⟩) (by assumption) ?_
          rotate_left
          · intro w hSw; (try dsimp only at hSw); go_simp <;> with_reducible rfl
          try simp only [Act.put, List.getElem_toArray, List.getElem_cons_succ, List.getElem_cons_zero, List.setIfInBounds_toArray, List.set_cons_zero, List.set_cons_succ]
          exact K5_9.out b1 d1 b2 d2 b3 d3 g12 WX RX
      focus
        intro b1 d1 b2 d2 b3 d3 WX RX
        have hHeld : ((fun w' => (w'.cell? ⟨w.heap.size, 0, none⟩ = some (.int .i64 k) ∧ w'.cell? ⟨w.heap.size, 1, none⟩ = some (.int .i64 p) ∧ w'.cell? ⟨w.heap.size, 2, none⟩ = some (.int .i64 q)) ∧ (w'.cell? ⟨gh, oh, none⟩ = some (.slice al m1 cl) ∧ w'.cell? ⟨gh, oh + 1, none⟩ = some (.slice ad m1 cd) ∧ w'.cell? ⟨gh, oh + 2, none⟩ = some (.slice ax m3 cx)) ∧ (w'.cell? ⟨g11, 0, none⟩ = some (.slice a1 m4 c1) ∧ w'.cell? ⟨g11, 1, none⟩ = some (.slice a2 m5 c2) ∧ w'.cell? ⟨g11, 2, none⟩ = some (.slice a3 m6 c3)))) WX := by (try dsimp only); with_reducible exact ⟨(RX.out.rs.at (r := w.heap.size) (a := .int .i64 k) (b := .int .i64 p) (c := .int .i64 q) (by first | exact List.mem_cons_self | exact List.mem_cons_of_mem _ (List.mem_cons_self) | exact List.mem_cons_of_mem _ (List.mem_cons_of_mem _ (List.mem_cons_self)) | exact List.mem_cons_of_mem _ (List.mem_cons_of_mem _ (List.mem_cons_of_mem _ (List.mem_cons_self))) | exact List.mem_cons_of_mem _ (List.mem_cons_of_mem _ (List.mem_cons_of_mem _ (List.mem_cons_of_mem _ (List.mem_cons_self)))) | exact List.mem_cons_of_mem _ (List.mem_cons_of_mem _ (List.mem_cons_of_mem _ (List.mem_cons_of_mem _ (List.mem_cons_of_mem _ (List.mem_cons_self))))))).1, HK.out _ RX.out.rs.bel, (RX.out.rs.at (r := g11) (a := .slice a1 m4 c1) (b := .slice a2 m5 c2) (c := .slice a3 m6 c3) (by first | exact List.mem_cons_self | exact List.mem_cons_of_mem _ (List.mem_cons_self) | exact List.mem_cons_of_mem _ (List.mem_cons_of_mem _ (List.mem_cons_self)) | exact List.mem_cons_of_mem _ (List.mem_cons_of_mem _ (List.mem_cons_of_mem _ (List.mem_cons_self))) | exact List.mem_cons_of_mem _ (List.mem_cons_of_mem _ (List.mem_cons_of_mem _ (List.mem_cons_of_mem _ (List.mem_cons_self)))) | exact List.mem_cons_of_mem _ (List.mem_cons_of_mem _ (List.mem_cons_of_mem _ (List.mem_cons_of_mem _ (List.mem_cons_of_mem _ (List.mem_cons_self))))))).1⟩
        refine wpAnyH_ready (rs := [9]) (by kernel_rfl) (by simp) ?_
        refine AllReadyH.cons rfl (fun K hK => ?_) AllReadyH.nil
        focus
          (go_simp; obtain ⟨WX, g12, hW, hg, -, RY⟩ := RX.out.boxX nilV nilV nilV 28; rw [hW]; (try rw [hg]); replace RX := Lib.hid RY; clear RY hW hg)
          refine hK.out _ _ (by (try dsimp only); with_reducible exact ⟨(RX.out.rs.at (r := w.heap.size) (a := .int .i64 k) (b := .int .i64 p) (c := .int .i64 q) (by first | exact List.mem_cons_self | exact List.mem_cons_of_mem _ (List.mem_cons_self) | exact List.mem_cons_of_mem _ (List.mem_cons_of_mem _ (List.mem_cons_self)) | exact List.mem_cons_of_mem _ (List.mem_cons_of_mem _ (List.mem_cons_of_mem _ (List.mem_cons_self))) | exact List.mem_cons_of_mem _ (List.mem_cons_of_mem _ (List.mem_cons_of_mem _ (List.mem_cons_of_mem _ (List.mem_cons_self)))) | exact List.mem_cons_of_mem _ (List.mem_cons_of_mem _ (List.mem_cons_of_mem _ (List.mem_cons_of_mem _ (List.mem_cons_of_mem _ (List.mem_cons_self))))))).1, HK.out _ RX.out.rs.bel, (RX.out.rs.at (r := g11) (a := .slice a1 m4 c1) (b := .slice a2 m5 c2) (c := .slice a3 m6 c3) (by first | exact List.mem_cons_self | exact List.mem_cons_of_mem _ (List.mem_cons_self) | exact List.mem_cons_of_mem _ (List.mem_cons_of_mem _ (List.mem_cons_self)) | exact List.mem_cons_of_mem _ (List.mem_cons_of_mem _ (List.mem_cons_of_mem _ (List.mem_cons_self))) | exact List.mem_cons_of_mem _ (List.mem_cons_of_mem _ (List.mem_cons_of_mem _ (List.mem_cons_of_mem _ (List.mem_cons_self)))) | exact List.mem_cons_of_mem _ (List.mem_cons_of_mem _ (List.mem_cons_of_mem _ (List.mem_cons_of_mem _ (List.mem_cons_of_mem _ (List.mem_cons_self))))))).1⟩) (fun hHeld => ?_)
          clear hK K
          try simp only [Act.put, List.getElem_toArray, List.getElem_cons_succ, List.getElem_cons_zero, List.setIfInBounds_toArray, List.set_cons_zero, List.set_cons_succ]
          exact wpAnyH_listed (by kernel_rfl) (K5_9.out b1 d1 b2 d2 b3 d3 g12 WX RX)
      focus
        intro b1 d1 b2 d2 b3 d3 g12 WX RX
        have hHeld : ((fun w' => (w'.cell? ⟨w.heap.size, 0, none⟩ = some (.int .i64 k) ∧ w'.cell? ⟨w.heap.size, 1, none⟩ = some (.int .i64 p) ∧ w'.cell? ⟨w.heap.size, 2, none⟩ = some (.int .i64 q)) ∧ (w'.cell? ⟨gh, oh, none⟩ = some (.slice al m1 cl) ∧ w'.cell? ⟨gh, oh + 1, none⟩ = some (.slice ad m1 cd) ∧ w'.cell? ⟨gh, oh + 2, none⟩ = some (.slice ax m3 cx)) ∧ (w'.cell? ⟨g11, 0, none⟩ = some (.slice a1 m4 c1) ∧ w'.cell? ⟨g11, 1, none⟩ = some (.slice a2 m5 c2) ∧ w'.cell? ⟨g11, 2, none⟩ = some (.slice a3 m6 c3)))) WX := by (try dsimp only); with_reducible exact ⟨(RX.out.rs.at (r := w.heap.size) (a := .int .i64 k) (b := .int .i64 p) (c := .int .i64 q) (by first | exact List.mem_cons_self | exact List.mem_cons_of_mem _ (List.mem_cons_self) | exact List.mem_cons_of_mem _ (List.mem_cons_of_mem _ (List.mem_cons_self)) | exact List.mem_cons_of_mem _ (List.mem_cons_of_mem _ (List.mem_cons_of_mem _ (List.mem_cons_self))) | exact List.mem_cons_of_mem _ (List.mem_cons_of_mem _ (List.mem_cons_of_mem _ (List.mem_cons_of_mem _ (List.mem_cons_self)))) | exact List.mem_cons_of_mem _ (List.mem_cons_of_mem _ (List.mem_cons_of_mem _ (List.mem_cons_of_mem _ (List.mem_cons_of_mem _ (List.mem_cons_self))))))).1, HK.out _ RX.out.rs.bel, (RX.out.rs.at (r := g11) (a := .slice a1 m4 c1) (b := .slice a2 m5 c2) (c := .slice a3 m6 c3) (by first | exact List.mem_cons_self | exact List.mem_cons_of_mem _ (List.mem_cons_self) | exact List.mem_cons_of_mem _ (List.mem_cons_of_mem _ (List.mem_cons_self)) | exact List.mem_cons_of_mem _ (List.mem_cons_of_mem _ (List.mem_cons_of_mem _ (List.mem_cons_self))) | exact List.mem_cons_of_mem _ (List.mem_cons_of_mem _ (List.mem_cons_of_mem _ (List.mem_cons_of_mem _ (List.mem_cons_self)))) | exact List.mem_cons_of_mem _ (List.mem_cons_of_mem _ (List.mem_cons_of_mem _ (List.mem_cons_of_mem _ (List.mem_cons_of_mem _ (List.mem_cons_self))))))).1⟩
        refine wpAnyH_ready (rs := [10]) (by kernel_rfl) (by simp) ?_
        refine AllReadyH.cons rfl (fun K hK => ?_) AllReadyH.nil
        focus
          (obtain ⟨⟨t0, t1, t2⟩, f0, f1, f2⟩ := RX.out.rs.at (r := g12) (a := nilV) (b := nilV) (c := nilV) (by simp); go_simp; have RY := RX.out.set3 (.slice b1 z1 d1) (.slice b2 z2 d2) (.slice b3 z3 d3); obtain ⟨WY, hW⟩ : ∃ WY, WY = (((WX.setCell ⟨g12, 0, none⟩ (.slice b1 z1 d1)).setCell ⟨g12, 1, none⟩ (.slice b2 z2 d2)).setCell ⟨g12, 2, none⟩ (.slice b3 z3 d3)) := ⟨_, rfl⟩; rw [← hW] at RY ⊢; clear hW t0 t1 t2 f0 f1 f2; obtain ⟨WX, hW⟩ : ∃ W, W = WY := ⟨_, rfl⟩; rw [← hW] at RY ⊢; replace RX := Lib.hid RY; clear RY hW)
          refine hK.out _ _ (by (try dsimp only); with_reducible exact ⟨(RX.out.rs.at (r := w.heap.size) (a := .int .i64 k) (b := .int .i64 p) (c := .int .i64 q) (by first | exact List.mem_cons_self | exact List.mem_cons_of_mem _ (List.mem_cons_self) | exact List.mem_cons_of_mem _ (List.mem_cons_of_mem _ (List.mem_cons_self)) | exact List.mem_cons_of_mem _ (List.mem_cons_of_mem _ (List.mem_cons_of_mem _ (List.mem_cons_self))) | exact List.mem_cons_of_mem _ (List.mem_cons_of_mem _ (List.mem_cons_of_mem _ (List.mem_cons_of_mem _ (List.mem_cons_self)))) | exact List.mem_cons_of_mem _ (List.mem_cons_of_mem _ (List.mem_cons_of_mem _ (List.mem_cons_of_mem _ (List.mem_cons_of_mem _ (List.mem_cons_self))))))).1, HK.out _ RX.out.rs.bel, (RX.out.rs.at (r := g11) (a := .slice a1 m4 c1) (b := .slice a2 m5 c2) (c := .slice a3 m6 c3) (by first | exact List.mem_cons_self | exact List.mem_cons_of_mem _ (List.mem_cons_self) | exact List.mem_cons_of_mem _ (List.mem_cons_of_mem _ (List.mem_cons_self)) | exact List.mem_cons_of_mem _ (List.mem_cons_of_mem _ (List.mem_cons_of_mem _ (List.mem_cons_self))) | exact List.mem_cons_of_mem _ (List.mem_cons_of_mem _ (List.mem_cons_of_mem _ (List.mem_cons_of_mem _ (List.mem_cons_self)))) | exact List.mem_cons_of_mem _ (List.mem_cons_of_mem _ (List.mem_cons_of_mem _ (List.mem_cons_of_mem _ (List.mem_cons_of_mem _ (List.mem_cons_self))))))).1⟩) (fun hHeld => ?_)
          clear hK K
          try simp only [Act.put, List.getElem_toArray, List.getElem_cons_succ, List.getElem_cons_zero, List.setIfInBounds_toArray, List.set_cons_zero, List.set_cons_succ]
          refine wpAnyH_take (i := 11) (v := ?_) rfl (by kernel_rfl) (by kernel_rfl) (by kernel_rfl) (fun _ _ _ h => h) (Or.inl ⟨by rfl, ?_⟩) (by assumption) ?_
          rotate_left
          · intro w hSw; (try dsimp only at hSw); go_simp <;> with_reducible rfl
          try simp only [Act.put, List.getElem_toArray, List.getElem_cons_succ, List.getElem_cons_zero, List.setIfInBounds_toArray, List.set_cons_zero, List.set_cons_succ]
          exact K5_9_10.out b1 d1 b2 d2 b3 d3 g12 WX RX
      intro b1 d1 b2 d2 b3 d3 g12 WX RX
      refine wpAnyH_done (by kernel_rfl) ?_ _
-- 4 states
      cases ft with
      | false =>
        obtain rfl : fb = false := by
          rw [HFBE.out, List.all_eq_false.2 ⟨t, List.mem_of_getElem? HTJ.out, by have h := HFTB.out; rw [HFB.out] at h; simp only at h; rw [h]; simp⟩]; rfl
        obtain ⟨rfl, rfl, rfl⟩ := HNO.out (by simp)
        obtain ⟨⟨t0, t1, t2⟩, f0, f1, f2⟩ := RX.out.rs.at (r := w.heap.size + 1) (a := nilV) (b := nilV) (c := nilV) (by first | exact List.mem_cons_self | exact List.mem_cons_of_mem _ (List.mem_cons_self) | exact List.mem_cons_of_mem _ (List.mem_cons_of_mem _ (List.mem_cons_self)) | exact List.mem_cons_of_mem _ (List.mem_cons_of_mem _ (List.mem_cons_of_mem _ (List.mem_cons_self))) | exact List.mem_cons_of_mem _ (List.mem_cons_of_mem _ (List.mem_cons_of_mem _ (List.mem_cons_of_mem _ (List.mem_cons_self)))) | exact List.mem_cons_of_mem _ (List.mem_cons_of_mem _ (List.mem_cons_of_mem _ (List.mem_cons_of_mem _ (List.mem_cons_of_mem _ (List.mem_cons_self))))))
        go_wp2
        refine bodyPost_ret (v := .tuple #[tenV nilV nilV nilV, .bool false]) (by simp [results, Try.results5, go_sem, t0, t1, t2]) rfl ?_
        exact NewTen2.nils (((RX.out.rs.bel.setCell (by simp) _).setCell (by simp) _).setCell (by simp) _)
      | true =>
        obtain ⟨⟨t0, t1, t2⟩, -⟩ := RX.out.rs.at (r := g12) (a := .slice b1 z1 d1) (b := .slice b2 z2 d2) (c := .slice b3 z3 d3) (by first | exact List.mem_cons_self | exact List.mem_cons_of_mem _ (List.mem_cons_self) | exact List.mem_cons_of_mem _ (List.mem_cons_of_mem _ (List.mem_cons_self)) | exact List.mem_cons_of_mem _ (List.mem_cons_of_mem _ (List.mem_cons_of_mem _ (List.mem_cons_self))) | exact List.mem_cons_of_mem _ (List.mem_cons_of_mem _ (List.mem_cons_of_mem _ (List.mem_cons_of_mem _ (List.mem_cons_self)))) | exact List.mem_cons_of_mem _ (List.mem_cons_of_mem _ (List.mem_cons_of_mem _ (List.mem_cons_of_mem _ (List.mem_cons_of_mem _ (List.mem_cons_self))))))
        obtain ⟨W5, g5, hW5, hg5, -, T5⟩ := RX.out.boxX (.slice b1 z1 d1) (.slice b2 z2 d2) (.slice b3 z3 d3) 28
        have N5 := Lib.hid (T5.rs.cells3 (g := g5) (a := .slice b1 z1 d1) (b := .slice b2 z2 d2) (c := .slice b3 z3 d3) (by first | exact List.mem_cons_self | exact List.mem_cons_of_mem _ (List.mem_cons_self) | exact List.mem_cons_of_mem _ (List.mem_cons_of_mem _ (List.mem_cons_self)) | exact List.mem_cons_of_mem _ (List.mem_cons_of_mem _ (List.mem_cons_of_mem _ (List.mem_cons_self))) | exact List.mem_cons_of_mem _ (List.mem_cons_of_mem _ (List.mem_cons_of_mem _ (List.mem_cons_of_mem _ (List.mem_cons_self)))) | exact List.mem_cons_of_mem _ (List.mem_cons_of_mem _ (List.mem_cons_of_mem _ (List.mem_cons_of_mem _ (List.mem_cons_of_mem _ (List.mem_cons_self)))))))
        have HZLN : Hid (zs.length = j) := Lib.hid (by
          have h1 := congrArg List.length HZ.out
          rw [List.length_map, List.length_map, List.length_take, HN.out] at h1
          omega)
        have O5 := T5.own
        rw [List.length_map, HZLN.out] at O5
        have O6 := Lib.hid O5
        have T6 := Lib.hid T5
        clear T5 O5
        go_wp2_with (at_builtin; go_must (refine wpList_append_lies _ rfl _ _ 33 rfl w.heap.size 28 i1 (.agg #[.slice none 0 0, .slice none 0 0, .slice none 0 0]) 3 72 Try.underlying33 I0.out I1.out I2.out I3.out rfl (by decide) _ j _ rfl O6.out ⟨g5, 0, none⟩ 1 1 [.slice b1 z1 d1, .slice b2 z2 d2, .slice b3 z3 d3] rfl rfl N5.out ?c2 (by decide) ?c3 ?c4 ?c5 _ rfl ?_))
        case c2 => first | exact ⟨rfl, rfl, rfl⟩ | (intro u hu; simp at hu; rcases hu with rfl | rfl | rfl <;> rfl)
        case c3 => unfold maxLen; omega
        case c4 => omega
        case c5 => exact T6.out.rs.bel.size
        intro g9 cap9 w9 hown hgrow hl9 _
        have T9 := T6.out.app (u := (.slice b1 z1 d1, .slice b2 z2 d2, .slice b3 z3 d3)) (n := j) (by rw [List.length_map, HZLN.out]) hown hgrow hl9
        have HAT2 := HAT.out (by simp)
        have T10 : Hid (RsT w w9 [(g18, .slice (some ⟨g7, 0, none⟩) (m1 + 1) c7, .slice (some ⟨g16, 0, none⟩) (m1 + 1) c16, nilV), (w.heap.size + 1, nilV, nilV, nilV), (w.heap.size, .int .i64 k, .int .i64 p, .int .i64 q)] (rowsR (zs ++ [(((.slice b1 z1 d1, .slice b2 z2 d2, .slice b3 z3 d3) : TenW), AL t)]) ++ [(.slice (some ⟨g7, 0, none⟩) (m1 + 1) c7, L ++ [b]), (.slice (some ⟨g16, 0, none⟩) (m1 + 1) c16, D ++ [(n : Int)])]) (.slice (some ⟨g9, 0, none⟩) (j + 1) cap9) ((zs ++ [(((.slice b1 z1 d1, .slice b2 z2 d2, .slice b3 z3 d3) : TenW), AL t)]).map (·.1))) := Lib.hid (by
          have h1 := T9.subB (List.Sublist.cons _ (List.Sublist.cons _ (List.Sublist.cons _ (List.Sublist.refl _))))
          rw [rowsR_snoc, ← HAT2, List.map_append]
          exact h1)
        have HZ2 : Hid ((zs ++ [(((.slice b1 z1 d1, .slice b2 z2 d2, .slice b3 z3 d3) : TenW), AL t)]).map (·.2) = (ts.take (j + 1)).map AL) := Lib.hid (by
          rw [List.map_append, HZ.out, List.take_add_one, HTJ.out]; simp)
        have HF2 : Hid (∀ t ∈ ts.take (j + 1), FB t = true) := Lib.hid (fun u hu => by
          rw [List.take_add_one, HTJ.out] at hu
          rcases List.mem_append.1 hu with hu | hu
          · exact HF.out u hu
          · simp at hu; subst hu; exact HFTB.out)
        clear T9 HAT2 hown hgrow hl9 t0 t1 t2 hW5 hg5
        go_wp2
        go_roundw
        case rel => exact ⟨j + 1, cap9, some ⟨g9, 0, none⟩, _, by omega, by go_num, rfl, HZ2, HF2, T10⟩
        case measure => simp [intOf]; omega
    · obtain rfl : n = j := by omega
      have HZ1 : Hid (zs.map (·.2) = ts.map AL) := Lib.hid (by rw [HZ.out, List.take_of_length_le (by rw [HN.out]; exact Nat.le_refl _)])
      have HALL : Hid (ts.all (fun t => fitB k p q L D X t.1 t.2.1 t.2.2) = true) := Lib.hid (by
        rw [List.all_eq_true]
        intro t ht
        have h := HF.out t (by rw [List.take_of_length_le (by rw [HN.out]; exact Nat.le_refl _)]; exact ht)
        rw [HFB.out] at h
        exact h)
      obtain ⟨s, hs⟩ : ∃ s, s = sizeI (L ++ [b]) (D ++ [(n : Int)]) := ⟨_, rfl⟩
      have HSZ := Lib.hid (size_spec (lv := .slice (some ⟨g7, 0, none⟩) (m1 + 1) c7) (dv := .slice (some ⟨g16, 0, none⟩) (m1 + 1) c16) (xv := nilV) (L := L ++ [b]) (D := D ++ [(n : Int)]) (X := []) (w := wr) ⟨HR.out.rs.rd (List.mem_append_right _ List.mem_cons_self), HR.out.rs.rd (List.mem_append_right _ (List.mem_cons_of_mem _ List.mem_cons_self)), .inl ⟨rfl, none, 0, rfl⟩⟩ (Nat.le_refl _) ⟨by have := HML.out; simp; omega, by have := HML.out; simp; omega, by simp⟩)
      rw [← hs] at HSZ
      have HSS := Lib.hid hs
      obtain ⟨⟨o0, o1, o2⟩, -⟩ := HR.out.rs.at (r := g18) (a := .slice (some ⟨g7, 0, none⟩) (m1 + 1) c7) (b := .slice (some ⟨g16, 0, none⟩) (m1 + 1) c16) (c := nilV) (by first | exact List.mem_cons_self | exact List.mem_cons_of_mem _ (List.mem_cons_self) | exact List.mem_cons_of_mem _ (List.mem_cons_of_mem _ (List.mem_cons_self)) | exact List.mem_cons_of_mem _ (List.mem_cons_of_mem _ (List.mem_cons_of_mem _ (List.mem_cons_self))) | exact List.mem_cons_of_mem _ (List.mem_cons_of_mem _ (List.mem_cons_of_mem _ (List.mem_cons_of_mem _ (List.mem_cons_self)))) | exact List.mem_cons_of_mem _ (List.mem_cons_of_mem _ (List.mem_cons_of_mem _ (List.mem_cons_of_mem _ (List.mem_cons_of_mem _ (List.mem_cons_self))))))
      clear hs
      go_wp2_with fail
      refine HSZ.out.mono ?_
      clear HSZ o0 o1 o2
      rintro e w5 ⟨rfl, hb⟩
      have R5 := Lib.hid (HR.out.step hb)
      clear hb HR HZ HF
      by_cases hs0 : 0 ≤ s
      · have q1 : decide (s < 0) = false := by simpa using hs0
        obtain rfl : fb = true := by rw [HFBE.out, HALL.out, ← HSS.out]; simpa using hs0
        obtain ⟨wd, hwd⟩ : ∃ x, x = (widthI k q).toNat := ⟨_, rfl⟩
        obtain ⟨N, hN⟩ : ∃ x, x = (prodL D).toNat := ⟨_, rfl⟩
        have FT2 := FT.out
        rw [← hwd, ← hN] at FT2
        have FT := Lib.hid FT2
        obtain ⟨Ys, hYs⟩ : ∃ Y, Y = ts.map fun t => permDataL k q t.1 t.2.1 t.2.2 L := ⟨_, rfl⟩
        have HY := HYES.out rfl
        have HYX : Hid (yx = stackL wd N Ys) := Lib.hid (by rw [HY.2.2]; unfold stackX; rw [← hwd, ← hN, ← hYs])
        have HYL := Lib.hid (And.intro HY.1 HY.2.1)
        have HCAP : Hid (capI D = (N : Int)) := Lib.hid (by have h := (capI_is (fun d hd => (FT2.ax.2.2.2.1 d hd).1)).1; have h2 := FT2.pr; have h3 := FT2.n1; omega)
        have HW1 : Hid (1 ≤ wd) := Lib.hid FT2.w6.1
        have HNN : Hid (N * n ≤ 4096) := Lib.hid (by
          have h := sizeI_parts (L := L ++ [b]) (D := D ++ [(n : Int)]) (by rw [← HSS.out]; exact hs0)
          have h2 := h.2
          rw [prodL_snoc, FT2.pr] at h2
          exact_mod_cast h2)
        have HYL2 : Hid (Ys.length = n) := Lib.hid (by rw [hYs, List.length_map, HN.out])
        have HYI : Hid (∀ Y ∈ Ys, Y.length = N * wd) := Lib.hid (fun Y hY => by
          rw [hYs] at hY
          obtain ⟨t, ht, rfl⟩ := List.mem_map.1 hY
          have h := (fit_facts (List.all_eq_true.1 HALL.out t ht)).2.1
          rw [h]; exact FT2.lX)
        have hwd6 : wd ≤ 6 := FT2.w6.2
        have hN4 : N ≤ 4096 := FT2.n1.2
        have HZY : Hid (∀ (i : Nat) (z : TenW × TenE), zs[i]? = some z → z.2.1 = L ∧ Ys[i]? = some z.2.2.2) := Lib.hid (fun i z hz => by
          have h1 : (zs.map (·.2))[i]? = some z.2 := by rw [List.getElem?_map, hz]; rfl
          rw [HZ1.out, List.getElem?_map] at h1
          cases ht : ts[i]? with
          | none => rw [ht] at h1; cases h1
          | some t =>
            rw [ht, HAL.out] at h1
            simp only [Option.map_some, Option.some.injEq] at h1
            refine ⟨by rw [← h1], ?_⟩
            rw [hYs, List.getElem?_map, ht, ← h1]; rfl)
        have R6 := Lib.hid R5.out.nil
        have HZLN : Hid (zs.length = n) := Lib.hid (by
          have h1 := congrArg List.length HZ1.out
          rw [List.length_map, List.length_map, HN.out] at h1
          exact h1)
        clear hwd hN hYs HY FT2 R5
        go_wp2
        go_loopw [14] (fun iv wr => ∃ (e nd cg : Nat) (ag : Option Addr), e ≤ N ∧ iv = .int .i64 e ∧ Hid (nd = e * n * wd) ∧ Hid (RsT w wr [(g18, .slice (some ⟨g7, 0, none⟩) (m1 + 1) c7, .slice (some ⟨g16, 0, none⟩) (m1 + 1) c16, .slice ag nd cg), (w.heap.size + 1, nilV, nilV, nilV), (w.heap.size, .int .i64 k, .int .i64 p, .int .i64 q)] ((.slice ag nd cg, stackL wd e Ys) :: (rowsR zs ++ [(.slice (some ⟨g7, 0, none⟩) (m1 + 1) c7, L ++ [b]), (.slice (some ⟨g16, 0, none⟩) (m1 + 1) c16, D ++ [(n : Int)])])) (.slice ga n ca) (zs.map (·.1)))) (fun iv _ => N - (intOf iv).toNat)
        case atStart => exact ⟨0, 0, 0, none, by omega, rfl, Lib.hid (by simp), R6⟩
        case round =>
          clear R6
          obtain ⟨e, nd, cg, ag, he, rfl, HND2, HR⟩ := hrel
          obtain ⟨s0, s1, s2⟩ := HK.out _ HR.out.rs.bel
          have HPR := Lib.hid (product_spec (HT.out.d.below HR.out.rs.bel (Nat.le_refl _)) (by have := HML.out; omega) FT.out.ax.2.2.2.1)
          rw [HCAP.out] at HPR
          go_wp2_with fail
          refine HPR.out.mono ?_
          clear HPR s0 s1 s2
          rintro e9 w9 ⟨rfl, rfl⟩
          by_cases hlt : e < N
          · go_wp2
            go_loopw [92] (fun iv wr => ∃ (i nd cg : Nat) (ag : Option Addr), i ≤ n ∧ iv = .int .i64 i ∧ Hid (nd = (e * n + i) * wd) ∧ Hid (RsT w wr [(g18, .slice (some ⟨g7, 0, none⟩) (m1 + 1) c7, .slice (some ⟨g16, 0, none⟩) (m1 + 1) c16, .slice ag nd cg), (w.heap.size + 1, nilV, nilV, nilV), (w.heap.size, .int .i64 k, .int .i64 p, .int .i64 q)] ((.slice ag nd cg, stackL wd e Ys ++ (Ys.take i).flatMap fun Y => getL wd Y e) :: (rowsR zs ++ [(.slice (some ⟨g7, 0, none⟩) (m1 + 1) c7, L ++ [b]), (.slice (some ⟨g16, 0, none⟩) (m1 + 1) c16, D ++ [(n : Int)])])) (.slice ga n ca) (zs.map (·.1)))) (fun iv _ => n - (intOf iv).toNat)
            case atStart => exact ⟨0, nd, cg, ag, by omega, rfl, HND2, by simpa using HR⟩
            case round =>
              clear HR HND2
              obtain ⟨i, nd, cg, ag, hi, rfl, HNI, HR⟩ := hrel
              by_cases hin : i < n
              · obtain ⟨z, hz⟩ : ∃ z, zs[i]? = some z := ⟨_, List.getElem?_eq_getElem (by rw [HZLN.out]; exact hin)⟩
                obtain ⟨hz1, hz2⟩ := HZY.out i z hz
                have hm := rowsR_mem (List.mem_of_getElem? hz)
                obtain ⟨ge, rfl, -, -, k0, k1, k2⟩ := HR.out.at (n := n) (i := i) (u := z.1) (by rw [List.length_map, HZLN.out]) (by rw [List.getElem?_map, hz]; rfl)
                obtain ⟨x1, y1, e1, -⟩ := ints_form (HR.out.rs.rd (List.mem_cons_of_mem _ (List.mem_append_left _ hm.1)))
                obtain ⟨x2, y2, e2, -⟩ := ints_form (HR.out.rs.rd (List.mem_cons_of_mem _ (List.mem_append_left _ hm.2.1)))
                obtain ⟨x3, y3, e3, -⟩ := ints_form (HR.out.rs.rd (List.mem_cons_of_mem _ (List.mem_append_left _ hm.2.2)))
                obtain ⟨q1, hq1⟩ : ∃ m, m = z.2.1.length := ⟨_, rfl⟩
                obtain ⟨q2, hq2⟩ : ∃ m, m = z.2.2.1.length := ⟨_, rfl⟩
                obtain ⟨q3, hq3⟩ : ∃ m, m = z.2.2.2.length := ⟨_, rfl⟩
                rw [← hq1] at e1
                rw [← hq2] at e2
                rw [← hq3] at e3
                rw [e1, e2, e3] at hm
                rw [e1] at k0
                rw [e2] at k1
                rw [e3] at k2
                have HM3 := Lib.hid hm
                have hYl := HYI.out _ (List.mem_of_getElem? hz2)
                have HRM : Hid (e * wd + wd ≤ z.2.2.2.length) := Lib.hid (room_of hlt hYl)
                have HX4 : Hid (z.2.2.2.length ≤ 281474976710656) := Lib.hid (by
                  rw [hYl]; exact Nat.le_trans (Nat.mul_le_mul hN4 hwd6) (by omega))
                obtain ⟨GT, hGT⟩ : ∃ l, l = getL wd z.2.2.2 e := ⟨_, rfl⟩
                have HGT := Lib.hid hGT
                have HGL : Hid (GT.length = wd) := Lib.hid (by rw [hGT]; exact getL_len HRM.out)
                obtain ⟨ACC, hACC⟩ : ∃ l, l = stackL wd e Ys ++ (Ys.take i).flatMap fun Y => getL wd Y e := ⟨_, rfl⟩
                have HND : Hid (ACC.length = nd) := Lib.hid (by rw [hACC, HNI.out]; exact stack_acc HYI.out HYL2.out hlt hi)
                have NB : Hid (nd + wd ≤ 24576) := Lib.hid (by rw [HNI.out]; exact stack_bound HNN.out hwd6 hlt hin)
                have HNX : Hid (ACC ++ GT = stackL wd e Ys ++ (Ys.take (i + 1)).flatMap fun Y => getL wd Y e) := Lib.hid (by
                  rw [hACC, hGT, List.take_add_one, hz2, List.flatMap_append, List.append_assoc]; simp)
                rw [← hACC] at HR
                obtain ⟨wr3, g16b, hW, hg16, -, T2⟩ := HR.out.boxX (.slice x1 q1 y1) (.slice x2 q2 y2) (.slice x3 q3 y3) 28
                have RX := Lib.hid T2.drew
                clear T2 hz hz1 hz2 hm e1 e2 e3 hq1 hq2 hq3 hYl hGT hACC
                go_upto_region 21 with fail
                (try rw [hW])
                (try rw [hg16])
                clear k0 k1 k2 hW hg16 HR
                refine wp_region_held_drew (S := (fun w' => (w'.cell? ⟨w.heap.size, 0, none⟩ = some (.int .i64 k) ∧ w'.cell? ⟨w.heap.size, 1, none⟩ = some (.int .i64 p) ∧ w'.cell? ⟨w.heap.size, 2, none⟩ = some (.int .i64 q)) ∧ (w'.cell? ⟨g16b, 0, none⟩ = some (.slice x1 q1 y1) ∧ w'.cell? ⟨g16b, 1, none⟩ = some (.slice x2 q2 y2) ∧ w'.cell? ⟨g16b, 2, none⟩ = some (.slice x3 q3 y3)))) (by kernel_rfl) (by (try dsimp only); with_reducible exact ⟨(RX.out.rs.at (r := w.heap.size) (a := .int .i64 k) (b := .int .i64 p) (c := .int .i64 q) (by first | exact List.mem_cons_self | exact List.mem_cons_of_mem _ (List.mem_cons_self) | exact List.mem_cons_of_mem _ (List.mem_cons_of_mem _ (List.mem_cons_self)) | exact List.mem_cons_of_mem _ (List.mem_cons_of_mem _ (List.mem_cons_of_mem _ (List.mem_cons_self))) | exact List.mem_cons_of_mem _ (List.mem_cons_of_mem _ (List.mem_cons_of_mem _ (List.mem_cons_of_mem _ (List.mem_cons_self)))) | exact List.mem_cons_of_mem _ (List.mem_cons_of_mem _ (List.mem_cons_of_mem _ (List.mem_cons_of_mem _ (List.mem_cons_of_mem _ (List.mem_cons_self))))))).1, (RX.out.rs.at (r := g16b) (a := .slice x1 q1 y1) (b := .slice x2 q2 y2) (c := .slice x3 q3 y3) (by first | exact List.mem_cons_self | exact List.mem_cons_of_mem _ (List.mem_cons_self) | exact List.mem_cons_of_mem _ (List.mem_cons_of_mem _ (List.mem_cons_self)) | exact List.mem_cons_of_mem _ (List.mem_cons_of_mem _ (List.mem_cons_of_mem _ (List.mem_cons_self))) | exact List.mem_cons_of_mem _ (List.mem_cons_of_mem _ (List.mem_cons_of_mem _ (List.mem_cons_of_mem _ (List.mem_cons_self)))) | exact List.mem_cons_of_mem _ (List.mem_cons_of_mem _ (List.mem_cons_of_mem _ (List.mem_cons_of_mem _ (List.mem_cons_of_mem _ (List.mem_cons_self))))))).1⟩) (fun hHeld => ?_)
                obtain ⟨WX, hW⟩ : ∃ W, W = wr3.drew := ⟨_, rfl⟩
                rw [← hW] at hHeld RX ⊢
                clear hW
                refine wpAnyH_take (i := 0) (v := ?_) rfl (by kernel_rfl) (by kernel_rfl) (by kernel_rfl) (fun _ _ _ h => h) (Or.inl ⟨by rfl, ?_⟩) (by assumption) ?_
                rotate_left
                · intro w hSw; (try dsimp only at hSw); go_simp <;> with_reducible rfl
                try simp only [Act.put, List.getElem_toArray, List.getElem_cons_zero, List.setIfInBounds_toArray, List.set_cons_zero, List.set_cons_succ]
                refine wpAnyH_take (i := 2) (v := ?_) rfl (by kernel_rfl) (by kernel_rfl) (by kernel_rfl) (fun _ _ _ h => h) (Or.inl ⟨by rfl, ?_⟩) (by assumption) ?_
                rotate_left
                · intro w hSw; (try dsimp only at hSw); go_simp <;> with_reducible rfl
                try simp only [Act.put, List.getElem_toArray, List.getElem_cons_succ, List.getElem_cons_zero, List.setIfInBounds_toArray, List.set_cons_zero, List.set_cons_succ]
                refine wpAnyH_take (i := 3) (v := ?_) rfl (by kernel_rfl) (by kernel_rfl) (by kernel_rfl) (fun _ _ _ h => h) (Or.inl ⟨by rfl, ?_⟩) (by assumption) ?_
                rotate_left
                · intro w hSw; (try dsimp only at hSw); go_simp <;> with_reducible rfl
                try simp only [Act.put, List.getElem_toArray, List.getElem_cons_succ, List.getElem_cons_zero, List.setIfInBounds_toArray, List.set_cons_zero, List.set_cons_succ]
                refine wpAnyH_take (i := 4) (v := ?_) rfl (by kernel_rfl) (by kernel_rfl) (by kernel_rfl) (fun _ _ _ h => h) (Or.inl ⟨by rfl, ?_⟩) (by assumption) ?_
                rotate_left
                · intro w hSw; (try dsimp only at hSw); go_simp <;> with_reducible rfl
                try simp only [Act.put, List.getElem_toArray, List.getElem_cons_succ, List.getElem_cons_zero, List.setIfInBounds_toArray, List.set_cons_zero, List.set_cons_succ]
                apply share5 (F := fun (gz : Nat) (cz : Nat) (g6 : Nat) (c6 : Nat) (WX : World) => Hid (RsT w WX [(g16b, .slice x1 q1 y1, .slice x2 q2 y2, .slice x3 q3 y3), (g18, .slice (some ⟨g7, 0, none⟩) (m1 + 1) c7, .slice (some ⟨g16, 0, none⟩) (m1 + 1) c16, .slice (some ⟨g6, 0, none⟩) (nd + wd) c6), (w.heap.size + 1, nilV, nilV, nilV), (w.heap.size, .int .i64 k, .int .i64 p, .int .i64 q)] ((.slice (some ⟨g6, 0, none⟩) (nd + wd) c6, ACC ++ GT) :: (rowsR zs ++ [(.slice (some ⟨g7, 0, none⟩) (m1 + 1) c7, L ++ [b]), (.slice (some ⟨g16, 0, none⟩) (m1 + 1) c16, D ++ [(n : Int)])])) (.slice (some ⟨ge, 0, none⟩) n ca) (zs.map (·.1))))
                intro K1_5_6_8
                apply share5 (F := fun (gz : Nat) (cz : Nat) (g6 : Nat) (c6 : Nat) (WX : World) => Hid (RsT w WX [(g16b, .slice x1 q1 y1, .slice x2 q2 y2, .slice x3 q3 y3), (g18, .slice (some ⟨g7, 0, none⟩) (m1 + 1) c7, .slice (some ⟨g16, 0, none⟩) (m1 + 1) c16, .slice ag nd cg), (w.heap.size + 1, nilV, nilV, nilV), (w.heap.size, .int .i64 k, .int .i64 p, .int .i64 q)] ((.slice (some ⟨g6, 0, none⟩) (nd + wd) c6, ACC ++ GT) :: (rowsR zs ++ [(.slice (some ⟨g7, 0, none⟩) (m1 + 1) c7, L ++ [b]), (.slice (some ⟨g16, 0, none⟩) (m1 + 1) c16, D ++ [(n : Int)])])) (.slice (some ⟨ge, 0, none⟩) n ca) (zs.map (·.1))))
                intro K1_5_6
                apply share3 (F := fun (gz : Nat) (cz : Nat) (WX : World) => Hid (RsT w WX [(g16b, .slice x1 q1 y1, .slice x2 q2 y2, .slice x3 q3 y3), (g18, .slice (some ⟨g7, 0, none⟩) (m1 + 1) c7, .slice (some ⟨g16, 0, none⟩) (m1 + 1) c16, .slice ag nd cg), (w.heap.size + 1, nilV, nilV, nilV), (w.heap.size, .int .i64 k, .int .i64 p, .int .i64 q)] ((.slice (some ⟨gz, 0, none⟩) wd cz, GT) :: (.slice ag nd cg, ACC) :: (rowsR zs ++ [(.slice (some ⟨g7, 0, none⟩) (m1 + 1) c7, L ++ [b]), (.slice (some ⟨g16, 0, none⟩) (m1 + 1) c16, D ++ [(n : Int)])])) (.slice (some ⟨ge, 0, none⟩) n ca) (zs.map (·.1))))
                intro K1_5
                apply share1 (F := fun (WX : World) => Hid (RsT w WX [(g16b, .slice x1 q1 y1, .slice x2 q2 y2, .slice x3 q3 y3), (g18, .slice (some ⟨g7, 0, none⟩) (m1 + 1) c7, .slice (some ⟨g16, 0, none⟩) (m1 + 1) c16, .slice ag nd cg), (w.heap.size + 1, nilV, nilV, nilV), (w.heap.size, .int .i64 k, .int .i64 p, .int .i64 q)] ((.slice ag nd cg, ACC) :: (rowsR zs ++ [(.slice (some ⟨g7, 0, none⟩) (m1 + 1) c7, L ++ [b]), (.slice (some ⟨g16, 0, none⟩) (m1 + 1) c16, D ++ [(n : Int)])])) (.slice (some ⟨ge, 0, none⟩) n ca) (zs.map (·.1))))
                intro K1
                apply share3 (F := fun (gz : Nat) (cz : Nat) (WX : World) => Hid (RsT w WX [(g16b, .slice x1 q1 y1, .slice x2 q2 y2, .slice x3 q3 y3), (g18, .slice (some ⟨g7, 0, none⟩) (m1 + 1) c7, .slice (some ⟨g16, 0, none⟩) (m1 + 1) c16, .slice ag nd cg), (w.heap.size + 1, nilV, nilV, nilV), (w.heap.size, .int .i64 k, .int .i64 p, .int .i64 q)] ((.slice (some ⟨gz, 0, none⟩) wd cz, GT) :: (.slice ag nd cg, ACC) :: (rowsR zs ++ [(.slice (some ⟨g7, 0, none⟩) (m1 + 1) c7, L ++ [b]), (.slice (some ⟨g16, 0, none⟩) (m1 + 1) c16, D ++ [(n : Int)])])) (.slice (some ⟨ge, 0, none⟩) n ca) (zs.map (·.1))))
                intro K5
                focus
                  refine wpAnyH_ready (rs := [1, 5]) (by kernel_rfl) (by simp) ?_
                  refine AllReadyH.cons rfl (fun K hK => ?_) (AllReadyH.cons rfl (fun K hK => ?_) AllReadyH.nil)
                  focus
                    (obtain ⟨⟨o0, o1, o2⟩, -⟩ := RX.out.rs.at (r := g18) (a := .slice (some ⟨g7, 0, none⟩) (m1 + 1) c7) (b := .slice (some ⟨g16, 0, none⟩) (m1 + 1) c16) (c := .slice ag nd cg) (by first | exact List.mem_cons_self | exact List.mem_cons_of_mem _ (List.mem_cons_self) | exact List.mem_cons_of_mem _ (List.mem_cons_of_mem _ (List.mem_cons_self)) | exact List.mem_cons_of_mem _ (List.mem_cons_of_mem _ (List.mem_cons_of_mem _ (List.mem_cons_self))) | exact List.mem_cons_of_mem _ (List.mem_cons_of_mem _ (List.mem_cons_of_mem _ (List.mem_cons_of_mem _ (List.mem_cons_self)))) | exact List.mem_cons_of_mem _ (List.mem_cons_of_mem _ (List.mem_cons_of_mem _ (List.mem_cons_of_mem _ (List.mem_cons_of_mem _ (List.mem_cons_self)))))); go_simp; clear o0 o1 o2)
                    refine hK.out _ _ (by (try dsimp only); with_reducible exact ⟨(RX.out.rs.at (r := w.heap.size) (a := .int .i64 k) (b := .int .i64 p) (c := .int .i64 q) (by first | exact List.mem_cons_self | exact List.mem_cons_of_mem _ (List.mem_cons_self) | exact List.mem_cons_of_mem _ (List.mem_cons_of_mem _ (List.mem_cons_self)) | exact List.mem_cons_of_mem _ (List.mem_cons_of_mem _ (List.mem_cons_of_mem _ (List.mem_cons_self))) | exact List.mem_cons_of_mem _ (List.mem_cons_of_mem _ (List.mem_cons_of_mem _ (List.mem_cons_of_mem _ (List.mem_cons_self)))) | exact List.mem_cons_of_mem _ (List.mem_cons_of_mem _ (List.mem_cons_of_mem _ (List.mem_cons_of_mem _ (List.mem_cons_of_mem _ (List.mem_cons_self))))))).1, (RX.out.rs.at (r := g16b) (a := .slice x1 q1 y1) (b := .slice x2 q2 y2) (c := .slice x3 q3 y3) (by first | exact List.mem_cons_self | exact List.mem_cons_of_mem _ (List.mem_cons_self) | exact List.mem_cons_of_mem _ (List.mem_cons_of_mem _ (List.mem_cons_self)) | exact List.mem_cons_of_mem _ (List.mem_cons_of_mem _ (List.mem_cons_of_mem _ (List.mem_cons_self))) | exact List.mem_cons_of_mem _ (List.mem_cons_of_mem _ (List.mem_cons_of_mem _ (List.mem_cons_of_mem _ (List.mem_cons_self)))) | exact List.mem_cons_of_mem _ (List.mem_cons_of_mem _ (List.mem_cons_of_mem _ (List.mem_cons_of_mem _ (List.mem_cons_of_mem _ (List.mem_cons_self))))))).1⟩) (fun hHeld => ?_)
                    clear hK K
                    try simp only [Act.put, List.getElem_toArray, List.getElem_cons_succ, List.getElem_cons_zero, List.setIfInBounds_toArray, List.set_cons_zero, List.set_cons_succ]
                    exact K1.out WX RX
                  focus
                    (go_simp; go_at_call 22; refine (get_spec wd e ⟨RX.out.rs.rd (List.mem_cons_of_mem _ (List.mem_append_left _ HM3.out.1)), RX.out.rs.rd (List.mem_cons_of_mem _ (List.mem_append_left _ HM3.out.2.1)), RX.out.rs.rd (List.mem_cons_of_mem _ (List.mem_append_left _ HM3.out.2.2))⟩ (Nat.le_refl _) FT.out.hw FT.out.w6.1 FT.out.w6.2 (by omega) HRM.out HX4.out).mono ?_; rw [← HGT.out]; rintro e9 WX ⟨zv, rfl, ho, hb⟩; obtain ⟨gz, cz, rfl, -⟩ := own_form ho HGL.out HW1.out; replace RX := Lib.hid (RX.out.new hb ho); clear hb ho; change K _ _)
                    refine hK.out _ _ (by (try dsimp only); with_reducible exact ⟨(RX.out.rs.at (r := w.heap.size) (a := .int .i64 k) (b := .int .i64 p) (c := .int .i64 q) (by first | exact List.mem_cons_self | exact List.mem_cons_of_mem _ (List.mem_cons_self) | exact List.mem_cons_of_mem _ (List.mem_cons_of_mem _ (List.mem_cons_self)) | exact List.mem_cons_of_mem _ (List.mem_cons_of_mem _ (List.mem_cons_of_mem _ (List.mem_cons_self))) | exact List.mem_cons_of_mem _ (List.mem_cons_of_mem _ (List.mem_cons_of_mem _ (List.mem_cons_of_mem _ (List.mem_cons_self)))) | exact List.mem_cons_of_mem _ (List.mem_cons_of_mem _ (List.mem_cons_of_mem _ (List.mem_cons_of_mem _ (List.mem_cons_of_mem _ (List.mem_cons_self))))))).1, (RX.out.rs.at (r := g16b) (a := .slice x1 q1 y1) (b := .slice x2 q2 y2) (c := .slice x3 q3 y3) (by first | exact List.mem_cons_self | exact List.mem_cons_of_mem _ (List.mem_cons_self) | exact List.mem_cons_of_mem _ (List.mem_cons_of_mem _ (List.mem_cons_self)) | exact List.mem_cons_of_mem _ (List.mem_cons_of_mem _ (List.mem_cons_of_mem _ (List.mem_cons_self))) | exact List.mem_cons_of_mem _ (List.mem_cons_of_mem _ (List.mem_cons_of_mem _ (List.mem_cons_of_mem _ (List.mem_cons_self)))) | exact List.mem_cons_of_mem _ (List.mem_cons_of_mem _ (List.mem_cons_of_mem _ (List.mem_cons_of_mem _ (List.mem_cons_of_mem _ (List.mem_cons_self))))))).1⟩) (fun hHeld => ?_)
                    clear hK K
                    try simp only [Act.put, List.getElem_toArray, List.getElem_cons_succ, List.getElem_cons_zero, List.setIfInBounds_toArray, List.set_cons_zero, List.set_cons_succ]
                    exact K5.out gz cz WX RX
                focus
                  intro gz cz WX RX
                  have hHeld : ((fun w' => (w'.cell? ⟨w.heap.size, 0, none⟩ = some (.int .i64 k) ∧ w'.cell? ⟨w.heap.size, 1, none⟩ = some (.int .i64 p) ∧ w'.cell? ⟨w.heap.size, 2, none⟩ = some (.int .i64 q)) ∧ (w'.cell? ⟨g16b, 0, none⟩ = some (.slice x1 q1 y1) ∧ w'.cell? ⟨g16b, 1, none⟩ = some (.slice x2 q2 y2) ∧ w'.cell? ⟨g16b, 2, none⟩ = some (.slice x3 q3 y3)))) WX := by (try dsimp only); with_reducible exact ⟨(RX.out.rs.at (r := w.heap.size) (a := .int .i64 k) (b := .int .i64 p) (c := .int .i64 q) (by first | exact List.mem_cons_self | exact List.mem_cons_of_mem _ (List.mem_cons_self) | exact List.mem_cons_of_mem _ (List.mem_cons_of_mem _ (List.mem_cons_self)) | exact List.mem_cons_of_mem _ (List.mem_cons_of_mem _ (List.mem_cons_of_mem _ (List.mem_cons_self))) | exact List.mem_cons_of_mem _ (List.mem_cons_of_mem _ (List.mem_cons_of_mem _ (List.mem_cons_of_mem _ (List.mem_cons_self)))) | exact List.mem_cons_of_mem _ (List.mem_cons_of_mem _ (List.mem_cons_of_mem _ (List.mem_cons_of_mem _ (List.mem_cons_of_mem _ (List.mem_cons_self))))))).1, (RX.out.rs.at (r := g16b) (a := .slice x1 q1 y1) (b := .slice x2 q2 y2) (c := .slice x3 q3 y3) (by first | exact List.mem_cons_self | exact List.mem_cons_of_mem _ (List.mem_cons_self) | exact List.mem_cons_of_mem _ (List.mem_cons_of_mem _ (List.mem_cons_self)) | exact List.mem_cons_of_mem _ (List.mem_cons_of_mem _ (List.mem_cons_of_mem _ (List.mem_cons_self))) | exact List.mem_cons_of_mem _ (List.mem_cons_of_mem _ (List.mem_cons_of_mem _ (List.mem_cons_of_mem _ (List.mem_cons_self)))) | exact List.mem_cons_of_mem _ (List.mem_cons_of_mem _ (List.mem_cons_of_mem _ (List.mem_cons_of_mem _ (List.mem_cons_of_mem _ (List.mem_cons_self))))))).1⟩
                  refine wpAnyH_ready (rs := [1]) (by kernel_rfl) (by simp) ?_
                  refine AllReadyH.cons rfl (fun K hK => ?_) AllReadyH.nil
                  focus
                    (obtain ⟨⟨o0, o1, o2⟩, -⟩ := RX.out.rs.at (r := g18) (a := .slice (some ⟨g7, 0, none⟩) (m1 + 1) c7) (b := .slice (some ⟨g16, 0, none⟩) (m1 + 1) c16) (c := .slice ag nd cg) (by first | exact List.mem_cons_self | exact List.mem_cons_of_mem _ (List.mem_cons_self) | exact List.mem_cons_of_mem _ (List.mem_cons_of_mem _ (List.mem_cons_self)) | exact List.mem_cons_of_mem _ (List.mem_cons_of_mem _ (List.mem_cons_of_mem _ (List.mem_cons_self))) | exact List.mem_cons_of_mem _ (List.mem_cons_of_mem _ (List.mem_cons_of_mem _ (List.mem_cons_of_mem _ (List.mem_cons_self)))) | exact List.mem_cons_of_mem _ (List.mem_cons_of_mem _ (List.mem_cons_of_mem _ (List.mem_cons_of_mem _ (List.mem_cons_of_mem _ (List.mem_cons_self)))))); go_simp; clear o0 o1 o2)
                    refine hK.out _ _ (by (try dsimp only); with_reducible exact ⟨(RX.out.rs.at (r := w.heap.size) (a := .int .i64 k) (b := .int .i64 p) (c := .int .i64 q) (by first | exact List.mem_cons_self | exact List.mem_cons_of_mem _ (List.mem_cons_self) | exact List.mem_cons_of_mem _ (List.mem_cons_of_mem _ (List.mem_cons_self)) | exact List.mem_cons_of_mem _ (List.mem_cons_of_mem _ (List.mem_cons_of_mem _ (List.mem_cons_self))) | exact List.mem_cons_of_mem _ (List.mem_cons_of_mem _ (List.mem_cons_of_mem _ (List.mem_cons_of_mem _ (List.mem_cons_self)))) | exact List.mem_cons_of_mem _ (List.mem_cons_of_mem _ (List.mem_cons_of_mem _ (List.mem_cons_of_mem _ (List.mem_cons_of_mem _ (List.mem_cons_self))))))).1, (RX.out.rs.at (r := g16b) (a := .slice x1 q1 y1) (b := .slice x2 q2 y2) (c := .slice x3 q3 y3) (by first | exact List.mem_cons_self | exact List.mem_cons_of_mem _ (List.mem_cons_self) | exact List.mem_cons_of_mem _ (List.mem_cons_of_mem _ (List.mem_cons_self)) | exact List.mem_cons_of_mem _ (List.mem_cons_of_mem _ (List.mem_cons_of_mem _ (List.mem_cons_self))) | exact List.mem_cons_of_mem _ (List.mem_cons_of_mem _ (List.mem_cons_of_mem _ (List.mem_cons_of_mem _ (List.mem_cons_self)))) | exact List.mem_cons_of_mem _ (List.mem_cons_of_mem _ (List.mem_cons_of_mem _ (List.mem_cons_of_mem _ (List.mem_cons_of_mem _ (List.mem_cons_self))))))).1⟩) (fun hHeld => ?_)
                    clear hK K
                    try simp only [Act.put, List.getElem_toArray, List.getElem_cons_succ, List.getElem_cons_zero, List.setIfInBounds_toArray, List.set_cons_zero, List.set_cons_succ]
                    exact K1_5.out gz cz WX RX
                focus
                  intro WX RX
                  have hHeld : ((fun w' => (w'.cell? ⟨w.heap.size, 0, none⟩ = some (.int .i64 k) ∧ w'.cell? ⟨w.heap.size, 1, none⟩ = some (.int .i64 p) ∧ w'.cell? ⟨w.heap.size, 2, none⟩ = some (.int .i64 q)) ∧ (w'.cell? ⟨g16b, 0, none⟩ = some (.slice x1 q1 y1) ∧ w'.cell? ⟨g16b, 1, none⟩ = some (.slice x2 q2 y2) ∧ w'.cell? ⟨g16b, 2, none⟩ = some (.slice x3 q3 y3)))) WX := by (try dsimp only); with_reducible exact ⟨(RX.out.rs.at (r := w.heap.size) (a := .int .i64 k) (b := .int .i64 p) (c := .int .i64 q) (by first | exact List.mem_cons_self | exact List.mem_cons_of_mem _ (List.mem_cons_self) | exact List.mem_cons_of_mem _ (List.mem_cons_of_mem _ (List.mem_cons_self)) | exact List.mem_cons_of_mem _ (List.mem_cons_of_mem _ (List.mem_cons_of_mem _ (List.mem_cons_self))) | exact List.mem_cons_of_mem _ (List.mem_cons_of_mem _ (List.mem_cons_of_mem _ (List.mem_cons_of_mem _ (List.mem_cons_self)))) | exact List.mem_cons_of_mem _ (List.mem_cons_of_mem _ (List.mem_cons_of_mem _ (List.mem_cons_of_mem _ (List.mem_cons_of_mem _ (List.mem_cons_self))))))).1, (RX.out.rs.at (r := g16b) (a := .slice x1 q1 y1) (b := .slice x2 q2 y2) (c := .slice x3 q3 y3) (by first | exact List.mem_cons_self | exact List.mem_cons_of_mem _ (List.mem_cons_self) | exact List.mem_cons_of_mem _ (List.mem_cons_of_mem _ (List.mem_cons_self)) | exact List.mem_cons_of_mem _ (List.mem_cons_of_mem _ (List.mem_cons_of_mem _ (List.mem_cons_self))) | exact List.mem_cons_of_mem _ (List.mem_cons_of_mem _ (List.mem_cons_of_mem _ (List.mem_cons_of_mem _ (List.mem_cons_self)))) | exact List.mem_cons_of_mem _ (List.mem_cons_of_mem _ (List.mem_cons_of_mem _ (List.mem_cons_of_mem _ (List.mem_cons_of_mem _ (List.mem_cons_self))))))).1⟩
                  refine wpAnyH_ready (rs := [5]) (by kernel_rfl) (by simp) ?_
                  refine AllReadyH.cons rfl (fun K hK => ?_) AllReadyH.nil
                  focus
                    (go_simp; go_at_call 22; refine (get_spec wd e ⟨RX.out.rs.rd (List.mem_cons_of_mem _ (List.mem_append_left _ HM3.out.1)), RX.out.rs.rd (List.mem_cons_of_mem _ (List.mem_append_left _ HM3.out.2.1)), RX.out.rs.rd (List.mem_cons_of_mem _ (List.mem_append_left _ HM3.out.2.2))⟩ (Nat.le_refl _) FT.out.hw FT.out.w6.1 FT.out.w6.2 (by omega) HRM.out HX4.out).mono ?_; rw [← HGT.out]; rintro e9 WX ⟨zv, rfl, ho, hb⟩; obtain ⟨gz, cz, rfl, -⟩ := own_form ho HGL.out HW1.out; replace RX := Lib.hid (RX.out.new hb ho); clear hb ho; change K _ _)
                    refine hK.out _ _ (by (try dsimp only); with_reducible exact ⟨(RX.out.rs.at (r := w.heap.size) (a := .int .i64 k) (b := .int .i64 p) (c := .int .i64 q) (by first | exact List.mem_cons_self | exact List.mem_cons_of_mem _ (List.mem_cons_self) | exact List.mem_cons_of_mem _ (List.mem_cons_of_mem _ (List.mem_cons_self)) | exact List.mem_cons_of_mem _ (List.mem_cons_of_mem _ (List.mem_cons_of_mem _ (List.mem_cons_self))) | exact List.mem_cons_of_mem _ (List.mem_cons_of_mem _ (List.mem_cons_of_mem _ (List.mem_cons_of_mem _ (List.mem_cons_self)))) | exact List.mem_cons_of_mem _ (List.mem_cons_of_mem _ (List.mem_cons_of_mem _ (List.mem_cons_of_mem _ (List.mem_cons_of_mem _ (List.mem_cons_self))))))).1, (RX.out.rs.at (r := g16b) (a := .slice x1 q1 y1) (b := .slice x2 q2 y2) (c := .slice x3 q3 y3) (by first | exact List.mem_cons_self | exact List.mem_cons_of_mem _ (List.mem_cons_self) | exact List.mem_cons_of_mem _ (List.mem_cons_of_mem _ (List.mem_cons_self)) | exact List.mem_cons_of_mem _ (List.mem_cons_of_mem _ (List.mem_cons_of_mem _ (List.mem_cons_self))) | exact List.mem_cons_of_mem _ (List.mem_cons_of_mem _ (List.mem_cons_of_mem _ (List.mem_cons_of_mem _ (List.mem_cons_self)))) | exact List.mem_cons_of_mem _ (List.mem_cons_of_mem _ (List.mem_cons_of_mem _ (List.mem_cons_of_mem _ (List.mem_cons_of_mem _ (List.mem_cons_self))))))).1⟩) (fun hHeld => ?_)
                    clear hK K
                    try simp only [Act.put, List.getElem_toArray, List.getElem_cons_succ, List.getElem_cons_zero, List.setIfInBounds_toArray, List.set_cons_zero, List.set_cons_succ]
                    exact wpAnyH_listed (by kernel_rfl) (K1_5.out gz cz WX RX)
                focus
                  intro gz cz WX RX
                  have hHeld : ((fun w' => (w'.cell? ⟨w.heap.size, 0, none⟩ = some (.int .i64 k) ∧ w'.cell? ⟨w.heap.size, 1, none⟩ = some (.int .i64 p) ∧ w'.cell? ⟨w.heap.size, 2, none⟩ = some (.int .i64 q)) ∧ (w'.cell? ⟨g16b, 0, none⟩ = some (.slice x1 q1 y1) ∧ w'.cell? ⟨g16b, 1, none⟩ = some (.slice x2 q2 y2) ∧ w'.cell? ⟨g16b, 2, none⟩ = some (.slice x3 q3 y3)))) WX := by (try dsimp only); with_reducible exact ⟨(RX.out.rs.at (r := w.heap.size) (a := .int .i64 k) (b := .int .i64 p) (c := .int .i64 q) (by first | exact List.mem_cons_self | exact List.mem_cons_of_mem _ (List.mem_cons_self) | exact List.mem_cons_of_mem _ (List.mem_cons_of_mem _ (List.mem_cons_self)) | exact List.mem_cons_of_mem _ (List.mem_cons_of_mem _ (List.mem_cons_of_mem _ (List.mem_cons_self))) | exact List.mem_cons_of_mem _ (List.mem_cons_of_mem _ (List.mem_cons_of_mem _ (List.mem_cons_of_mem _ (List.mem_cons_self)))) | exact List.mem_cons_of_mem _ (List.mem_cons_of_mem _ (List.mem_cons_of_mem _ (List.mem_cons_of_mem _ (List.mem_cons_of_mem _ (List.mem_cons_self))))))).1, (RX.out.rs.at (r := g16b) (a := .slice x1 q1 y1) (b := .slice x2 q2 y2) (c := .slice x3 q3 y3) (by first | exact List.mem_cons_self | exact List.mem_cons_of_mem _ (List.mem_cons_self) | exact List.mem_cons_of_mem _ (List.mem_cons_of_mem _ (List.mem_cons_self)) | exact List.mem_cons_of_mem _ (List.mem_cons_of_mem _ (List.mem_cons_of_mem _ (List.mem_cons_self))) | exact List.mem_cons_of_mem _ (List.mem_cons_of_mem _ (List.mem_cons_of_mem _ (List.mem_cons_of_mem _ (List.mem_cons_self)))) | exact List.mem_cons_of_mem _ (List.mem_cons_of_mem _ (List.mem_cons_of_mem _ (List.mem_cons_of_mem _ (List.mem_cons_of_mem _ (List.mem_cons_self))))))).1⟩
                  refine wpAnyH_ready (rs := [6]) (by kernel_rfl) (by simp) ?_
                  refine AllReadyH.cons rfl (fun K hK => ?_) AllReadyH.nil
                  focus
                    (have O1 := RX.out.rs.row (v := .slice ag nd cg) (xs := ACC) (List.mem_cons_of_mem _ List.mem_cons_self) HND.out; have N1 := RX.out.rs.rowCell (g := gz) (n := wd) (cap := cz) (xs := GT) List.mem_cons_self HGL.out; refine step_append_lies _ rfl (.tmp 97) (.tmp 101) 26 rfl w.heap.size 3 i0 (.int .i64 0) 1 8 Try.underlying26 J0.out J1.out J2.out J3.out rfl Nat.one_pos (.slice ag nd cg) nd (ints ACC) rfl O1 ⟨gz, 0, none⟩ wd cz (ints GT) rfl (by rw [ints_len, HGL.out, Nat.mul_one]) N1 (one_cells _) HW1.out (by unfold maxLen; have := NB.out; omega) (by have := NB.out; omega) RX.out.rs.bel.size _ rfl ?_; intro g6 c6 WX hown hgrow hl _; rw [← ints_append] at hown; have h11 := (RX.out.swap.appR hown (by rw [List.length_append, HND.out, HGL.out]) hgrow hl).sub (List.Sublist.cons_cons _ (List.sublist_cons_self _ _)); replace RX := Lib.hid h11; clear h11 O1 N1 hown hgrow hl)
                    refine hK.out _ _ (by (try dsimp only); with_reducible exact ⟨(RX.out.rs.at (r := w.heap.size) (a := .int .i64 k) (b := .int .i64 p) (c := .int .i64 q) (by first | exact List.mem_cons_self | exact List.mem_cons_of_mem _ (List.mem_cons_self) | exact List.mem_cons_of_mem _ (List.mem_cons_of_mem _ (List.mem_cons_self)) | exact List.mem_cons_of_mem _ (List.mem_cons_of_mem _ (List.mem_cons_of_mem _ (List.mem_cons_self))) | exact List.mem_cons_of_mem _ (List.mem_cons_of_mem _ (List.mem_cons_of_mem _ (List.mem_cons_of_mem _ (List.mem_cons_self)))) | exact List.mem_cons_of_mem _ (List.mem_cons_of_mem _ (List.mem_cons_of_mem _ (List.mem_cons_of_mem _ (List.mem_cons_of_mem _ (List.mem_cons_self))))))).1, (RX.out.rs.at (r := g16b) (a := .slice x1 q1 y1) (b := .slice x2 q2 y2) (c := .slice x3 q3 y3) (by first | exact List.mem_cons_self | exact List.mem_cons_of_mem _ (List.mem_cons_self) | exact List.mem_cons_of_mem _ (List.mem_cons_of_mem _ (List.mem_cons_self)) | exact List.mem_cons_of_mem _ (List.mem_cons_of_mem _ (List.mem_cons_of_mem _ (List.mem_cons_self))) | exact List.mem_cons_of_mem _ (List.mem_cons_of_mem _ (List.mem_cons_of_mem _ (List.mem_cons_of_mem _ (List.mem_cons_self)))) | exact List.mem_cons_of_mem _ (List.mem_cons_of_mem _ (List.mem_cons_of_mem _ (List.mem_cons_of_mem _ (List.mem_cons_of_mem _ (List.mem_cons_self))))))).1⟩) (fun hHeld => ?_)
                    clear hK K
                    try simp only [Act.put, List.getElem_toArray, List.getElem_cons_succ, List.getElem_cons_zero, List.setIfInBounds_toArray, List.set_cons_zero, List.set_cons_succ]
                    refine wpAnyH_take (i := 7) (v := ?_) rfl (by kernel_rfl) (by kernel_rfl) (by kernel_rfl) (fun _ _ _ h => h) (Or.inl ⟨by rfl, ?_⟩) (by assumption) ?_
                    rotate_left
                    · intro w hSw; (try dsimp only at hSw); go_simp <;> with_reducible rfl
                    try simp only [Act.put, List.getElem_toArray, List.getElem_cons_succ, List.getElem_cons_zero, List.setIfInBounds_toArray, List.set_cons_zero, List.set_cons_succ]
                    exact K1_5_6.out gz cz g6 c6 WX RX
                focus
                  intro gz cz g6 c6 WX RX
                  have hHeld : ((fun w' => (w'.cell? ⟨w.heap.size, 0, none⟩ = some (.int .i64 k) ∧ w'.cell? ⟨w.heap.size, 1, none⟩ = some (.int .i64 p) ∧ w'.cell? ⟨w.heap.size, 2, none⟩ = some (.int .i64 q)) ∧ (w'.cell? ⟨g16b, 0, none⟩ = some (.slice x1 q1 y1) ∧ w'.cell? ⟨g16b, 1, none⟩ = some (.slice x2 q2 y2) ∧ w'.cell? ⟨g16b, 2, none⟩ = some (.slice x3 q3 y3)))) WX := by (try dsimp only); with_reducible exact ⟨(RX.out.rs.at (r := w.heap.size) (a := .int .i64 k) (b := .int .i64 p) (c := .int .i64 q) (by first | exact List.mem_cons_self | exact List.mem_cons_of_mem _ (List.mem_cons_self) | exact List.mem_cons_of_mem _ (List.mem_cons_of_mem _ (List.mem_cons_self)) | exact List.mem_cons_of_mem _ (List.mem_cons_of_mem _ (List.mem_cons_of_mem _ (List.mem_cons_self))) | exact List.mem_cons_of_mem _ (List.mem_cons_of_mem _ (List.mem_cons_of_mem _ (List.mem_cons_of_mem _ (List.mem_cons_self)))) | exact List.mem_cons_of_mem _ (List.mem_cons_of_mem _ (List.mem_cons_of_mem _ (List.mem_cons_of_mem _ (List.mem_cons_of_mem _ (List.mem_cons_self))))))).1, (RX.out.rs.at (r := g16b) (a := .slice x1 q1 y1) (b := .slice x2 q2 y2) (c := .slice x3 q3 y3) (by first | exact List.mem_cons_self | exact List.mem_cons_of_mem _ (List.mem_cons_self) | exact List.mem_cons_of_mem _ (List.mem_cons_of_mem _ (List.mem_cons_self)) | exact List.mem_cons_of_mem _ (List.mem_cons_of_mem _ (List.mem_cons_of_mem _ (List.mem_cons_self))) | exact List.mem_cons_of_mem _ (List.mem_cons_of_mem _ (List.mem_cons_of_mem _ (List.mem_cons_of_mem _ (List.mem_cons_self)))) | exact List.mem_cons_of_mem _ (List.mem_cons_of_mem _ (List.mem_cons_of_mem _ (List.mem_cons_of_mem _ (List.mem_cons_of_mem _ (List.mem_cons_self))))))).1⟩
                  refine wpAnyH_ready (rs := [8]) (by kernel_rfl) (by simp) ?_
                  refine AllReadyH.cons rfl (fun K hK => ?_) AllReadyH.nil
                  focus
                    (obtain ⟨⟨o0, o1, o2⟩, -, -, f2⟩ := RX.out.rs.at (r := g18) (a := .slice (some ⟨g7, 0, none⟩) (m1 + 1) c7) (b := .slice (some ⟨g16, 0, none⟩) (m1 + 1) c16) (c := .slice ag nd cg) (by first | exact List.mem_cons_self | exact List.mem_cons_of_mem _ (List.mem_cons_self) | exact List.mem_cons_of_mem _ (List.mem_cons_of_mem _ (List.mem_cons_self)) | exact List.mem_cons_of_mem _ (List.mem_cons_of_mem _ (List.mem_cons_of_mem _ (List.mem_cons_self))) | exact List.mem_cons_of_mem _ (List.mem_cons_of_mem _ (List.mem_cons_of_mem _ (List.mem_cons_of_mem _ (List.mem_cons_self)))) | exact List.mem_cons_of_mem _ (List.mem_cons_of_mem _ (List.mem_cons_of_mem _ (List.mem_cons_of_mem _ (List.mem_cons_of_mem _ (List.mem_cons_self)))))); go_simp; have RY := (RX.out.swapB.last (.slice (some ⟨g6, 0, none⟩) (nd + wd) c6)).swapB; obtain ⟨WY, hW⟩ : ∃ WY, WY = WX.setCell ⟨g18, 2, none⟩ (.slice (some ⟨g6, 0, none⟩) (nd + wd) c6) := ⟨_, rfl⟩; rw [← hW] at RY ⊢; clear hW o0 o1 o2 f2; obtain ⟨WX, hW⟩ : ∃ W, W = WY := ⟨_, rfl⟩; rw [← hW] at RY ⊢; replace RX := Lib.hid RY; clear RY hW)
                    refine hK.out _ _ (by (try dsimp only); with_reducible exact ⟨(RX.out.rs.at (r := w.heap.size) (a := .int .i64 k) (b := .int .i64 p) (c := .int .i64 q) (by first | exact List.mem_cons_self | exact List.mem_cons_of_mem _ (List.mem_cons_self) | exact List.mem_cons_of_mem _ (List.mem_cons_of_mem _ (List.mem_cons_self)) | exact List.mem_cons_of_mem _ (List.mem_cons_of_mem _ (List.mem_cons_of_mem _ (List.mem_cons_self))) | exact List.mem_cons_of_mem _ (List.mem_cons_of_mem _ (List.mem_cons_of_mem _ (List.mem_cons_of_mem _ (List.mem_cons_self)))) | exact List.mem_cons_of_mem _ (List.mem_cons_of_mem _ (List.mem_cons_of_mem _ (List.mem_cons_of_mem _ (List.mem_cons_of_mem _ (List.mem_cons_self))))))).1, (RX.out.rs.at (r := g16b) (a := .slice x1 q1 y1) (b := .slice x2 q2 y2) (c := .slice x3 q3 y3) (by first | exact List.mem_cons_self | exact List.mem_cons_of_mem _ (List.mem_cons_self) | exact List.mem_cons_of_mem _ (List.mem_cons_of_mem _ (List.mem_cons_self)) | exact List.mem_cons_of_mem _ (List.mem_cons_of_mem _ (List.mem_cons_of_mem _ (List.mem_cons_self))) | exact List.mem_cons_of_mem _ (List.mem_cons_of_mem _ (List.mem_cons_of_mem _ (List.mem_cons_of_mem _ (List.mem_cons_self)))) | exact List.mem_cons_of_mem _ (List.mem_cons_of_mem _ (List.mem_cons_of_mem _ (List.mem_cons_of_mem _ (List.mem_cons_of_mem _ (List.mem_cons_self))))))).1⟩) (fun hHeld => ?_)
                    clear hK K
                    try simp only [Act.put, List.getElem_toArray, List.getElem_cons_succ, List.getElem_cons_zero, List.setIfInBounds_toArray, List.set_cons_zero, List.set_cons_succ]
                    exact K1_5_6_8.out gz cz g6 c6 WX RX
                intro gz cz g6 c6 WX RX
                refine wpAnyH_done (by kernel_rfl) ?_ _
-- 5 states
                have R9 : Hid (RsT w WX [(g18, .slice (some ⟨g7, 0, none⟩) (m1 + 1) c7, .slice (some ⟨g16, 0, none⟩) (m1 + 1) c16, .slice (some ⟨g6, 0, none⟩) (nd + wd) c6), (w.heap.size + 1, nilV, nilV, nilV), (w.heap.size, .int .i64 k, .int .i64 p, .int .i64 q)] ((.slice (some ⟨g6, 0, none⟩) (nd + wd) c6, stackL wd e Ys ++ (Ys.take (i + 1)).flatMap fun Y => getL wd Y e) :: (rowsR zs ++ [(.slice (some ⟨g7, 0, none⟩) (m1 + 1) c7, L ++ [b]), (.slice (some ⟨g16, 0, none⟩) (m1 + 1) c16, D ++ [(n : Int)])])) (.slice (some ⟨ge, 0, none⟩) n ca) (zs.map (·.1))) := Lib.hid (by rw [← HNX.out]; exact RX.out.subB (List.sublist_cons_self _ _))
                have HN2 : Hid (nd + wd = (e * n + (i + 1)) * wd) := Lib.hid (by rw [HNI.out, ← Nat.add_assoc, Nat.add_mul _ 1, Nat.one_mul])
                go_wp2
                go_roundw
                case rel => exact ⟨i + 1, nd + wd, c6, some ⟨g6, 0, none⟩, by omega, by go_num, HN2, R9⟩
                case measure => simp [intOf]; omega
              · obtain rfl : n = i := by omega
                have HL9 : Hid (stackL wd e Ys ++ (Ys.take n).flatMap (fun Y => getL wd Y e) = stackL wd (e + 1) Ys) := Lib.hid (by
                  rw [List.take_of_length_le (by rw [HYL2.out]; exact Nat.le_refl _)]; unfold stackL; rw [gather_succ])
                rw [HL9.out] at HR
                have HN2 : Hid (nd = (e + 1) * n * wd) := Lib.hid (by rw [HNI.out, Nat.add_mul e 1 n, Nat.one_mul])
                go_wp2
                go_roundw
                case rel => exact ⟨e + 1, nd, cg, ag, by omega, by go_num, HN2, HR⟩
                case measure => simp [intOf]; omega
          · obtain rfl : N = e := by omega
            have hnlt : ¬ (N : Int) < (N : Int) := by omega
            obtain ⟨⟨t0, t1, t2⟩, f0, f1, f2⟩ := HR.out.rs.at (r := w.heap.size + 1) (a := nilV) (b := nilV) (c := nilV) (by first | exact List.mem_cons_self | exact List.mem_cons_of_mem _ (List.mem_cons_self) | exact List.mem_cons_of_mem _ (List.mem_cons_of_mem _ (List.mem_cons_self)) | exact List.mem_cons_of_mem _ (List.mem_cons_of_mem _ (List.mem_cons_of_mem _ (List.mem_cons_self))) | exact List.mem_cons_of_mem _ (List.mem_cons_of_mem _ (List.mem_cons_of_mem _ (List.mem_cons_of_mem _ (List.mem_cons_self)))) | exact List.mem_cons_of_mem _ (List.mem_cons_of_mem _ (List.mem_cons_of_mem _ (List.mem_cons_of_mem _ (List.mem_cons_of_mem _ (List.mem_cons_self))))))
            obtain ⟨⟨o0, o1, o2⟩, -⟩ := HR.out.rs.at (r := g18) (a := .slice (some ⟨g7, 0, none⟩) (m1 + 1) c7) (b := .slice (some ⟨g16, 0, none⟩) (m1 + 1) c16) (c := .slice ag nd cg) (by first | exact List.mem_cons_self | exact List.mem_cons_of_mem _ (List.mem_cons_self) | exact List.mem_cons_of_mem _ (List.mem_cons_of_mem _ (List.mem_cons_self)) | exact List.mem_cons_of_mem _ (List.mem_cons_of_mem _ (List.mem_cons_of_mem _ (List.mem_cons_self))) | exact List.mem_cons_of_mem _ (List.mem_cons_of_mem _ (List.mem_cons_of_mem _ (List.mem_cons_of_mem _ (List.mem_cons_self)))) | exact List.mem_cons_of_mem _ (List.mem_cons_of_mem _ (List.mem_cons_of_mem _ (List.mem_cons_of_mem _ (List.mem_cons_of_mem _ (List.mem_cons_self))))))
            go_wp2
            refine bodyPost_ret (v := .tuple #[tenV (.slice (some ⟨g7, 0, none⟩) (m1 + 1) c7) (.slice (some ⟨g16, 0, none⟩) (m1 + 1) c16) (.slice ag nd cg), .bool true]) (by simp [results, Try.results5, go_sem, t0, t1, t2]) rfl ?_
            rw [HYL.out.1, HYL.out.2, HYX.out]
            have h3 := ((HR.out.rs.swapB.set3 (.slice (some ⟨g7, 0, none⟩) (m1 + 1) c7) (.slice (some ⟨g16, 0, none⟩) (m1 + 1) c16) (.slice ag nd cg)).sub (List.Sublist.cons_cons _ (List.sublist_append_right _ _))).backT
            exact ⟨_, _, _, rfl, h3.ownG, h3.bel⟩
      · have q1 : decide (s < 0) = true := by simpa using hs0
        obtain rfl : fb = false := by rw [HFBE.out, HALL.out, ← HSS.out]; simpa using hs0
        obtain ⟨rfl, rfl, rfl⟩ := HNO.out (by simp)
        obtain ⟨⟨t0, t1, t2⟩, f0, f1, f2⟩ := R5.out.rs.at (r := w.heap.size + 1) (a := nilV) (b := nilV) (c := nilV) (by first | exact List.mem_cons_self | exact List.mem_cons_of_mem _ (List.mem_cons_self) | exact List.mem_cons_of_mem _ (List.mem_cons_of_mem _ (List.mem_cons_self)) | exact List.mem_cons_of_mem _ (List.mem_cons_of_mem _ (List.mem_cons_of_mem _ (List.mem_cons_self))) | exact List.mem_cons_of_mem _ (List.mem_cons_of_mem _ (List.mem_cons_of_mem _ (List.mem_cons_of_mem _ (List.mem_cons_self)))) | exact List.mem_cons_of_mem _ (List.mem_cons_of_mem _ (List.mem_cons_of_mem _ (List.mem_cons_of_mem _ (List.mem_cons_of_mem _ (List.mem_cons_self))))))
        go_wp2
        refine bodyPost_ret (v := .tuple #[tenV nilV nilV nilV, .bool false]) (by simp [results, Try.results5, go_sem, t0, t1, t2]) rfl ?_
        exact NewTen2.nils (((R5.out.rs.bel.setCell (by simp) _).setCell (by simp) _).setCell (by simp) _)
end Go.Proofs.Ytceidekfcnmeaaa
