
/- Sums and multiples of tensors in every order of axes: what the law FnLinear compares. -/
import Derived.Test.YtceidekfcnmeaaaGreatAssocKit
import Derived.Test.YtceidekfcnmeaaaGreatPermutedMath
import Derived.Test.YtceidekfcnmeaaaGreatPermSpec
import Derived.Test.YtceidekfcnmeaaaGreatTimesOne
import Derived.Test.YtceidekfcnmeaaaGreatElem
import Derived.Test.YtceidekfcnmeaaaGreatZeroImpl
import Derived.Deep.RegionLaw
import Derived.Test.YtceidekfcnmeaaaGreatPermImpl
import Derived.Test.YtceidekfcnmeaaaGreatIndexIn
import Derived.Test.YtceidekfcnmeaaaGreatTensorOk2
import Derived.Test.YtceidekfcnmeaaaGreatElemRd
import Derived.Test.YtceidekfcnmeaaaGreatElemAt
import Derived.Test.YtceidekfcnmeaaaGreatZero
import Derived.Test.YtceidekfcnmeaaaGreatPermuted
import Derived.Deep.RegionHeld3
import Derived.Test.YtceidekfcnmeaaaGreatSizeImpl
import Derived.Deep.AppendLies
import Derived.Test.YtceidekfcnmeaaaGreatTensorOk
import Derived.Test.YtceidekfcnmeaaaGreatTenOkImpl
namespace Go.Proofs.YtceidekfcnmeaaaGreat
set_option maxRecDepth 20000

/-- Where the element with n indices before it lies, the axes put in another order. -/
def permF (L D labels : List Int) (n : Nat) : Nat := (offI D (viaL L labels (idxL (dimsVia L D labels) (n : Int)))).toNat
structure LinT (k p q : Int) (wd N : Nat) (L D X : List Int) : Prop where
  rg : ringB k p q = true
  hw : widthI k q = (wd : Int)
  w1 : 1 ≤ wd ∧ wd ≤ 6
  ax : AxesV L D
  pr : prodL D = (N : Int)
  n1 : 1 ≤ N ∧ N ≤ 4096
  lX : X.length = N * wd
  wX : Within (topI k p q) X
theorem LinT.of {k p q : Int} {L D X : List Int} (ht : tensorB k p q L D X = true) : LinT k p q (widthI k q).toNat (prodL D).toNat L D X := by
  have hrb := (tensorB_inv ht).1
  have hwd := ring_width hrb
  have hf := TenF.of (wd := (widthI k q).toNat) ht (by omega)
  exact ⟨hrb, by omega, by omega, hf.ax, hf.pr, hf.n1, hf.lX, hf.wX⟩
section
variable {k p q : Int} {wd N : Nat} {L D X : List Int}
theorem LinT.dim (h : LinT k p q wd N L D X) : ∀ d ∈ D, 1 ≤ d := fun d hd => (h.ax.2.2.2.1 d hd).1
theorem LinT.yes (h : LinT k p q wd N L D X) : tensorB k p q L D X = true := by
  have h1 := h.pr
  have h2 := h.n1
  exact (tensorB_of h.rg h.ax (by omega) (by rw [h.pr, h.hw, h.lX, Int.natCast_mul]) h.wX).1
theorem LinT.at (h : LinT k p q wd N L D X) {f : Nat → List Int} (hf : ∀ i, i < N → ElemV k p q (f i)) {i : Nat} (hi : i < N) : getL wd (gatherL f N) i = f i :=
  gather_get (fun j hj => by have h1 := (hf j hj).1; have h2 := h.hw; omega) hi
theorem LinT.permLt (h : LinT k p q wd N L D X) {A : List Int} (hA : A.Perm L) (n : Nat) : permF L D A n < N := by
  have hs := setV_perm hA h.ax.2.2.2.2
  obtain ⟨o, h1, h2, -⟩ := (PF.of h.yes hs).off n
  unfold Go.Proofs.YtceidekfcnmeaaaGreat.permF
  rw [h1, Int.toNat_natCast]
  have := h.pr
  omega
theorem LinT.perm (h : LinT k p q wd N L D X) (A : List Int) : permDataL k q L D X A = gatherL (fun n => getL wd X (Go.Proofs.YtceidekfcnmeaaaGreat.permF L D A n)) N := by
  unfold permDataL permX gatherL
  have h1 : (widthI k q).toNat = wd := by have := h.hw; omega
  have h2 : (prodL D).toNat = N := by have := h.pr; omega
  rw [h1, h2]
  rfl
/-- The tensor with its axes in another order. -/
theorem LinT.turn (h : LinT k p q wd N L D X) {A : List Int} (hA : A.Perm L) : LinT k p q wd N A (dimsVia L D A) (permDataL k q L D X A) := by
  have h1 := perm_ok h.yes hA
  have h2 := LinT.of h1.2.1
  have h3 : (widthI k q).toNat = wd := by have := h.hw; omega
  have h4 : (prodL (dimsVia L D A)).toNat = N := by rw [h1.2.2]; have := h.pr; omega
  rw [h3, h4] at h2
  exact h2
theorem LinT.back (h : LinT k p q wd N L D X) {A : List Int} (hA : A.Perm L) : dimsVia A (dimsVia L D A) L = D ∧ permDataL k q A (dimsVia L D A) (permDataL k q L D X A) L = X := by
  have h1 := perm_perm h.yes hA (List.Perm.refl L)
  have h2 := perm_back h.yes
  exact ⟨h1.1.trans h2.1, h1.2.trans h2.2⟩
end
end Go.Proofs.YtceidekfcnmeaaaGreat
namespace Go.Proofs.YtceidekfcnmeaaaGreat
set_option maxRecDepth 20000
open Go.RowKit

set_option maxHeartbeats 6400000 in
theorem make_like {v lv dv xv : Value} {bts : List UInt8} {k p q : Int} {L D X : List Int} {w : World} (n : Nat) (hn : n ≤ 1000) (hk : ringB k p q = true) (hr : Rd w.heap.size w v (bytes8 bts)) (hl : bts.length ≤ 1048576) (ha : RdT w.heap.size w lv dv xv L D X) (ht : tensorB k p q L D X = true) :
    Calls Tryz.prog 25 #[v, .int .i64 n, ringV k p q, tenV lv dv xv] w fun e w' => ∃ A Y, A.Perm L ∧ tensorB k p q L D Y = true ∧ NewS w A (dimsVia L D A) (permDataL k q L D Y A) id e w' := by
  have HT := Lib.hid ha
  have HR := Lib.hid hr
  have HL := Lib.hid hl
  have HK := Lib.hid hk
  have HTT := Lib.hid ht
  obtain ⟨ab, cb0, rfl, -⟩ := bytes_cell hr
  obtain ⟨al, cl, rfl, -⟩ := ints_form ha.l
  obtain ⟨ad, cd, rfl, -⟩ := ints_form ha.d
  obtain ⟨ax, cx, rfl, -⟩ := ints_form ha.x
  obtain ⟨m1, hm1⟩ : ∃ m, m = L.length := ⟨_, rfl⟩
  obtain ⟨m2, hm2⟩ : ∃ m, m = D.length := ⟨_, rfl⟩
  obtain ⟨m3, hm3⟩ : ∃ m, m = X.length := ⟨_, rfl⟩
  rw [← hm1, ← hm2, ← hm3] at HT ⊢
  have R0 : Hid (Rs w (((w.alloc (.cells #[.int .i64 k, .int .i64 p, .int .i64 q] 24)).alloc (.cells #[.slice al m1 cl, .slice ad m2 cd, .slice ax m3 cx] 28)).alloc (.cells #[nilV, nilV, nilV] 28)) [(w.heap.size + 1 + 1, nilV, nilV, nilV), (w.heap.size + 1, .slice al m1 cl, .slice ad m2 cd, .slice ax m3 cx), (w.heap.size, .int .i64 k, .int .i64 p, .int .i64 q)] []) := by
    have h := ((((Rs.start w).box (.int .i64 k) (.int .i64 p) (.int .i64 q) 24).box (.slice al m1 cl) (.slice ad m2 cd) (.slice ax m3 cx) 28).box (nilV) (nilV) (nilV) 28)
    simp only [World.size_alloc] at h
    exact h
  have hax := (tensor_axes ht)
  have hf := (PF.of ht (setV_perm (List.Perm.refl L) hax.2.2.2.2))
  have HAX := Lib.hid hax
  obtain ⟨N, hN⟩ : ∃ N, N = (prodL D).toNat := ⟨_, rfl⟩
  have HPN : Hid (prodL D = (N : Int) ∧ 1 ≤ N ∧ N ≤ 4096) := Lib.hid (by rw [hN]; exact ⟨hf.pD, hf.n1⟩)
  have HLM : Hid (L.length = m1 ∧ D.length = m2) := Lib.hid ⟨hm1.symm, hm2.symm⟩
  have HCA := Lib.hid (cur_at n hn ((HR.out.below R0.out.bel (Nat.le_refl _)).mono R0.out.bel.size) HL.out)
  obtain ⟨⟨r0, r1, r2⟩, -⟩ := R0.out.at (r := w.heap.size) (a := .int .i64 k) (b := .int .i64 p) (c := .int .i64 q) (by simp)
  obtain ⟨⟨s0, s1, s2⟩, -⟩ := R0.out.at (r := w.heap.size + 1) (a := .slice al m1 cl) (b := .slice ad m2 cd) (c := .slice ax m3 cx) (by simp)
  clear ha hr hl hk ht hm1 hm2 hm3 hax hf hN hn
  go_enter Tryz.func25, Tryz.ntmps25
  go_wp2_with fail
  generalize (((w.alloc (.cells #[.int .i64 k, .int .i64 p, .int .i64 q] 24)).alloc (.cells #[.slice al m1 cl, .slice ad m2 cd, .slice ax m3 cx] 28)).alloc (.cells #[nilV, nilV, nilV] 28)) = V at R0 HCA r0 r1 r2 s0 s1 s2 ⊢
  refine HCA.out.mono ?_
  clear r0 r1 r2 s0 s1 s2 HCA
  rintro e w2 ⟨cb, rfl, hc, hb⟩
  have HC := Lib.hid hc
  have HB2 := Lib.hid hb
  have R2 := Lib.hid (R0.out.step hb)
  have HKB := Lib.hid (fun (W : World) (hk : KeptOut w2 W cb (cb + 1)) => hk.below HB2.out HC.out.lo.1 HB2.out.size)
  clear hc hb
  obtain ⟨⟨r0, r1, r2⟩, -⟩ := R2.out.at (r := w.heap.size) (a := .int .i64 k) (b := .int .i64 p) (c := .int .i64 q) (by simp)
  obtain ⟨⟨s0, s1, s2⟩, -⟩ := R2.out.at (r := w.heap.size + 1) (a := .slice al m1 cl) (b := .slice ad m2 cd) (c := .slice ax m3 cx) (by simp)
  have HRL := Lib.hid (fun (W : World) (hk : KeptOut w2 W cb (cb + 1)) => (HT.out.below (R0.out.step (HKB.out W hk)).bel (Nat.le_refl _)))
  have HFI := Lib.hid (draw_fill (lv := .slice al m1 cl) (dv := .slice ad m2 cd) (L := L) (D := D) N HK.out HC.out (fun W hk => (HRL.out W hk).l.mono R2.out.bel.size) (fun W hk => (HRL.out W hk).d.mono R2.out.bel.size) HAX.out.1 (by rw [← HAX.out.2.1]; exact HAX.out.1) HAX.out.2.2.2.1 HPN.out.1 HPN.out.2.2)
  go_wp2_with fail
  refine HFI.out.mono ?_
  clear r0 r1 r2 s0 s1 s2 HFI
  rintro e w3 ⟨l', d', x', Y, rfl, hyl, hyw, ho, hc3, hk3⟩
  have HTY : Hid (tensorB k p q L D Y = true) := Lib.hid (tensorB_of HK.out HAX.out (by have := HPN.out; omega) hyl hyw).1
  have C3 := Lib.hid ((RsC.start HC.out).drawnG hk3 hc3 ho)
  obtain ⟨a1, c1, rfl, -⟩ := ints_form ho.rows.1.rd
  obtain ⟨a2, c2, rfl, -⟩ := ints_form ho.rows.2.1.rd
  obtain ⟨a3, c3, rfl, -⟩ := ints_form ho.rows.2.2.rd
  obtain ⟨m4, hm4⟩ : ∃ m, m = Y.length := ⟨_, rfl⟩
  rw [HLM.out.1, HLM.out.2, ← hm4] at C3 ⊢
  have C4 := Lib.hid (C3.out.box (.slice a1 m1 c1) (.slice a2 m2 c2) (.slice a3 m4 c3) 28).drew
  have hz3 := C3.out.size
  clear hyl hyw ho hc3 hk3 hm4 C3 HC
  simp only [List.cons_append, List.nil_append] at C4
  have C4' := C4.out
  obtain ⟨ub, hub⟩ : ∃ g, g = w3.heap.size := ⟨_, rfl⟩
  have HUB : Hid (V.heap.size ≤ ub) := Lib.hid (by rw [hub]; exact Nat.le_trans HB2.out.size hz3)
  clear hz3
  go_wp2
  generalize hW3 : w3.alloc (.cells #[.slice a1 m1 c1, .slice a2 m2 c2, .slice a3 m4 c3] 28) = w4 at C4 C4' ⊢
  rw [← hub] at C4 C4' ⊢
  clear hW3 C4' hub
  have RX := Lib.hid (R0.out.step (HKB.out _ C4.out.kept))
  obtain ⟨⟨r0, r1, r2⟩, -⟩ := RX.out.at (r := w.heap.size) (a := .int .i64 k) (b := .int .i64 p) (c := .int .i64 q) (by simp)
  obtain ⟨⟨s0, s1, s2⟩, -⟩ := RX.out.at (r := w.heap.size + 1) (a := .slice al m1 cl) (b := .slice ad m2 cd) (c := .slice ax m3 cx) (by simp)
  obtain ⟨⟨u0, u1, u2⟩, -⟩ := C4.out.at (r := ub) (a := .slice a1 m1 c1) (b := .slice a2 m2 c2) (c := .slice a3 m4 c3) (by simp)
  refine wp_region_held_drew (S := (fun w' => w'.cell? ⟨w.heap.size, 0, none⟩ = some (.int .i64 k) ∧ w'.cell? ⟨w.heap.size, 1, none⟩ = some (.int .i64 p) ∧ w'.cell? ⟨w.heap.size, 2, none⟩ = some (.int .i64 q) ∧ w'.cell? ⟨w.heap.size + 1, 0, none⟩ = some (.slice al m1 cl) ∧ w'.cell? ⟨w.heap.size + 1, 1, none⟩ = some (.slice ad m2 cd) ∧ w'.cell? ⟨w.heap.size + 1, 2, none⟩ = some (.slice ax m3 cx) ∧ w'.cell? ⟨ub, 0, none⟩ = some (.slice a1 m1 c1) ∧ w'.cell? ⟨ub, 1, none⟩ = some (.slice a2 m2 c2) ∧ w'.cell? ⟨ub, 2, none⟩ = some (.slice a3 m4 c3))) (by kernel_rfl) (by (try dsimp only); exact ⟨r0, r1, r2, s0, s1, s2, u0, u1, u2⟩) (fun hHeld => ?_)
  refine wpAnyH_take (i := 0) (v := ?_) rfl (by kernel_rfl) (by kernel_rfl) (by kernel_rfl) (fun _ _ _ h => h) (Or.inl ⟨by rfl, ?_⟩) (by assumption) ?_
  rotate_left
  · intro w hSw; (try dsimp only at hSw); go_simp <;> with_reducible rfl
  try simp only [Act.put, List.getElem_toArray, List.getElem_cons_zero, List.setIfInBounds_toArray, List.set_cons_zero, List.set_cons_succ]
  refine wpAnyH_take (i := 1) (v := ?_) rfl (by kernel_rfl) (by kernel_rfl) (by kernel_rfl) (fun _ _ _ h => h) (Or.inl ⟨by rfl, ?_⟩) (by assumption) ?_
  rotate_left
  · intro w hSw; (try dsimp only at hSw); go_simp <;> with_reducible rfl
  try simp only [Act.put, List.getElem_toArray, List.getElem_cons_succ, List.getElem_cons_zero, List.setIfInBounds_toArray, List.set_cons_zero, List.set_cons_succ]
  refine wpAnyH_take (i := 2) (v := ?_) rfl (by kernel_rfl) (by kernel_rfl) (by kernel_rfl) (fun _ _ _ h => h) (Or.inl ⟨by rfl, ?_⟩) (by assumption) ?_
  rotate_left
  · intro w hSw; (try dsimp only at hSw); go_simp <;> with_reducible rfl
  try simp only [Act.put, List.getElem_toArray, List.getElem_cons_succ, List.getElem_cons_zero, List.setIfInBounds_toArray, List.set_cons_zero, List.set_cons_succ]
  refine wpAnyH_take (i := 3) (v := ?_) rfl (by kernel_rfl) (by kernel_rfl) (by kernel_rfl) (fun _ _ _ h => h) (Or.inl ⟨by rfl, ?_⟩) (by assumption) ?_
  rotate_left
  · intro w hSw; (try dsimp only at hSw); go_simp <;> with_reducible rfl
  try simp only [Act.put, List.getElem_toArray, List.getElem_cons_succ, List.getElem_cons_zero, List.setIfInBounds_toArray, List.set_cons_zero, List.set_cons_succ]
  refine wpAnyH_take (i := 4) (v := ?_) rfl (by kernel_rfl) (by kernel_rfl) (by kernel_rfl) (fun _ _ _ h => h) (Or.inl ⟨by rfl, ?_⟩) (by assumption) ?_
  rotate_left
  · intro w hSw; (try dsimp only at hSw); go_simp <;> with_reducible rfl
  try simp only [Act.put, List.getElem_toArray, List.getElem_cons_succ, List.getElem_cons_zero, List.setIfInBounds_toArray, List.set_cons_zero, List.set_cons_succ]
  refine wpAnyH_ready (rs := [5]) (by kernel_rfl) (by simp) ?_
  refine AllReadyH.cons rfl (fun K hK => ?_) AllReadyH.nil
  go_simp
  (go_at_call 67; refine (shuffle C4.out.cur (HT.out.l.below RX.out.bel (Nat.le_refl _)) RX.out.bel.size (by have := HAX.out.1; omega)).mono ?_; rintro e w5 ⟨v', A, rfl, hp, ho, hc, hk⟩; have HP := Lib.hid hp; have C5 := Lib.hid (C4.out.drawn hk hc ho); clear r0 r1 r2 s0 s1 s2 u0 u1 u2 RX hp ho hc hk; have RX := Lib.hid (R0.out.step (HKB.out _ C5.out.kept)); obtain ⟨⟨r0, r1, r2⟩, -⟩ := RX.out.at (r := w.heap.size) (a := .int .i64 k) (b := .int .i64 p) (c := .int .i64 q) (by simp); obtain ⟨⟨s0, s1, s2⟩, -⟩ := RX.out.at (r := w.heap.size + 1) (a := .slice al m1 cl) (b := .slice ad m2 cd) (c := .slice ax m3 cx) (by simp); obtain ⟨⟨u0, u1, u2⟩, -⟩ := C5.out.at (r := ub) (a := .slice a1 m1 c1) (b := .slice a2 m2 c2) (c := .slice a3 m4 c3) (by simp))
  go_wp2_with fail
  refine hK.out _ _ (by (try dsimp only); exact ⟨r0, r1, r2, s0, s1, s2, u0, u1, u2⟩) (fun hHeld => ?_)
  clear hK K
  try simp only [Act.put, List.getElem_toArray, List.getElem_cons_succ, List.getElem_cons_zero, List.setIfInBounds_toArray, List.set_cons_zero, List.set_cons_succ]
  refine wpAnyH_ready (rs := [6]) (by kernel_rfl) (by simp) ?_
  refine AllReadyH.cons rfl (fun K hK => ?_) AllReadyH.nil
  go_simp
  (go_at_call 66; refine (permute_spec (k := k) (p := p) (q := q) (L := L) (D := D) (X := Y) (labels := A) ⟨C5.out.rd (u := .slice a1 m1 c1) (xs := L) (by simp), C5.out.rd (u := .slice a2 m2 c2) (xs := D) (by simp), C5.out.rd (u := .slice a3 m4 c3) (xs := Y) (by simp)⟩ (C5.out.rd (u := v') (xs := A) (by simp)) (Nat.le_refl _) HTY.out (setV_perm HP.out HAX.out.2.2.2.2)).mono ?_; rintro e w6 ⟨l', d', x', rfl, ho, hb⟩; have HB6 := Lib.hid hb; have hlt := C5.out.size; have hne : ub ≠ w.heap.size + 1 + 1 := (by have h1 := (R0.out.bx (w.heap.size + 1 + 1, nilV, nilV, nilV) (by simp)).lt; have h2 := HUB.out; omega); obtain ⟨b1, g1, rfl, -⟩ := ints_form ho.rows.1.rd; obtain ⟨b2, g2, rfl, -⟩ := ints_form ho.rows.2.1.rd; obtain ⟨b3, g3, rfl, -⟩ := ints_form ho.rows.2.2.rd; obtain ⟨q2, hq2⟩ : ∃ m, m = (dimsVia L D A).length := ⟨_, rfl⟩; obtain ⟨q3, hq3⟩ : ∃ m, m = (permX (widthI k q).toNat L D Y A (prodL D).toNat).length := ⟨_, rfl⟩; have hqA : A.length = m1 := (by rw [HP.out.length_eq, HLM.out.1]); rw [hqA, ← hq2, ← hq3] at ho ⊢; have HO := Lib.hid ho; have RZ := Lib.hid ((RX.out.step hb).permB (List.Perm.refl _)); clear r0 r1 r2 s0 s1 s2 hq2 hq3 hqA ho RX; have RX := RZ; obtain ⟨⟨r0, r1, r2⟩, -⟩ := RX.out.at (r := w.heap.size) (a := .int .i64 k) (b := .int .i64 p) (c := .int .i64 q) (by simp); obtain ⟨⟨s0, s1, s2⟩, -⟩ := RX.out.at (r := w.heap.size + 1) (a := .slice al m1 cl) (b := .slice ad m2 cd) (c := .slice ax m3 cx) (by simp); have C6 := Lib.hid (C5.out.step hb); clear u0 u1 u2 hb; obtain ⟨⟨u0, u1, u2⟩, -⟩ := C6.out.at (r := ub) (a := .slice a1 m1 c1) (b := .slice a2 m2 c2) (c := .slice a3 m4 c3) (by simp))
  go_wp2_with fail
  refine hK.out _ _ (by (try dsimp only); exact ⟨r0, r1, r2, s0, s1, s2, u0, u1, u2⟩) (fun hHeld => ?_)
  clear hK K
  try simp only [Act.put, List.getElem_toArray, List.getElem_cons_succ, List.getElem_cons_zero, List.setIfInBounds_toArray, List.set_cons_zero, List.set_cons_succ]
  refine wpAnyH_ready (rs := [7]) (by kernel_rfl) (by simp) ?_
  refine AllReadyH.cons rfl (fun K hK => ?_) AllReadyH.nil
  (obtain ⟨⟨o0, o1, o2⟩, f0, f1, f2⟩ := RX.out.at (r := w.heap.size + 1 + 1) (a := nilV) (b := nilV) (c := nilV) (by simp))
  go_simp
  (clear r0 r1 r2 s0 s1 s2; have u0 := set3_far (a := .slice b1 m1 g1) (b := .slice b2 q2 g2) (c := .slice b3 q3 g3) hne u0; have u1 := set3_far (a := .slice b1 m1 g1) (b := .slice b2 q2 g2) (c := .slice b3 q3 g3) hne u1; have u2 := set3_far (a := .slice b1 m1 g1) (b := .slice b2 q2 g2) (c := .slice b3 q3 g3) hne u2; have RY := Lib.hid (RX.out.set3 (.slice b1 m1 g1) (.slice b2 q2 g2) (.slice b3 q3 g3)); obtain ⟨⟨r0, r1, r2⟩, -⟩ := RY.out.at (r := w.heap.size) (a := .int .i64 k) (b := .int .i64 p) (c := .int .i64 q) (by simp); obtain ⟨⟨s0, s1, s2⟩, -⟩ := RY.out.at (r := w.heap.size + 1) (a := .slice al m1 cl) (b := .slice ad m2 cd) (c := .slice ax m3 cx) (by simp))
  refine hK.out _ _ (by (try dsimp only); exact ⟨r0, r1, r2, s0, s1, s2, u0, u1, u2⟩) (fun hHeld => ?_)
  clear hK K
  try simp only [Act.put, List.getElem_toArray, List.getElem_cons_succ, List.getElem_cons_zero, List.setIfInBounds_toArray, List.set_cons_zero, List.set_cons_succ]
  refine wpAnyH_done (by kernel_rfl) ?_ _
  all_goals
    have hz1 := (R0.out.step (HKB.out _ C5.out.kept)).bel.size
    have lt1 : w.heap.size + 1 + 1 < w5.heap.size := ((R0.out.step (HKB.out _ C5.out.kept)).bx (w.heap.size + 1 + 1, nilV, nilV, nilV) (by simp)).lt
    have HF := Lib.hid (HO.out.set3 lt1 (.slice b1 m1 g1) (.slice b2 q2 g2) (.slice b3 q3 g3))
    go_wp2
    refine bodyPost_ret (v := tenV (.slice b1 m1 g1) (.slice b2 q2 g2) (.slice b3 q3 g3)) (by simp [results, Tryz.results25, go_sem, o0, o1, o2]) rfl ?_
    refine ⟨A, Y, HP.out, HTY.out, NewS.of (f := id) (HF.out.wide hz1 (by simp) (by simp)) RY.out.bel⟩
end Go.Proofs.YtceidekfcnmeaaaGreat
namespace Go.Proofs.YtceidekfcnmeaaaGreat
set_option maxRecDepth 20000
open Go.RowKit

theorem NewS.of2 {w w' : World} {L D X : List Int} {e : Ending} (h : NewTen2 w L D X true e w') : NewS w L D X (fun t => .tuple #[t, .bool true]) e w' := by
  obtain ⟨lv, dv, xv, rfl, ho, hb⟩ := h
  exact NewS.of (f := fun t => .tuple #[t, .bool true]) ho hb
theorem ten_len {k p q : Int} {L D X : List Int} (h : tensorB k p q L D X = true) : LenT L D X := by
  have h1 := ten_lens h
  exact ⟨by omega, by omega, by omega⟩
theorem ten_ints {k p q : Int} {L D X : List Int} (h : tensorB k p q L D X = true) : allI L := fun z hz => by
  have := (tensor_axes h).2.2.1 z hz
  exact ⟨by omega, by omega⟩
section
variable {B B' : Nat} {lv dv xv lu du xu : Value} {k p q : Int} {L D X L' D' X' Y : List Int} {w : World}
theorem zero_yes (h : zeroTenB k p q L D = true) (he : Y = zeroTenL k p q D) (hT : tensorB k p q L D X = true) (hl : Rd B w lv (ints L)) (hd : Rd B w dv (ints D)) (hB : B ≤ w.heap.size) :
    Calls Tryz.prog 10 #[ringV k p q, lv, dv] w (NewS w L D Y fun t => .tuple #[t, .bool true]) := by
  have hn := ten_lens hT
  have hq := zero_tensor_impl (k := k) (p := p) (q := q) hl hd hB (by omega) (by omega) (ten_ints hT)
  rw [h] at hq
  simp only [if_true] at hq
  rw [he]
  exact hq.mono fun e w' h => by
    obtain ⟨lv, dv, xv, rfl, ho, hb⟩ := h
    exact NewS.of (f := fun t => .tuple #[t, .bool true]) ho hb
theorem same_lin (h : sameB k p q L D X L' D' X' = true) (ht : tensorB k p q L D X = true) (hu : tensorB k p q L' D' X' = true) (ha : RdT B w lv dv xv L D X) (hb : RdT B' w lu du xu L' D' X') (hB : B ≤ w.heap.size) (hB' : B' ≤ w.heap.size) :
    Calls Tryz.prog 16 #[ringV k p q, tenV lv dv xv, tenV lu du xu] w fun e w' => e = .returned (.bool true) ∧ Below w.heap.size w w' := by
  have hq := same_tensor_impl (k := k) (p := p) (q := q) ha hb hB hB' (ten_len ht) (ten_len hu) (ten_ints ht) (ten_ints hu)
  rw [h] at hq
  exact hq
end
end Go.Proofs.YtceidekfcnmeaaaGreat
