
/- (Tensor).permuted: the axes in another order. -/
import Derived.Test.YtgbmacppgaopfabGreatElemRd
import Derived.Test.YtgbmacppgaopfabGreatAlong
import Derived.Test.YtgbmacppgaopfabGreatFind
import Derived.Test.YtgbmacppgaopfabGreatRa
import Derived.Deep.RegionLaw
import Derived.Test.YtgbmacppgaopfabGreatShelfSort
import Derived.Test.YtgbmacppgaopfabGreatZero
import Derived.Test.YtgbmacppgaopfabGreatTensorOk
import Derived.Test.YtgbmacppgaopfabGreatRs
import Derived.Sort.OwnSortedInts
import Derived.Deep.RegionHeld3
import Derived.Test.YtgbmacppgaopfabGreatPermSpec
import Derived.Test.YtgbmacppgaopfabGreatTenOkImpl
namespace Go.Proofs.YtgbmacppgaopfabGreat
set_option maxRecDepth 20000
open Go.RowKit

/-- A store elsewhere. -/
theorem Rs.else {w0 wr : World} {bs : List BxE} {rows : List RowE} {g : Nat} (h : Rs w0 wr bs rows) (h0 : w0.heap.size ≤ g) (hb : ∀ b ∈ bs, b.1 ≠ g) (hr : ∀ r ∈ rows, r.1.ownBlock ≠ some g) (i : Nat) (u : Value) : Rs w0 (wr.setCell ⟨g, i, none⟩ u) bs rows :=
  ⟨h.bel.setCell h0 _, fun r hm => (h.own r hm).kept (grownBy_set wr g i u) (by
    cases hv : r.1.ownBlock with
    | none => exact .inl rfl
    | some k => exact .inr fun e => by injection e with e; subst e; exact hr r hm hv), h.apart, fun b hm => (h.bx b hm).far (fun e => hb b hm e) h0 u i, h.far, h.dis⟩
/-- The first j axes in the order of the labels are written. -/
def OrdTo (L D labels : List Int) (cs : List Value) (j : Nat) : Prop := ∀ i a, i < j → (orderA L D labels)[i]? = some a → cs[i * 3]? = some (.int .i64 a.1) ∧ cs[i * 3 + 1]? = some (.int .i64 a.2.1) ∧ cs[i * 3 + 2]? = some (.int .i64 a.2.2)
theorem OrdTo.step {L D labels : List Int} {cs : List Value} {j : Nat} {x y z : Int} (h : OrdTo L D labels cs j) (ho : (orderA L D labels)[j]? = some (x, y, z)) (hl : j * 3 + 2 < cs.length) :
    OrdTo L D labels (((cs.set (j * 3) (.int .i64 x)).set (j * 3 + 1) (.int .i64 y)).set (j * 3 + 2) (.int .i64 z)) (j + 1) := fun i a hi ha => by
  by_cases e : i = j
  · subst e
    rw [ho] at ha
    injection ha with ha
    subst ha
    refine ⟨?_, ?_, ?_⟩
    · rw [List.getElem?_set_ne (by omega), List.getElem?_set_ne (by omega), List.getElem?_set_self (by omega)]
    · rw [List.getElem?_set_ne (by omega), List.getElem?_set_self (by simp; omega)]
    · rw [List.getElem?_set_self (by simp; omega)]
  · obtain ⟨g1, g2, g3⟩ := h i a (by omega) ha
    refine ⟨?_, ?_, ?_⟩
    · rw [List.getElem?_set_ne (by omega), List.getElem?_set_ne (by omega), List.getElem?_set_ne (by omega)]; exact g1
    · rw [List.getElem?_set_ne (by omega), List.getElem?_set_ne (by omega), List.getElem?_set_ne (by omega)]; exact g2
    · rw [List.getElem?_set_ne (by omega), List.getElem?_set_ne (by omega), List.getElem?_set_ne (by omega)]; exact g3
/-- What offsetsOf asks. -/
theorem PF.pa {k p q : Int} {L D X labels : List Int} {m wd N : Nat} (h : PF k p q L D X labels m wd N) : PA (orderA L D labels) := by
  have hd := h.dims
  refine ⟨by rw [orderA_len, h.lG]; have := h.m12; omega, fun a ha => ?_, fun a ha => ?_, ?_⟩
  · have h1 : a.2.1 ∈ dimsA (orderA L D labels) := List.mem_map_of_mem ha
    rw [dims_orderA] at h1
    exact hd.1 _ h1
  · obtain ⟨n, -, rfl⟩ := List.mem_map.1 ha
    show 0 ≤ prodL (D.drop (L.idxOf n + 1)) ∧ prodL (D.drop (L.idxOf n + 1)) ≤ 65536
    have h1 := prodL_pos (D := D.drop (L.idxOf n + 1)) (fun d hd => (h.dD d (List.mem_of_mem_drop hd)).1)
    have h2 := prodL_pos (D := D.take (L.idxOf n + 1)) (fun d hd => (h.dD d (List.mem_of_mem_take hd)).1)
    have h3 : prodL D = prodL (D.take (L.idxOf n + 1)) * prodL (D.drop (L.idxOf n + 1)) := by
      conv => lhs; rw [← List.take_append_drop (L.idxOf n + 1) D]
      unfold prodL
      rw [List.foldl_append, foldl_mul]
      rfl
    have h4 := Int.mul_le_mul_of_nonneg_right h2 (show 0 ≤ prodL (D.drop (L.idxOf n + 1)) by omega)
    rw [Int.one_mul, ← h3, h.pD] at h4
    have := h.n1
    omega
  · rw [dims_orderA, hd.2.1]; have := h.n1; omega
/-- Where the elements are, in the order of the labels. -/
theorem PF.offs {k p q : Int} {L D X labels : List Int} {m wd N : Nat} (h : PF k p q L D X labels m wd N) : (offsA (orderA L D labels)).length = N ∧ ∀ c, c < N → (offsA (orderA L D labels))[c]? = some (offI D (viaL L labels (idxL (dimsVia L D labels) (c : Int)))) := by
  have e := offsA_order (D := D) h.nd (by rw [h.lL, h.lD]) h.pm (fun d hd => (h.dD d hd).1)
  rw [h.dims.2.1] at e
  rw [e]
  refine ⟨by simp, fun c hc => ?_⟩
  rw [List.getElem?_map, List.getElem?_range (by simpa using hc)]
  rfl
theorem PF.order {k p q : Int} {L D X labels : List Int} {m wd N : Nat} (h : PF k p q L D X labels m wd N) {j z : Nat} {n d : Int} (hj : labels[j]? = some n) (hz : L.idxOf n = z) (hd : D[z]? = some d) : (orderA L D labels)[j]? = some (n, d, prodL (D.drop (z + 1))) ∧ (axesL L D)[z]? = some (n, d, prodL (D.drop (z + 1))) := by
  refine ⟨?_, ?_⟩
  · unfold orderA
    rw [List.getElem?_map, hj]
    show some (n, D.getD (L.idxOf n) 0, prodL (D.drop (L.idxOf n + 1))) = _
    rw [hz, getD_at hd]
  · have hm : n ∈ L := h.pm.subset (List.mem_of_getElem? hj)
    have h1 := at_idxOf hm
    rw [hz] at h1
    exact axesL_at h1 hd

theorem PF.room {k p q : Int} {L D X labels : List Int} {m wd N : Nat} (h : PF k p q L D X labels m wd N) : ∀ o ∈ offsA (orderA L D labels), 0 ≤ o ∧ o ≤ 4096 ∧ o.toNat * wd + wd ≤ X.length := fun o ho => by
  obtain ⟨c, hc, e⟩ := List.mem_iff_getElem.1 ho
  have h1 := h.offs.2 c (by rw [← h.offs.1]; exact hc)
  rw [List.getElem?_eq_getElem hc, e] at h1
  obtain ⟨z, h2, h3, h4, -⟩ := h.off c
  injection h1 with h1
  have h5 := h.n1
  rw [h1, h2, Int.toNat_natCast]
  exact ⟨by omega, by omega, h4⟩
theorem PF.perm {k p q : Int} {L D X labels : List Int} {m wd N : Nat} (h : PF k p q L D X labels m wd N) : alongL wd X 0 (offsA (orderA L D labels)) N = permX wd L D X labels N := by
  have e : N = (prodL D).toNat := by rw [h.pD]; simp
  have e2 := permX_offs (wd := wd) (X := X) h.nd (by rw [h.lL, h.lD]) h.pm (fun d hd => (h.dD d hd).1)
  rw [← e] at e2
  rw [e2]
  unfold alongL
  rw [List.take_of_length_le (by rw [h.offs.1]; exact Nat.le_refl _)]
  simp only [Int.zero_add]

set_option maxHeartbeats 6400000 in
theorem permuted_full {B : Nat} {k p q : Int} {L D X labels : List Int} {m mx wd N cl cd cx cg offx bx0 : Nat} {al ad ag : Option Addr} {w : World} (hp : PF k p q L D X labels m wd N) (hmx : mx = X.length) (hcx : mx ≤ cx) (h : RdT B w (.slice al m cl) (.slice ad m cd) (.slice (some ⟨bx0, offx, none⟩) mx cx) L D X) (hg : Rd B w (.slice ag m cg) (ints labels)) (hB : B ≤ w.heap.size) :
    Calls Tryz.prog 73 #[tenV (.slice al m cl) (.slice ad m cd) (.slice (some ⟨bx0, offx, none⟩) mx cx), ringV k p q, .slice ag m cg] w (NewTen w labels (dimsVia L D labels) (permX wd L D X labels N)) := by
  have P := Lib.hid hp
  have HT := Lib.hid h
  have HG := Lib.hid hg
  have HB := Lib.hid hB
  have HMX := Lib.hid hmx
  have HCX := Lib.hid hcx
  have h12 := hp.m12
  obtain ⟨i0, hi, hz0, hz1, hz2⟩ := info_parts infoInt
  have J0 := Lib.hid hi
  have J1 := Lib.hid hz0
  have J2 := Lib.hid hz1
  have J3 := Lib.hid hz2
  obtain ⟨i1, hi, hz0, hz1, hz2⟩ := info_parts infoAxis
  have K0 := Lib.hid hi
  have K1 := Lib.hid hz0
  have K2 := Lib.hid hz1
  have K3 := Lib.hid hz2
  have RX : Hid (Ra w (((w.alloc (.cells #[.slice al m cl, .slice ad m cd, .slice (some ⟨bx0, offx, none⟩) mx cx] 28)).alloc (.cells #[.int .i64 k, .int .i64 p, .int .i64 q] 24)).alloc (.cells #[nilV, nilV, nilV] 28)) [(w.heap.size + 1 + 1, nilV, nilV, nilV), (w.heap.size + 1, Value.int .i64 k, Value.int .i64 p, Value.int .i64 q), (w.heap.size, Value.slice al m cl, Value.slice ad m cd, Value.slice (some ⟨bx0, offx, none⟩) mx cx)] []) := by
    have h := (((Ra.start w).box (.slice al m cl) (.slice ad m cd) (.slice (some ⟨bx0, offx, none⟩) mx cx) 28).box (.int .i64 k) (.int .i64 p) (.int .i64 q) 24).box nilV nilV nilV 28
    simp only [World.size_alloc] at h
    exact h
  have HAX := Lib.hid (fun (W : World) (hb : Below w.heap.size w W) (h0 : 0 < W.heap.size) => axes_impl (HT.out.below hb hB) (Nat.le_trans hB hb.size) h0 (by rw [hp.lL, hp.lD]) (by rw [hp.lL]; exact hp.m12) hp.dD (by rw [hp.pD]; have := hp.n1; omega))
  have HLA : Hid ((axesL L D).length = m) := Lib.hid (by rw [axesL_len, hp.lL])
  clear hp h hg hB hmx hcx hi hz0 hz1 hz2
  go_enter Tryz.func73, Tryz.ntmps73
  go_wp2
  generalize (((w.alloc (.cells #[.slice al m cl, .slice ad m cd, .slice (some ⟨bx0, offx, none⟩) mx cx] 28)).alloc (.cells #[.int .i64 k, .int .i64 p, .int .i64 q] 24)).alloc (.cells #[nilV, nilV, nilV] 28)) = V at RX ⊢
  have RN := Lib.hid RX
  replace RX := Lib.hid RX.drew
  obtain ⟨⟨t0, t1, t2⟩, -⟩ := RX.out.at (r := w.heap.size) (a := .slice al m cl) (b := .slice ad m cd) (c := .slice (some ⟨bx0, offx, none⟩) mx cx) (by simp)
  refine wp_region_held_drew (S := (fun w' => w'.cell? ⟨w.heap.size, 0, none⟩ = some (.slice al m cl) ∧ w'.cell? ⟨w.heap.size, 1, none⟩ = some (.slice ad m cd) ∧ w'.cell? ⟨w.heap.size, 2, none⟩ = some (.slice (some ⟨bx0, offx, none⟩) mx cx))) (by kernel_rfl) (by (try dsimp only); exact ⟨t0, t1, t2⟩) (fun hHeld => ?_)
  refine wpAnyH_take (i := 0) (v := ?_) rfl (by kernel_rfl) (by kernel_rfl) (by kernel_rfl) (fun _ _ _ h => h) (Or.inl ⟨by rfl, ?_⟩) (by assumption) ?_
  rotate_left
  · intro w hSw; (try dsimp only at hSw); go_simp <;> with_reducible rfl
  try simp only [Act.put, List.getElem_toArray, List.getElem_cons_zero, List.setIfInBounds_toArray, List.set_cons_zero, List.set_cons_succ]
  refine wpAnyH_take (i := 1) (v := ?_) rfl (by kernel_rfl) (by kernel_rfl) (by kernel_rfl) (fun _ _ _ h => h) (Or.inl ⟨by rfl, ?_⟩) (by assumption) ?_
  rotate_left
  · intro w hSw; (try dsimp only at hSw); go_simp <;> with_reducible rfl
  try simp only [Act.put, List.getElem_toArray, List.getElem_cons_succ, List.getElem_cons_zero, List.setIfInBounds_toArray, List.set_cons_zero, List.set_cons_succ]
  refine wpAnyH_take (i := 2) (v := ?_) rfl (by kernel_rfl) (by kernel_rfl) (by kernel_rfl) (fun _ _ _ h => h) (Or.inl ⟨by rfl, ?_⟩) (by assumption) ?_
  rotate_left
  · intro w hSw; (try dsimp only at hSw); go_simp <;> with_reducible rfl
  try simp only [Act.put, List.getElem_toArray, List.getElem_cons_succ, List.getElem_cons_zero, List.setIfInBounds_toArray, List.set_cons_zero, List.set_cons_succ]
  refine wpAnyH_ready (rs := [3, 8]) (by kernel_rfl) (by simp) ?_
  refine AllReadyH.cons rfl (fun K hK => ?_) (AllReadyH.cons rfl (fun K hK => ?_) AllReadyH.nil)
  focus
    go_simp
    (go_at_call 56; refine (HAX.out _ RX.out.bel (Nat.lt_of_le_of_lt (Nat.zero_le _) (RX.out.bx (w.heap.size + 1 + 1, nilV, nilV, nilV) (by simp)).lt)).mono ?_; rintro e WX ⟨vA, rfl, ho, hb⟩; obtain ⟨aA, cA, rfl⟩ := (OwnA.rd ho).form; rw [HLA.out] at ho ⊢; (try (replace GX := Lib.hid (GX.out.row hb ho))); clear t0 t1 t2; replace RX := Lib.hid (RX.out.new hb ho); clear ho hb; obtain ⟨⟨t0, t1, t2⟩, -⟩ := RX.out.at (r := w.heap.size) (a := .slice al m cl) (b := .slice ad m cd) (c := .slice (some ⟨bx0, offx, none⟩) mx cx) (by simp))
    go_wp2_with fail
    refine hK.out _ _ (by (try dsimp only); exact ⟨t0, t1, t2⟩) (fun hHeld => ?_)
    clear hK K
    try simp only [Act.put, List.getElem_toArray, List.getElem_cons_succ, List.getElem_cons_zero, List.setIfInBounds_toArray, List.set_cons_zero, List.set_cons_succ]
    refine wpAnyH_ready (rs := [4, 8]) (by kernel_rfl) (by simp) ?_
    refine AllReadyH.cons rfl (fun K hK => ?_) (AllReadyH.cons rfl (fun K hK => ?_) AllReadyH.nil)
    focus
      go_simp
      (go_at_call 103; refine (pair_axes _).mono ?_; rintro e WX ⟨rfl, hb⟩; (try (replace GX := Lib.hid (GX.out.step hb))); clear t0 t1 t2; replace RX := Lib.hid (RX.out.step hb); clear hb; obtain ⟨⟨t0, t1, t2⟩, -⟩ := RX.out.at (r := w.heap.size) (a := .slice al m cl) (b := .slice ad m cd) (c := .slice (some ⟨bx0, offx, none⟩) mx cx) (by simp))
      go_wp2_with fail
      refine hK.out _ _ (by (try dsimp only); exact ⟨t0, t1, t2⟩) (fun hHeld => ?_)
      clear hK K
      try simp only [Act.put, List.getElem_toArray, List.getElem_cons_succ, List.getElem_cons_zero, List.setIfInBounds_toArray, List.set_cons_zero, List.set_cons_succ]
      refine wpAnyH_take (i := 5) (v := ?_) rfl (by kernel_rfl) (by kernel_rfl) (by kernel_rfl) (fun _ _ _ h => h) (Or.inl ⟨by rfl, ?_⟩) (by assumption) ?_
      rotate_left
      · intro w hSw; (try dsimp only at hSw); go_simp <;> with_reducible rfl
      try simp only [Act.put, List.getElem_toArray, List.getElem_cons_succ, List.getElem_cons_zero, List.setIfInBounds_toArray, List.set_cons_zero, List.set_cons_succ]
      refine wpAnyH_take (i := 6) (v := ?_) rfl (by kernel_rfl) (by kernel_rfl) (by kernel_rfl) (fun _ _ _ h => h) (Or.inl ⟨by rfl, ?_⟩) (by assumption) ?_
      rotate_left
      · intro w hSw; (try dsimp only at hSw); go_simp <;> with_reducible rfl
      try simp only [Act.put, List.getElem_toArray, List.getElem_cons_succ, List.getElem_cons_zero, List.setIfInBounds_toArray, List.set_cons_zero, List.set_cons_succ]
      refine wpAnyH_take (i := 7) (v := ?_) rfl (by kernel_rfl) (by kernel_rfl) (by kernel_rfl) (fun _ _ _ h => h) (Or.inl ⟨by rfl, ?_⟩) (by assumption) ?_
      rotate_left
      · intro w hSw; (try dsimp only at hSw); go_simp <;> with_reducible rfl
      try simp only [Act.put, List.getElem_toArray, List.getElem_cons_succ, List.getElem_cons_zero, List.setIfInBounds_toArray, List.set_cons_zero, List.set_cons_succ]
      refine wpAnyH_ready (rs := [8]) (by kernel_rfl) (by simp) ?_
      refine AllReadyH.cons rfl (fun K hK => ?_) AllReadyH.nil
      go_simp
      ((first | (obtain ⟨WX, g, hW, hg, RXn, GXn⟩ := Two.alloc RX.out (.slice none 0 0) (.slice none 0 0) 142; rw [hW]; (try rw [hg])) | (obtain ⟨WZ, g, hW, hg, RXn, GXn⟩ := Two.alloc RN.out (.slice none 0 0) (.slice none 0 0) 142; rw [hW]; (try rw [hg]); replace RXn := RXn.drew; replace GXn := GXn.step (Below.drew (Below.refl _ _)); clear hW; generalize WZ.drew = WX at RXn GXn ⊢)); clear t0 t1 t2; replace RX := Lib.hid RXn; have GX := Lib.hid GXn; clear RXn GXn; obtain ⟨⟨t0, t1, t2⟩, -⟩ := RX.out.at (r := w.heap.size) (a := .slice al m cl) (b := .slice ad m cd) (c := .slice (some ⟨bx0, offx, none⟩) mx cx) (by simp))
      refine hK.out _ _ (by (try dsimp only); exact ⟨t0, t1, t2⟩) (fun hHeld => ?_)
      clear hK K
      try simp only [Act.put, List.getElem_toArray, List.getElem_cons_succ, List.getElem_cons_zero, List.setIfInBounds_toArray, List.set_cons_zero, List.set_cons_succ]
      refine wpAnyH_ready (rs := [9]) (by kernel_rfl) (by simp) ?_
      refine AllReadyH.cons rfl (fun K hK => ?_) AllReadyH.nil
      (have gc0 := GX.out.c0; have gc1 := GX.out.c1; have gf0 := GX.out.fr 0; have gf1 := GX.out.fr 1)
      go_simp
      (have hpt := GX.out.put RX.out (.slice al m cl) (.slice aA m cA); clear t0 t1 t2 gc0 gc1 gf0 gf1; replace RX := Lib.hid hpt.2; replace GX := Lib.hid hpt.1; clear hpt; obtain ⟨⟨t0, t1, t2⟩, -⟩ := RX.out.at (r := w.heap.size) (a := .slice al m cl) (b := .slice ad m cd) (c := .slice (some ⟨bx0, offx, none⟩) mx cx) (by simp))
      refine hK.out _ _ (by (try dsimp only); exact ⟨t0, t1, t2⟩) (fun hHeld => ?_)
      clear hK K
      try simp only [Act.put, List.getElem_toArray, List.getElem_cons_succ, List.getElem_cons_zero, List.setIfInBounds_toArray, List.set_cons_zero, List.set_cons_succ]
      refine wpAnyH_take (i := 10) (v := ?_) rfl (by kernel_rfl) (by kernel_rfl) (by kernel_rfl) (fun _ _ _ h => h) (Or.inl ⟨by rfl, ?_⟩) (by assumption) ?_
      rotate_left
      · intro w hSw; (try dsimp only at hSw); go_simp <;> with_reducible rfl
      try simp only [Act.put, List.getElem_toArray, List.getElem_cons_succ, List.getElem_cons_zero, List.setIfInBounds_toArray, List.set_cons_zero, List.set_cons_succ]
      refine wpAnyH_done (by kernel_rfl) ?_ _
    rotate_left 1
    focus
      go_simp
      ((first | (obtain ⟨WX, g, hW, hg, RXn, GXn⟩ := Two.alloc RX.out (.slice none 0 0) (.slice none 0 0) 142; rw [hW]; (try rw [hg])) | (obtain ⟨WZ, g, hW, hg, RXn, GXn⟩ := Two.alloc RN.out (.slice none 0 0) (.slice none 0 0) 142; rw [hW]; (try rw [hg]); replace RXn := RXn.drew; replace GXn := GXn.step (Below.drew (Below.refl _ _)); clear hW; generalize WZ.drew = WX at RXn GXn ⊢)); clear t0 t1 t2; replace RX := Lib.hid RXn; have GX := Lib.hid GXn; clear RXn GXn; obtain ⟨⟨t0, t1, t2⟩, -⟩ := RX.out.at (r := w.heap.size) (a := .slice al m cl) (b := .slice ad m cd) (c := .slice (some ⟨bx0, offx, none⟩) mx cx) (by simp))
      refine hK.out _ _ (by (try dsimp only); exact ⟨t0, t1, t2⟩) (fun hHeld => ?_)
      clear hK K
      try simp only [Act.put, List.getElem_toArray, List.getElem_cons_succ, List.getElem_cons_zero, List.setIfInBounds_toArray, List.set_cons_zero, List.set_cons_succ]
      refine wpAnyH_ready (rs := [4]) (by kernel_rfl) (by simp) ?_
      refine AllReadyH.cons rfl (fun K hK => ?_) AllReadyH.nil
      go_simp
      (go_at_call 103; refine (pair_axes _).mono ?_; rintro e WX ⟨rfl, hb⟩; (try (replace GX := Lib.hid (GX.out.step hb))); clear t0 t1 t2; replace RX := Lib.hid (RX.out.step hb); clear hb; obtain ⟨⟨t0, t1, t2⟩, -⟩ := RX.out.at (r := w.heap.size) (a := .slice al m cl) (b := .slice ad m cd) (c := .slice (some ⟨bx0, offx, none⟩) mx cx) (by simp))
      go_wp2_with fail
      refine hK.out _ _ (by (try dsimp only); exact ⟨t0, t1, t2⟩) (fun hHeld => ?_)
      clear hK K
      try simp only [Act.put, List.getElem_toArray, List.getElem_cons_succ, List.getElem_cons_zero, List.setIfInBounds_toArray, List.set_cons_zero, List.set_cons_succ]
      refine wpAnyH_take (i := 5) (v := ?_) rfl (by kernel_rfl) (by kernel_rfl) (by kernel_rfl) (fun _ _ _ h => h) (Or.inl ⟨by rfl, ?_⟩) (by assumption) ?_
      rotate_left
      · intro w hSw; (try dsimp only at hSw); go_simp <;> with_reducible rfl
      try simp only [Act.put, List.getElem_toArray, List.getElem_cons_succ, List.getElem_cons_zero, List.setIfInBounds_toArray, List.set_cons_zero, List.set_cons_succ]
      refine wpAnyH_take (i := 6) (v := ?_) rfl (by kernel_rfl) (by kernel_rfl) (by kernel_rfl) (fun _ _ _ h => h) (Or.inl ⟨by rfl, ?_⟩) (by assumption) ?_
      rotate_left
      · intro w hSw; (try dsimp only at hSw); go_simp <;> with_reducible rfl
      try simp only [Act.put, List.getElem_toArray, List.getElem_cons_succ, List.getElem_cons_zero, List.setIfInBounds_toArray, List.set_cons_zero, List.set_cons_succ]
      refine wpAnyH_take (i := 7) (v := ?_) rfl (by kernel_rfl) (by kernel_rfl) (by kernel_rfl) (fun _ _ _ h => h) (Or.inl ⟨by rfl, ?_⟩) (by assumption) ?_
      rotate_left
      · intro w hSw; (try dsimp only at hSw); go_simp <;> with_reducible rfl
      try simp only [Act.put, List.getElem_toArray, List.getElem_cons_succ, List.getElem_cons_zero, List.setIfInBounds_toArray, List.set_cons_zero, List.set_cons_succ]
      refine wpAnyH_ready (rs := [9]) (by kernel_rfl) (by simp) ?_
      refine AllReadyH.cons rfl (fun K hK => ?_) AllReadyH.nil
      (have gc0 := GX.out.c0; have gc1 := GX.out.c1; have gf0 := GX.out.fr 0; have gf1 := GX.out.fr 1)
      go_simp
      (have hpt := GX.out.put RX.out (.slice al m cl) (.slice aA m cA); clear t0 t1 t2 gc0 gc1 gf0 gf1; replace RX := Lib.hid hpt.2; replace GX := Lib.hid hpt.1; clear hpt; obtain ⟨⟨t0, t1, t2⟩, -⟩ := RX.out.at (r := w.heap.size) (a := .slice al m cl) (b := .slice ad m cd) (c := .slice (some ⟨bx0, offx, none⟩) mx cx) (by simp))
      refine hK.out _ _ (by (try dsimp only); exact ⟨t0, t1, t2⟩) (fun hHeld => ?_)
      clear hK K
      try simp only [Act.put, List.getElem_toArray, List.getElem_cons_succ, List.getElem_cons_zero, List.setIfInBounds_toArray, List.set_cons_zero, List.set_cons_succ]
      refine wpAnyH_take (i := 10) (v := ?_) rfl (by kernel_rfl) (by kernel_rfl) (by kernel_rfl) (fun _ _ _ h => h) (Or.inl ⟨by rfl, ?_⟩) (by assumption) ?_
      rotate_left
      · intro w hSw; (try dsimp only at hSw); go_simp <;> with_reducible rfl
      try simp only [Act.put, List.getElem_toArray, List.getElem_cons_succ, List.getElem_cons_zero, List.setIfInBounds_toArray, List.set_cons_zero, List.set_cons_succ]
      refine wpAnyH_done (by kernel_rfl) ?_ _
    rotate_left 1
  rotate_left 2
  focus
    go_simp
    ((first | (obtain ⟨WX, g, hW, hg, RXn, GXn⟩ := Two.alloc RX.out (.slice none 0 0) (.slice none 0 0) 142; rw [hW]; (try rw [hg])) | (obtain ⟨WZ, g, hW, hg, RXn, GXn⟩ := Two.alloc RN.out (.slice none 0 0) (.slice none 0 0) 142; rw [hW]; (try rw [hg]); replace RXn := RXn.drew; replace GXn := GXn.step (Below.drew (Below.refl _ _)); clear hW; generalize WZ.drew = WX at RXn GXn ⊢)); clear t0 t1 t2; replace RX := Lib.hid RXn; have GX := Lib.hid GXn; clear RXn GXn; obtain ⟨⟨t0, t1, t2⟩, -⟩ := RX.out.at (r := w.heap.size) (a := .slice al m cl) (b := .slice ad m cd) (c := .slice (some ⟨bx0, offx, none⟩) mx cx) (by simp))
    refine hK.out _ _ (by (try dsimp only); exact ⟨t0, t1, t2⟩) (fun hHeld => ?_)
    clear hK K
    try simp only [Act.put, List.getElem_toArray, List.getElem_cons_succ, List.getElem_cons_zero, List.setIfInBounds_toArray, List.set_cons_zero, List.set_cons_succ]
    refine wpAnyH_ready (rs := [3]) (by kernel_rfl) (by simp) ?_
    refine AllReadyH.cons rfl (fun K hK => ?_) AllReadyH.nil
    go_simp
    (go_at_call 56; refine (HAX.out _ RX.out.bel (Nat.lt_of_le_of_lt (Nat.zero_le _) (RX.out.bx (w.heap.size + 1 + 1, nilV, nilV, nilV) (by simp)).lt)).mono ?_; rintro e WX ⟨vA, rfl, ho, hb⟩; obtain ⟨aA, cA, rfl⟩ := (OwnA.rd ho).form; rw [HLA.out] at ho ⊢; (try (replace GX := Lib.hid (GX.out.row hb ho))); clear t0 t1 t2; replace RX := Lib.hid (RX.out.new hb ho); clear ho hb; obtain ⟨⟨t0, t1, t2⟩, -⟩ := RX.out.at (r := w.heap.size) (a := .slice al m cl) (b := .slice ad m cd) (c := .slice (some ⟨bx0, offx, none⟩) mx cx) (by simp))
    go_wp2_with fail
    refine hK.out _ _ (by (try dsimp only); exact ⟨t0, t1, t2⟩) (fun hHeld => ?_)
    clear hK K
    try simp only [Act.put, List.getElem_toArray, List.getElem_cons_succ, List.getElem_cons_zero, List.setIfInBounds_toArray, List.set_cons_zero, List.set_cons_succ]
    refine wpAnyH_ready (rs := [4]) (by kernel_rfl) (by simp) ?_
    refine AllReadyH.cons rfl (fun K hK => ?_) AllReadyH.nil
    go_simp
    (go_at_call 103; refine (pair_axes _).mono ?_; rintro e WX ⟨rfl, hb⟩; (try (replace GX := Lib.hid (GX.out.step hb))); clear t0 t1 t2; replace RX := Lib.hid (RX.out.step hb); clear hb; obtain ⟨⟨t0, t1, t2⟩, -⟩ := RX.out.at (r := w.heap.size) (a := .slice al m cl) (b := .slice ad m cd) (c := .slice (some ⟨bx0, offx, none⟩) mx cx) (by simp))
    go_wp2_with fail
    refine hK.out _ _ (by (try dsimp only); exact ⟨t0, t1, t2⟩) (fun hHeld => ?_)
    clear hK K
    try simp only [Act.put, List.getElem_toArray, List.getElem_cons_succ, List.getElem_cons_zero, List.setIfInBounds_toArray, List.set_cons_zero, List.set_cons_succ]
    refine wpAnyH_take (i := 5) (v := ?_) rfl (by kernel_rfl) (by kernel_rfl) (by kernel_rfl) (fun _ _ _ h => h) (Or.inl ⟨by rfl, ?_⟩) (by assumption) ?_
    rotate_left
    · intro w hSw; (try dsimp only at hSw); go_simp <;> with_reducible rfl
    try simp only [Act.put, List.getElem_toArray, List.getElem_cons_succ, List.getElem_cons_zero, List.setIfInBounds_toArray, List.set_cons_zero, List.set_cons_succ]
    refine wpAnyH_take (i := 6) (v := ?_) rfl (by kernel_rfl) (by kernel_rfl) (by kernel_rfl) (fun _ _ _ h => h) (Or.inl ⟨by rfl, ?_⟩) (by assumption) ?_
    rotate_left
    · intro w hSw; (try dsimp only at hSw); go_simp <;> with_reducible rfl
    try simp only [Act.put, List.getElem_toArray, List.getElem_cons_succ, List.getElem_cons_zero, List.setIfInBounds_toArray, List.set_cons_zero, List.set_cons_succ]
    refine wpAnyH_take (i := 7) (v := ?_) rfl (by kernel_rfl) (by kernel_rfl) (by kernel_rfl) (fun _ _ _ h => h) (Or.inl ⟨by rfl, ?_⟩) (by assumption) ?_
    rotate_left
    · intro w hSw; (try dsimp only at hSw); go_simp <;> with_reducible rfl
    try simp only [Act.put, List.getElem_toArray, List.getElem_cons_succ, List.getElem_cons_zero, List.setIfInBounds_toArray, List.set_cons_zero, List.set_cons_succ]
    refine wpAnyH_ready (rs := [9]) (by kernel_rfl) (by simp) ?_
    refine AllReadyH.cons rfl (fun K hK => ?_) AllReadyH.nil
    (have gc0 := GX.out.c0; have gc1 := GX.out.c1; have gf0 := GX.out.fr 0; have gf1 := GX.out.fr 1)
    go_simp
    (have hpt := GX.out.put RX.out (.slice al m cl) (.slice aA m cA); clear t0 t1 t2 gc0 gc1 gf0 gf1; replace RX := Lib.hid hpt.2; replace GX := Lib.hid hpt.1; clear hpt; obtain ⟨⟨t0, t1, t2⟩, -⟩ := RX.out.at (r := w.heap.size) (a := .slice al m cl) (b := .slice ad m cd) (c := .slice (some ⟨bx0, offx, none⟩) mx cx) (by simp))
    refine hK.out _ _ (by (try dsimp only); exact ⟨t0, t1, t2⟩) (fun hHeld => ?_)
    clear hK K
    try simp only [Act.put, List.getElem_toArray, List.getElem_cons_succ, List.getElem_cons_zero, List.setIfInBounds_toArray, List.set_cons_zero, List.set_cons_succ]
    refine wpAnyH_take (i := 10) (v := ?_) rfl (by kernel_rfl) (by kernel_rfl) (by kernel_rfl) (fun _ _ _ h => h) (Or.inl ⟨by rfl, ?_⟩) (by assumption) ?_
    rotate_left
    · intro w hSw; (try dsimp only at hSw); go_simp <;> with_reducible rfl
    try simp only [Act.put, List.getElem_toArray, List.getElem_cons_succ, List.getElem_cons_zero, List.setIfInBounds_toArray, List.set_cons_zero, List.set_cons_succ]
    refine wpAnyH_done (by kernel_rfl) ?_ _
  rotate_left 1
  all_goals
    generalize (WX.setCell ⟨g, 0, none⟩ (.slice al m cl)).setCell ⟨g, 1, none⟩ (.slice aA m cA) = w2 at RX GX ⊢
    clear t0 t1 t2
    have RA := Lib.hid (RX.out.rd (v := .slice aA m cA) (AX := axesL L D) (by simp))
    have S2 := Lib.hid RX.out.boxes
    have FX := Lib.hid (And.intro GX.out.c0 (And.intro GX.out.c1 GX.out.lt))
    clear RX GX HAX
    generalize hbs : [(w.heap.size + 1 + 1, nilV, nilV, nilV), (w.heap.size + 1, Value.int .i64 k, Value.int .i64 p, Value.int .i64 q), (w.heap.size, Value.slice al m cl, Value.slice ad m cd, Value.slice (some ⟨bx0, offx, none⟩) mx cx)] = bs at S2
    have HBS := Lib.hid hbs
    have hwl : w.heap.size + 1 + 1 < w2.heap.size := by have := (S2.out.bx (w.heap.size + 1 + 1, nilV, nilV, nilV) (by rw [← hbs]; simp)).lt; exact this
    clear hbs
    go_wp2_with (at_make; go_must (refine wpList_make_full _ rfl _ _ 83 rfl w2.heap.size 85 i1 (.agg #[.int .i64 0, .int .i64 0, .int .i64 0]) 3 Tryz.underlying83 K0.out K1.out K2.out .i64 .i64 _ _ m rfl rfl rfl rfl (by rw [K3.out]; omega) (by unfold maxLen; omega) (Nat.le_refl _) ?_))
    intro w3 hown hgrow
    have hlt3 : w2.heap.size < w3.heap.size := (hown.lt w2.heap.size (by simp [Value.ownBlock])).2
    have R3 := Lib.hid ((Rs.start w2).step ((Below.refl _ _).grown hgrow (Nat.le_refl _) (fun j hj => by cases hj)))
    have O3 := Lib.hid hown
    have CL := Lib.hid hown.1
    generalize (madeCells #[Value.int .i64 0, .int .i64 0, .int .i64 0] (m * 3)).toList = cs0 at O3 CL
    clear hown hgrow
    go_wp2
    go_loopw [25] (fun i wr => ∃ (j : Nat) (cs : List Value), j ≤ m ∧ i = .int .i64 j ∧ Hid (cs.length = m * 3) ∧ Hid (OrdTo L D labels cs j) ∧ Hid (wr.ownsRow w2.heap.size 85 3 (.slice (some ⟨w2.heap.size, 0, none⟩) m m) m cs) ∧ Hid (Rs w2 wr [] [])) (fun i _ => m - (intOf i).toNat)
    case atStart => exact ⟨0, cs0, by omega, rfl, CL, fun i a h => by omega, O3, R3⟩
    case round =>
      clear R3 O3 CL
      obtain ⟨j, cs, hj, rfl, HCL, HOT, HO, HR⟩ := hrel
      have SW := Lib.hid (S2.out.step HR.out.bel)
      by_cases hlt : j < m
      · obtain ⟨n, X1⟩ : ∃ n, Hid (labels[j]? = some n) := ⟨_, List.getElem?_eq_getElem (by rw [P.out.lG]; exact hlt)⟩
        obtain ⟨b, off, rfl, -, e1⟩ := (HG.out.below SW.out.bel HB.out).cellAt X1.out
        obtain ⟨z, d, hz, hzm, hfz, hd, hdd⟩ := P.out.at X1.out
        obtain ⟨hor, hax⟩ := P.out.order X1.out hz hd
        have hnL : n ∈ L := P.out.pm.subset (List.mem_of_getElem? X1.out)
        have e2 : wr.cell? ⟨g, 0, none⟩ = some (.slice al m cl) := (HR.out.bel.cell (p := ⟨g, 0, none⟩) FX.out.2.2).trans FX.out.1
        have e3 : wr.cell? ⟨g, 1, none⟩ = some (.slice aA m cA) := (HR.out.bel.cell (p := ⟨g, 1, none⟩) FX.out.2.2).trans FX.out.2.1
        have HF := Lib.hid (find_axis (HT.out.l.below SW.out.bel HB.out) (RA.out.below HR.out.bel (Nat.le_refl _)) (Nat.le_trans HB.out SW.out.bel.size) HR.out.bel.size (by rw [P.out.lL]; omega) hnL hz hax)
        have HOT2 := Lib.hid (HOT.out.step hor (by have := HCL.out; omega))
        have HCL2 : Hid ((((cs.set (j * 3) (Value.int .i64 n)).set (j * 3 + 1) (.int .i64 d)).set (j * 3 + 2) (.int .i64 (prodL (D.drop (z + 1))))).length = m * 3) := Lib.hid (by simp only [List.length_set]; exact HCL.out)
        clear hz hfz hd hdd hor hax HOT hnL
        go_wp2_with fail
        refine HF.out.mono ?_
        rintro e w' ⟨rfl, hb⟩
        have HO1 := Lib.hid (HO.out.kept (row := none) ⟨hb.os, hb.tape, hb.output, hb.size, fun k hk _ => hb.block k hk⟩ (by cases (Value.slice (some ⟨w2.heap.size, 0, none⟩) m m).ownBlock <;> simp))
        have HR1 := Lib.hid (HR.out.step hb)
        have hcl := HCL.out
        have r0 : w'.cell? ⟨w2.heap.size, j * 3, none⟩ = some (cs[j * 3]'(by omega)) := by
          rw [HO1.out.cellAt _ (by omega)]; exact List.getElem?_eq_getElem _
        have r1 : w'.cell? ⟨w2.heap.size, j * 3 + 1, none⟩ = some (cs[j * 3 + 1]'(by omega)) := by
          rw [HO1.out.cellAt _ (by omega)]; exact List.getElem?_eq_getElem _
        have r2 : w'.cell? ⟨w2.heap.size, j * 3 + 2, none⟩ = some (cs[j * 3 + 2]'(by omega)) := by
          rw [HO1.out.cellAt _ (by omega)]; exact List.getElem?_eq_getElem _
        have f0 := HO1.out.frozenAt (j * 3)
        have f1 := HO1.out.frozenAt (j * 3 + 1)
        have f2 := HO1.out.frozenAt (j * 3 + 2)
        have HO2 := Lib.hid (((HO1.out.stored (j * 3) (.int .i64 n)).1.stored (j * 3 + 1) (.int .i64 d)).1.stored (j * 3 + 2) (.int .i64 (prodL (D.drop (z + 1))))).1
        have HR2 := Lib.hid (((HR1.out.else (g := w2.heap.size) (Nat.le_refl _) (fun b hb => by simp at hb) (fun b hb => by simp at hb) (j * 3) (.int .i64 n)).else (g := w2.heap.size) (Nat.le_refl _) (fun b hb => by simp at hb) (fun b hb => by simp at hb) (j * 3 + 1) (.int .i64 d)).else (g := w2.heap.size) (Nat.le_refl _) (fun b hb => by simp at hb) (fun b hb => by simp at hb) (j * 3 + 2) (.int .i64 (prodL (D.drop (z + 1)))))
        clear hb HF HO HR HCL e1 e2 e3 HO1 HR1
        go_wp2
        go_roundw
        case rel => exact ⟨j + 1, _, by omega, by go_num, HCL2, HOT2, HO2, HR2⟩
        case measure => simp [intOf]; omega
      · obtain rfl : j = m := by omega
        have hlo : (orderA L D labels).length = j := by rw [orderA_len, P.out.lG]
        have hcs : cs = cellsA (orderA L D labels) := cellsA_is (by rw [hlo]; exact HCL.out) (fun i a ha => HOT.out i a (by rw [← hlo]; exact (List.getElem?_eq_some_iff.1 ha).1) ha)
        subst hcs
        have ROrd : Hid (RdA wr.heap.size wr (.slice (some ⟨w2.heap.size, 0, none⟩) j j) (orderA L D labels)) := Lib.hid (OwnA.rd (lo := w2.heap.size) ⟨by rw [hlo]; exact HO.out, fun g hg => (HO.out.lt g hg).2, Nat.le_refl _⟩)
        obtain ⟨⟨t0, t1, t2⟩, -⟩ := SW.out.at (r := w.heap.size) (a := .slice al j cl) (b := .slice ad j cd) (c := .slice (some ⟨bx0, offx, none⟩) mx cx) (by rw [← HBS.out]; simp)
        obtain ⟨⟨q0, q1, q2⟩, -⟩ := SW.out.at (r := w.heap.size + 1) (a := .int .i64 k) (b := .int .i64 p) (c := .int .i64 q) (by rw [← HBS.out]; simp)
        have HAL := Lib.hid (along_full 0 (al := al) (ad := ad) (ml := j) (md := j) (cl := cl) (cd := cd) (k := k) (p := p) P.out.pa hlo P.out.offs.1 P.out.n1.2 P.out.hw P.out.w6.1 P.out.w6.2 (by simpa using P.out.room) HMX.out HCX.out (HT.out.x.below SW.out.bel HB.out) ROrd.out (Nat.le_trans HB.out SW.out.bel.size) (Nat.le_refl _))
        have HR3 : Hid (w2.heap.size ≤ wr.heap.size) := Lib.hid HR.out.bel.size
        clear HOT HO HCL hlo HR
        go_wp2_with fail
        refine HAL.out.mono ?_
        rintro e w5 ⟨v1, v2, v3, rfl, ho, hb⟩
        obtain ⟨b1, n1, d1, rfl⟩ := (show Own _ _ _ v1 (labA (orderA L D labels)) from ho.1 (v1, labA (orderA L D labels)) (by simp)).slice
        obtain ⟨b2, n2, d2, rfl⟩ := (show Own _ _ _ v2 (dimsA (orderA L D labels)) from ho.1 (v2, dimsA (orderA L D labels)) (by simp)).slice
        obtain ⟨b3, n3, d3, rfl⟩ := (show Own _ _ _ v3 (alongL wd X 0 (offsA (orderA L D labels)) N) from ho.1 (v3, alongL wd X 0 (offsA (orderA L D labels)) N) (by simp)).slice
        have S5 := Lib.hid (SW.out.step hb)
        have R5 := Lib.hid ((Rs.start wr).new3 hb ho)
        obtain ⟨⟨t0, t1, t2⟩, f0, f1, f2⟩ := S5.out.at (r := w.heap.size + 1 + 1) (a := nilV) (b := nilV) (c := nilV) (by rw [← HBS.out]; simp)
        clear ho hb HAL
        go_wp2
        refine bodyPost_ret (v := tenV (.slice b1 n1 d1) (.slice b2 n2 d2) (.slice b3 n3 d3)) (by simp [results, Tryz.results73, go_sem, t0, t1, t2]) rfl ?_
        have hwlr : w.heap.size + 1 + 1 < wr.heap.size := by have := HR3.out; omega
        have h2 := (R5.out.ownG.set3 (r := w.heap.size + 1 + 1) hwlr (.slice b1 n1 d1) (.slice b2 n2 d2) (.slice b3 n3 d3))
        rw [show labA (orderA L D labels) = labels from by simp [labA, orderA, Function.comp_def], dims_orderA, show alongL wd X 0 (offsA (orderA L D labels)) N = permX wd L D X labels N from P.out.perm] at h2
        refine ⟨_, _, _, rfl, OwnG.wide h2 (by omega) (by simp) (Nat.le_refl _), ?_⟩
        exact (((S5.out.bel.setCell (p := ⟨w.heap.size + 1 + 1, 0, none⟩) (by show w.heap.size ≤ w.heap.size + 1 + 1; omega) _).setCell (p := ⟨w.heap.size + 1 + 1, 1, none⟩) (by show w.heap.size ≤ w.heap.size + 1 + 1; omega) _).setCell (p := ⟨w.heap.size + 1 + 1, 2, none⟩) (by show w.heap.size ≤ w.heap.size + 1 + 1; omega) _)
theorem permuted_impl {B : Nat} {lv dv xv gv : Value} {k p q : Int} {L D X labels : List Int} {w : World} (h : RdT B w lv dv xv L D X) (hg : Rd B w gv (ints labels)) (hB : B ≤ w.heap.size) (ht : tensorB k p q L D X = true) (hs : SetV L labels) :
    Calls Tryz.prog 73 #[tenV lv dv xv, ringV k p q, gv] w (NewTen w labels (dimsVia L D labels) (permDataL k q L D X labels)) := by
  have hp := PF.of ht hs
  have hX : 0 < X.length := by
    rw [hp.lX]
    exact Nat.mul_pos hp.n1.1 hp.w6.1
  obtain ⟨al, cl, rfl, -⟩ := ints_form h.l
  obtain ⟨ad, cd, rfl, -⟩ := ints_form h.d
  obtain ⟨ag, cg, rfl, -⟩ := ints_form hg
  have e1 := hp.lD
  have e2 := hp.lG
  rw [e1] at h ⊢
  rw [e2] at hg ⊢
  rcases h.x.ints_cases with ⟨rfl, -⟩ | ⟨b, off, cx, rfl, -, hcx, -⟩
  · simp at hX
  · exact permuted_full hp rfl hcx h hg hB
end Go.Proofs.YtgbmacppgaopfabGreat
namespace Go.Proofs.YtgbmacppgaopfabGreat
set_option maxRecDepth 20000
open Go.RowKit

/-- slices.Sort on a row of the call's own. -/
theorem sort_own {w : World} {lo : Nat} {v : Value} {xs : List Int} (h : Own w lo w.heap.size v xs) (hlw : lo ≤ w.heap.size) (hn : xs.length ≤ 1099511627776) :
    Calls Tryz.prog 116 #[v] w fun e w' => e = .returned (.tuple #[]) ∧ Own w' lo w'.heap.size v (sortL xs) ∧ Below lo w w' := by
  rcases h.1.2 with ⟨rfl, h0⟩ | ⟨g, cap, cur, rfl, hlo, hg, h1, h2, h3, h4⟩
  · have hx : xs = [] := by
      cases xs with
      | nil => rfl
      | cons x r => simp at h0
    subst hx
    refine (Tryz.slices_Sort_int_none none 0 w).mono ?_
    rintro e w' ⟨rfl, rfl⟩
    have e0 : sortL [] = [] := List.eq_nil_of_length_eq_zero (sortL_len [])
    rw [e0]
    exact ⟨rfl, Own.nil _ _, Below.refl _ _⟩
  · have hlt := (Array.getElem?_eq_some_iff.1 hg).1
    have h4' : cur.toList.take xs.length = xs.map (Value.int .i64) := by simpa [ints] using h4
    refine (Tryz.slices_Sort_int g 0 cap xs w (holds_of_blockI hg h4') hlt (by omega)).mono ?_
    rintro e w' ⟨rfl, nn, os, rfl⟩
    have hs : (xs.mergeSort fun x y => decide (x ≤ y)) = sortL xs := rfl
    rw [hs]
    have ho := ownsRow_sortedI (n := nn) (os := os) (ts := sortL xs) (ss := xs) (sortL_len xs) hlo hg h1 h2 h3
    have hgr := grownBy_sortedI (w := w) (g := g) (n := nn) (os := os) (sortL xs).toArray
    exact ⟨rfl, Own.of (n := xs.length) ho (sortL_len xs), (Below.refl lo w).grown hgr hlw (fun k hk => by cases hk; exact hlo)⟩

set_option maxHeartbeats 800000 in
theorem sorted_impl {B : Nat} {v : Value} {xs : List Int} {w : World} (h : Rd B w v (ints xs)) (hB : B ≤ w.heap.size) (hn : xs.length ≤ 1099511627776) :
    Calls Tryz.prog 89 #[v] w (NewRow w (sortL xs)) := by
  have HC := Lib.hid (clone_any h hB hn)
  clear h hB
  go_enter Tryz.func89, Tryz.ntmps89
  go_wp2_with fail
  refine HC.out.mono ?_
  rintro e w1 ⟨r, rfl, ho, hb⟩
  have HS := Lib.hid (sort_own ho hb.size hn)
  have HB := Lib.hid hb
  clear ho hb HC
  go_wp2_with fail
  refine HS.out.mono ?_
  rintro e w2 ⟨rfl, ho, hb⟩
  have HO := Lib.hid ho
  have HB2 := Lib.hid (HB.out.trans hb)
  clear ho hb HS HB
  go_wp2
  go_ret
  exact ⟨r, rfl, HO.out, HB2.out⟩
end Go.Proofs.YtgbmacppgaopfabGreat
namespace Go.Proofs.YtgbmacppgaopfabGreat
set_option maxRecDepth 20000
open Go.RowKit

theorem tensorB_axes {k p q : Int} {L D X : List Int} (ht : tensorB k p q L D X = true) : AxesV L D ∧ 0 ≤ sizeI L D := by
  obtain ⟨-, h0, -, -⟩ := tensorB_inv ht
  rcases sizeI_cases L D with ⟨h, -⟩ | ⟨-, h2, -, -⟩
  · omega
  · exact ⟨h2, h0⟩
theorem sort_set {L D : List Int} (h : AxesV L D) : SetV L (sortL L) := setV_perm (sortL_perm L) h.2.2.2.2

set_option maxHeartbeats 3200000 in
theorem ascending_impl {B : Nat} {lv dv xv : Value} {k p q : Int} {L D X : List Int} {w : World} (h : RdT B w lv dv xv L D X) (hB : B ≤ w.heap.size) (ht : tensorB k p q L D X = true) :
    Calls Tryz.prog 54 #[tenV lv dv xv, ringV k p q] w (NewTen w (sortL L) (dimsVia L D (sortL L)) (permDataL k q L D X (sortL L))) := by
  have HT := Lib.hid h
  have HB := Lib.hid hB
  have hax := tensorB_axes ht
  have S0 : Hid (Rs w (((w.alloc (.cells #[lv, dv, xv] 28)).alloc (.cells #[.int .i64 k, .int .i64 p, .int .i64 q] 24)).alloc (.cells #[nilV, nilV, nilV] 28)) [(w.heap.size + 1 + 1, nilV, nilV, nilV), (w.heap.size + 1, .int .i64 k, .int .i64 p, .int .i64 q), (w.heap.size, lv, dv, xv)] []) := by
    have h := (((Rs.start w).box lv dv xv 28).box (.int .i64 k) (.int .i64 p) (.int .i64 q) 24).box nilV nilV nilV 28
    simp only [World.size_alloc] at h
    exact h
  have HSo := Lib.hid (fun (w1 : World) (hb : Below w.heap.size w w1) => sorted_impl (HT.out.below hb HB.out).l (Nat.le_trans HB.out hb.size) (by have := hax.1.1; omega))
  have HPo := Lib.hid (fun (w1 : World) (hb : Below w.heap.size w w1) (vS : Value) (ho : Rd w1.heap.size w1 vS (ints (sortL L))) =>
    have hr := HT.out.below hb HB.out
    have hle := Nat.le_trans HB.out hb.size
    permuted_impl (B := w1.heap.size) ⟨hr.l.mono hle, hr.d.mono hle, hr.x.mono hle⟩ ho (Nat.le_refl _) ht (sort_set hax.1))
  obtain ⟨al, cl, rfl, -⟩ := ints_form h.l
  obtain ⟨ad, cd, rfl, -⟩ := ints_form h.d
  obtain ⟨ax, cx, rfl, -⟩ := ints_form h.x
  obtain ⟨sl, hsl⟩ : ∃ s, s = sortL L := ⟨_, rfl⟩
  obtain ⟨sd, hsd⟩ : ∃ s, s = dimsVia L D (sortL L) := ⟨_, rfl⟩
  obtain ⟨sx, hsx⟩ : ∃ s, s = permDataL k q L D X (sortL L) := ⟨_, rfl⟩
  rw [← hsd, ← hsx] at HPo ⊢
  rw [← hsl] at HPo HSo ⊢
  clear h hB ht hax hsl hsd hsx
  go_enter Tryz.func54, Tryz.ntmps54
  go_wp2
  generalize hW : ((w.alloc (.cells #[.slice al L.length cl, .slice ad D.length cd, .slice ax X.length cx] 28)).alloc (.cells #[.int .i64 k, .int .i64 p, .int .i64 q] 24)).alloc (.cells #[nilV, nilV, nilV] 28) = w1 at S0 ⊢
  have T1 := Lib.hid S0.out.drew
  clear hW S0
  obtain ⟨⟨t0, t1, t2⟩, -⟩ := T1.out.at (r := w.heap.size) (a := .slice al L.length cl) (b := .slice ad D.length cd) (c := .slice ax X.length cx) (by simp)
  obtain ⟨⟨q0, q1, q2⟩, -⟩ := T1.out.at (r := w.heap.size + 1) (a := .int .i64 k) (b := .int .i64 p) (c := .int .i64 q) (by simp)
  have AR1 := Lib.hid True.intro
  have AR2 := Lib.hid True.intro
  go_region_held3 (fun w' => (w'.cell? ⟨w.heap.size, 0, none⟩ = some (.slice al L.length cl) ∧ w'.cell? ⟨w.heap.size, 1, none⟩ = some (.slice ad D.length cd) ∧ w'.cell? ⟨w.heap.size, 2, none⟩ = some (.slice ax X.length cx)) ∧ w'.cell? ⟨w.heap.size + 1, 0, none⟩ = some (.int .i64 k) ∧ w'.cell? ⟨w.heap.size + 1, 1, none⟩ = some (.int .i64 p) ∧ w'.cell? ⟨w.heap.size + 1, 2, none⟩ = some (.int .i64 q)) (first | exact ⟨⟨t0, t1, t2⟩, q0, q1, q2⟩ | with_reducible exact ⟨⟨x0, x1, x2⟩, y0, y1, y2⟩) (first
    | (go_at_call 89; have AR := AR1; clear AR AR1; refine (HSo.out _ T1.out.bel).mono ?_; rintro e w2 ⟨vS, rfl, ho, hb⟩; have T2 := Lib.hid (T1.out.step hb); have HR2 := Lib.hid ho.rd; clear ho hb t0 t1 t2 q0 q1 q2; obtain ⟨⟨t0, t1, t2⟩, -⟩ := T2.out.at (r := w.heap.size) (a := .slice al L.length cl) (b := .slice ad D.length cd) (c := .slice ax X.length cx) (by simp); obtain ⟨⟨q0, q1, q2⟩, -⟩ := T2.out.at (r := w.heap.size + 1) (a := .int .i64 k) (b := .int .i64 p) (c := .int .i64 q) (by simp))
    | (go_at_call 73; have AR := AR2; clear AR AR2; refine (HPo.out _ T2.out.bel _ HR2.out).mono ?_; rintro e w3 ⟨l1, d1, x1, rfl, ho, hb⟩; have T3 := Lib.hid (T2.out.step hb); obtain ⟨a1, c1, rfl, -⟩ := ints_form ho.rows.1.rd; obtain ⟨a2, c2, rfl, -⟩ := ints_form ho.rows.2.1.rd; obtain ⟨a3, c3, rfl, -⟩ := ints_form ho.rows.2.2.rd; have HO := Lib.hid ho; have HLE := Lib.hid T2.out.bel.size; clear ho hb t0 t1 t2 q0 q1 q2; obtain ⟨⟨t0, t1, t2⟩, -⟩ := T3.out.at (r := w.heap.size) (a := .slice al L.length cl) (b := .slice ad D.length cd) (c := .slice ax X.length cx) (by simp); obtain ⟨⟨q0, q1, q2⟩, -⟩ := T3.out.at (r := w.heap.size + 1) (a := .int .i64 k) (b := .int .i64 p) (c := .int .i64 q) (by simp); obtain ⟨⟨z0, z1, z2⟩, f0, f1, f2⟩ := T3.out.at (r := w.heap.size + 1 + 1) (a := nilV) (b := nilV) (c := nilV) (by simp); have T4 := Lib.hid (T3.out.set3 (.slice a1 sl.length c1) (.slice a2 sd.length c2) (.slice a3 sx.length c3)); obtain ⟨⟨x0, x1, x2⟩, -⟩ := T4.out.at (r := w.heap.size) (a := .slice al L.length cl) (b := .slice ad D.length cd) (c := .slice ax X.length cx) (by simp); obtain ⟨⟨y0, y1, y2⟩, -⟩ := T4.out.at (r := w.heap.size + 1) (a := .int .i64 k) (b := .int .i64 p) (c := .int .i64 q) (by simp)))
  go_wp2
  refine bodyPost_ret (v := tenV (.slice a1 sl.length c1) (.slice a2 sd.length c2) (.slice a3 sx.length c3)) (by simp [results, Tryz.results54, go_sem, z0, z1, z2]) rfl ?_
  have hlt := (T2.out.bx (w.heap.size + 1 + 1, nilV, nilV, nilV) (by simp)).lt
  exact ⟨_, _, _, rfl, (HO.out.set3 hlt _ _ _).wide HLE.out (by simp) (by simp), T4.out.bel⟩
end Go.Proofs.YtgbmacppgaopfabGreat
namespace Go.Proofs.YtgbmacppgaopfabGreat
set_option maxRecDepth 20000
open Go.RowKit

end Go.Proofs.YtgbmacppgaopfabGreat
