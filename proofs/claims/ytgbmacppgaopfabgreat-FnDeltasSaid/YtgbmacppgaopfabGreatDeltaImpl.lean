
/- impl.DeltaTensor. -/
import Derived.Test.YtgbmacppgaopfabGreatDeltaSpec
import Derived.Test.YtgbmacppgaopfabGreatLet
import Derived.Test.YtgbmacppgaopfabGreatAxes
import Derived.Test.YtgbmacppgaopfabGreatAlong
namespace Go.Proofs.YtgbmacppgaopfabGreat
set_option maxRecDepth 20000
open Go.RowKit

theorem repL_rep (d : Int) : ∀ m, repL [d] m = List.replicate m d := by
  intro m
  induction m with
  | zero => rfl
  | succ m ih => rw [repL_succ, ih, rep_snoc]
/-- slices.Repeat of one integer. -/
theorem repeat_one {W : World} {g cap m : Nat} {d : Int} (hm : m ≤ 1048576) (hg : g < W.heap.size) (hc : W.cell? ⟨g, 0, none⟩ = some (.int .i64 d)) :
    Calls Tryz.prog 42 #[.slice (some ⟨g, 0, none⟩) 1 cap, .int .i64 m] W (NewRow W (List.replicate m d)) := by
  rcases Nat.eq_zero_or_pos m with rfl | h0
  · exact repeat_none g 0 cap 1 W (by omega)
  · have h := repeat_full g 0 cap 1 m (m * 1) [d] W rfl (by omega) (by omega) h0 (by omega) rfl hg (news_at (fun i hi => by
      have : i = 0 := by simpa using hi
      subst this
      exact hc))
    rw [repL_rep] at h
    exact h
/-- The sum of the strides. -/
def stepA (AX : List AxE) : Int := isum (AX.map fun a => a.2.2)
theorem stepA_succ {AX : List AxE} {j : Nat} {a : AxE} (h : AX[j]? = some a) : stepA (AX.take (j + 1)) = stepA (AX.take j) + a.2.2 := by
  unfold stepA
  rw [List.take_add_one, h, List.map_append, isum_append]
  simp [isum]
theorem dotA_rep : ∀ (AX : List AxE) (x : Int), dotA AX (List.replicate AX.length x) = x * stepA AX := by
  intro AX x
  induction AX with
  | nil => simp [dotA, stepA, isum]
  | cons a AX ih =>
    unfold dotA stepA isum at ih ⊢
    simp only [List.length_cons, List.replicate_succ, List.zip_cons_cons, List.map_cons, List.foldr_cons] at ih ⊢
    rw [ih, Int.mul_add]
theorem via_id {L ix : List Int} (hn : L.Nodup) (hx : ix.length = L.length) : viaL L L ix = ix := by
  refine List.ext_getElem? fun i => ?_
  unfold viaL
  rw [List.getElem?_map]
  by_cases h : i < L.length
  · rw [List.getElem?_eq_getElem h, List.getElem?_eq_getElem (by omega)]
    simp only [Option.map_some]
    rw [idxOf_at hn (List.getElem?_eq_getElem h), getD_at (List.getElem?_eq_getElem (by omega))]
  · rw [List.getElem?_eq_none (by omega), List.getElem?_eq_none (by omega)]; rfl
theorem order_id {L D : List Int} (hn : L.Nodup) : orderA L D L = axesL L D := by
  refine List.ext_getElem? fun i => ?_
  unfold orderA axesL
  rw [List.getElem?_map, List.getElem?_map]
  by_cases h : i < L.length
  · rw [List.getElem?_eq_getElem h, List.getElem?_range h]
    simp only [Option.map_some]
    rw [idxOf_at hn (List.getElem?_eq_getElem h), getD_at (List.getElem?_eq_getElem h)]
  · rw [List.getElem?_eq_none (by omega), List.getElem?_eq_none (by simp; omega)]; rfl
theorem DF.step {k p q : Int} {L : List Int} {d : Int} {m wd N : Nat} {D : List Int} (h : DF k p q L d m wd N D) {i : Nat} (hi : (i : Int) < d) : (i : Int) * stepA (axesL L D) = (diagO D i : Int) := by
  have h1 := (h.off hi).1
  have hl : D.length = m := by rw [h.eD, List.length_replicate]
  have h2 := offI_order (D := D) (ix := List.replicate m (i : Int)) h.ax.2.2.2.2 h.ax.2.1 (List.Perm.refl L) (by rw [List.length_replicate, h.lL])
  rw [via_id h.ax.2.2.2.2 (by rw [List.length_replicate, h.lL]), order_id h.ax.2.2.2.2, h1] at h2
  have h3 := dotA_rep (axesL L D) (i : Int)
  rw [axesL_len, h.lL] at h3
  rw [← h3, ← h2]
theorem drop_small {D : List Int} (hD : ∀ d ∈ D, 1 ≤ d) (hP : prodL D ≤ 4096) (j : Nat) : 1 ≤ prodL (D.drop j) ∧ prodL (D.drop j) ≤ 4096 := by
  have h1 := prodL_pos (D := D.drop j) (fun d hd => hD d (List.mem_of_mem_drop hd))
  have h2 := prodL_pos (D := D.take j) (fun d hd => hD d (List.mem_of_mem_take hd))
  have h3 : prodL D = prodL (D.take j) * prodL (D.drop j) := by rw [← prodL_app, List.take_append_drop]
  refine ⟨h1, ?_⟩
  have h4 : 1 * prodL (D.drop j) ≤ prodL (D.take j) * prodL (D.drop j) := Int.mul_le_mul_of_nonneg_right h2 (by omega)
  omega
theorem stepA_small {L D : List Int} (hD : ∀ d ∈ D, 1 ≤ d) (hP : prodL D ≤ 4096) : ∀ j : Nat, 0 ≤ stepA ((axesL L D).take j) ∧ stepA ((axesL L D).take j) ≤ 4096 * (j : Int) := by
  intro j
  induction j with
  | zero => simp [stepA, isum]
  | succ j ih =>
    cases hj : (axesL L D)[j]? with
    | none =>
      have := List.getElem?_eq_none_iff.1 hj
      rw [List.take_of_length_le (by omega)]
      rw [List.take_of_length_le (by omega)] at ih
      omega
    | some a =>
      rw [stepA_succ hj]
      have h1 : a.2.2 = prodL (D.drop (j + 1)) := by
        unfold axesL at hj
        rw [List.getElem?_map] at hj
        have hlt : j < L.length := by
          cases hq : (List.range L.length)[j]? with
          | none => rw [hq] at hj; cases hj
          | some y => have := (List.getElem?_eq_some_iff.1 hq).1; simpa using this
        rw [List.getElem?_range hlt] at hj
        simp only [Option.map_some, Option.some.injEq] at hj
        rw [← hj]
      have h2 := drop_small hD hP (j + 1)
      omega
set_option maxHeartbeats 16000000 in
theorem delta_tensor_impl {B : Nat} {lv : Value} {k p q d : Int} {L : List Int} {w : World} (hl : Rd B w lv (ints L)) (hB : B ≤ w.heap.size) (h1 : L.length ≤ 1048576) (hI : allI L) :
    Calls Tryz.prog 18 #[ringV k p q, lv, .int .i64 d] w (NewTen2 w (if deltaB k p q L d = true then L else []) (if deltaB k p q L d = true then List.replicate L.length d else []) (if deltaB k p q L d = true then deltaL k p q L.length d else []) (deltaB k p q L d)) := by
  have HL := Lib.hid hl
  have HB := Lib.hid hB
  have HI := Lib.hid hI
  obtain ⟨al, cl, rfl, -⟩ := ints_form hl
  obtain ⟨m, hm⟩ : ∃ m, m = L.length := ⟨_, rfl⟩
  have HM := Lib.hid hm
  rw [← hm] at HL h1 ⊢
  obtain ⟨fb, hfb⟩ : ∃ b, b = deltaB k p q L d := ⟨_, rfl⟩
  have HFB := Lib.hid hfb
  rw [← hfb]
  obtain ⟨zl, hzl⟩ : ∃ l, l = (if fb = true then L else []) := ⟨_, rfl⟩
  obtain ⟨zd, hzd⟩ : ∃ l, l = (if fb = true then List.replicate m d else []) := ⟨_, rfl⟩
  obtain ⟨zx, hzx⟩ : ∃ l, l = (if fb = true then deltaL k p q m d else []) := ⟨_, rfl⟩
  have HNO : Hid (fb = false → zl = [] ∧ zd = [] ∧ zx = []) := Lib.hid (fun h => by subst h; exact ⟨hzl, hzd, hzx⟩)
  have HYES : Hid (fb = true → zl = L ∧ zd = List.replicate m d ∧ zx = deltaL k p q m d) := Lib.hid (fun h => by subst h; exact ⟨hzl, hzd, hzx⟩)
  rw [← hzl, ← hzd, ← hzx]
  have RX : Hid (Rs w ((w.alloc (.cells #[.int .i64 k, .int .i64 p, .int .i64 q] 24)).alloc (.cells #[nilV, nilV, nilV] 28)) [(w.heap.size + 1, nilV, nilV, nilV), (w.heap.size, .int .i64 k, .int .i64 p, .int .i64 q)] []) := by
    have h := ((Rs.start w).box (.int .i64 k) (.int .i64 p) (.int .i64 q) 24).box nilV nilV nilV 28
    simp only [World.size_alloc] at h
    exact h
  clear hl hB hm hfb hzl hzd hzx hI
  by_cases hlo : d < 1
  · have q1 : decide (d < 1) = true := by simpa using hlo
    obtain rfl : fb = false := by rw [HFB.out]; unfold deltaB; rw [decide_eq_false (show ¬ (1 ≤ d ∧ d ≤ 8) by omega)]; simp
    clear hlo
    go_enter Tryz.func18, Tryz.ntmps18
    obtain ⟨rfl, rfl, rfl⟩ := HNO.out (by simp)
    obtain ⟨⟨t0, t1, t2⟩, f0, f1, f2⟩ := RX.out.at (r := w.heap.size + 1) (a := nilV) (b := nilV) (c := nilV) (by simp)
    go_wp2
    refine bodyPost_ret (v := .tuple #[tenV nilV nilV nilV, .bool false]) (by simp [results, Tryz.results18, go_sem, t0, t1, t2]) rfl ?_
    exact NewTen2.nils (RX.out.bel)
  by_cases hhi : 8 < d
  · have q1 : decide (d < 1) = false := by simpa using hlo
    have q2 : decide (8 < d) = true := by simpa using hhi
    obtain rfl : fb = false := by rw [HFB.out]; unfold deltaB; rw [decide_eq_false (show ¬ (1 ≤ d ∧ d ≤ 8) by omega)]; simp
    clear hlo hhi
    go_enter Tryz.func18, Tryz.ntmps18
    obtain ⟨rfl, rfl, rfl⟩ := HNO.out (by simp)
    obtain ⟨⟨t0, t1, t2⟩, f0, f1, f2⟩ := RX.out.at (r := w.heap.size + 1) (a := nilV) (b := nilV) (c := nilV) (by simp)
    go_wp2
    refine bodyPost_ret (v := .tuple #[tenV nilV nilV nilV, .bool false]) (by simp [results, Tryz.results18, go_sem, t0, t1, t2]) rfl ?_
    exact NewTen2.nils (RX.out.bel)
  have q1 : decide (d < 1) = false := by simpa using hlo
  have q2 : decide (8 < d) = false := by simpa using hhi
  have hd8 : 1 ≤ d ∧ d ≤ 8 := by omega
  clear hlo hhi
  have hzb : zeroTenB k p q L (List.replicate m d) = fb := by
    rw [HFB.out]; unfold deltaB zeroTenB; rw [decide_eq_true hd8, HM.out]; simp
  have HRP := Lib.hid (fun (W : World) (g : Nat) (hg : g < W.heap.size) (hc : W.cell? ⟨g, 0, none⟩ = some (.int .i64 d)) => repeat_one (cap := 1) h1 hg hc)
  have HZT := Lib.hid (fun (W : World) (dv : Value) (hd : Rd W.heap.size W dv (ints (List.replicate m d))) (hb : Below w.heap.size w W) => zero_tensor_impl (k := k) (p := p) (q := q) ((HL.out.below hb HB.out).mono (Nat.le_trans HB.out hb.size)) hd (Nat.le_refl _) (by rw [← HM.out]; omega) (by rw [List.length_replicate]; omega) HI.out)
  rw [hzb] at HZT
  obtain ⟨yl, hyl⟩ : ∃ l, l = (if fb = true then L else []) := ⟨_, rfl⟩
  obtain ⟨yd, hyd⟩ : ∃ l, l = (if fb = true then List.replicate m d else []) := ⟨_, rfl⟩
  obtain ⟨yx, hyx⟩ : ∃ l, l = (if fb = true then zeroTenL k p q (List.replicate m d) else []) := ⟨_, rfl⟩
  rw [← hyl, ← hyd, ← hyx] at HZT
  have HYY : Hid (fb = true → yl = L ∧ yd = List.replicate m d ∧ yx = zeroTenL k p q (List.replicate m d)) := Lib.hid (fun h => by subst h; exact ⟨hyl, hyd, hyx⟩)
  clear hyl hyd hyx hzb
  go_enter Tryz.func18, Tryz.ntmps18
  go_wp2
  generalize ((w.alloc (.cells #[.int .i64 k, .int .i64 p, .int .i64 q] 24)).alloc (.cells #[nilV, nilV, nilV] 28)) = V at RX ⊢
  have RN := Lib.hid RX
  replace RX := Lib.hid RX.drew
  obtain ⟨⟨r0, r1, r2⟩, -⟩ := RX.out.at (r := w.heap.size) (a := .int .i64 k) (b := .int .i64 p) (c := .int .i64 q) (by simp)
  refine wp_region_held_drew (S := (fun w' => w'.cell? ⟨w.heap.size, 0, none⟩ = some (.int .i64 k) ∧ w'.cell? ⟨w.heap.size, 1, none⟩ = some (.int .i64 p) ∧ w'.cell? ⟨w.heap.size, 2, none⟩ = some (.int .i64 q))) (by kernel_rfl) (by (try dsimp only); with_reducible exact ⟨r0, r1, r2⟩) (fun hHeld => ?_)
  refine wpAnyH_take (i := 0) (v := ?_) rfl (by kernel_rfl) (by kernel_rfl) (by kernel_rfl) (fun _ _ _ h => h) (Or.inl ⟨by rfl, ?_⟩) (by assumption) ?_
  rotate_left
  · intro w hSw; (try dsimp only at hSw); go_simp <;> with_reducible rfl
  try simp only [Act.put, List.getElem_toArray, List.getElem_cons_zero, List.setIfInBounds_toArray, List.set_cons_zero, List.set_cons_succ]
  refine wpAnyH_take (i := 1) (v := ?_) rfl (by kernel_rfl) (by kernel_rfl) (by kernel_rfl) (fun _ _ _ h => h) (Or.inl ⟨by rfl, ?_⟩) (by assumption) ?_
  rotate_left
  · intro w hSw; (try dsimp only at hSw); go_simp <;> with_reducible rfl
  try simp only [Act.put, List.getElem_toArray, List.getElem_cons_succ, List.getElem_cons_zero, List.setIfInBounds_toArray, List.set_cons_zero, List.set_cons_succ]
  refine wpAnyH_take (i := 2) (v := ?_) rfl (by kernel_rfl) (by kernel_rfl) (by kernel_rfl) (fun _ _ _ h => h) (Or.inl ⟨by rfl, ?_⟩) (by assumption) ?_
  rotate_left
  · intro w hSw; (try dsimp only at hSw); go_simp <;> with_reducible rfl
  try simp only [Act.put, List.getElem_toArray, List.getElem_cons_succ, List.getElem_cons_zero, List.setIfInBounds_toArray, List.set_cons_zero, List.set_cons_succ]
  refine wpAnyH_take (i := 4) (v := ?_) rfl (by kernel_rfl) (by kernel_rfl) (by kernel_rfl) (fun _ _ _ h => h) (Or.inl ⟨by rfl, ?_⟩) (by assumption) ?_
  rotate_left
  · intro w hSw; (try dsimp only at hSw); go_simp <;> with_reducible rfl
  try simp only [Act.put, List.getElem_toArray, List.getElem_cons_succ, List.getElem_cons_zero, List.setIfInBounds_toArray, List.set_cons_zero, List.set_cons_succ]
  refine wpAnyH_take (i := 5) (v := ?_) rfl (by kernel_rfl) (by kernel_rfl) (by kernel_rfl) (fun _ _ _ h => h) (Or.inl ⟨by rfl, ?_⟩) (by assumption) ?_
  rotate_left
  · intro w hSw; (try dsimp only at hSw); go_simp <;> with_reducible rfl
  try simp only [Act.put, List.getElem_toArray, List.getElem_cons_succ, List.getElem_cons_zero, List.setIfInBounds_toArray, List.set_cons_zero, List.set_cons_succ]
  refine wpAnyH_ready (rs := [3, 11]) (by kernel_rfl) (by simp) ?_
  refine AllReadyH.cons rfl (fun K hK => ?_) (AllReadyH.cons rfl (fun K hK => ?_) AllReadyH.nil)
  focus
    go_simp
    ((first | (obtain ⟨WX, gl, hW, hg, RXn⟩ := RX.out.litX d; rw [hW]; (try rw [hg])) | (obtain ⟨WZ, gl, hW, hg, RXn⟩ := RN.out.litX d; rw [hW]; (try rw [hg]); replace RXn := RXn.drew; clear hW; generalize WZ.drew = WX at RXn ⊢)); clear r0 r1 r2; replace RX := Lib.hid RXn; clear RXn; obtain ⟨⟨r0, r1, r2⟩, -⟩ := RX.out.at (r := w.heap.size) (a := .int .i64 k) (b := .int .i64 p) (c := .int .i64 q) (by simp))
    refine hK.out _ _ (by (try dsimp only); with_reducible exact ⟨r0, r1, r2⟩) (fun hHeld => ?_)
    clear hK K
    try simp only [Act.put, List.getElem_toArray, List.getElem_cons_succ, List.getElem_cons_zero, List.setIfInBounds_toArray, List.set_cons_zero, List.set_cons_succ]
    refine wpAnyH_ready (rs := [6, 11]) (by kernel_rfl) (by simp) ?_
    refine AllReadyH.cons rfl (fun K hK => ?_) (AllReadyH.cons rfl (fun K hK => ?_) AllReadyH.nil)
    focus
      go_simp
      (go_at_call 42; obtain ⟨bz, oz, ez, hgl, hcl⟩ := (RX.out.rd (v := .slice (some ⟨gl, 0, none⟩) 1 1) (xs := [d]) (by simp)).cellAt (j := 0) (x := d) rfl; cases ez; refine (HRP.out _ gl hgl hcl).mono ?_; clear hgl hcl; rintro e WX ⟨vD, rfl, ho, hb⟩; obtain ⟨aD, cD, rfl, -⟩ := ints_form ho.rd; rw [List.length_replicate] at ho ⊢; clear r0 r1 r2; replace RX := Lib.hid (RX.out.new hb ho); clear ho hb; obtain ⟨⟨r0, r1, r2⟩, -⟩ := RX.out.at (r := w.heap.size) (a := .int .i64 k) (b := .int .i64 p) (c := .int .i64 q) (by simp))
      go_wp2_with fail
      refine hK.out _ _ (by (try dsimp only); with_reducible exact ⟨r0, r1, r2⟩) (fun hHeld => ?_)
      clear hK K
      try simp only [Act.put, List.getElem_toArray, List.getElem_cons_succ, List.getElem_cons_zero, List.setIfInBounds_toArray, List.set_cons_zero, List.set_cons_succ]
      refine wpAnyH_ready (rs := [7, 11]) (by kernel_rfl) (by simp) ?_
      refine AllReadyH.cons rfl (fun K hK => ?_) (AllReadyH.cons rfl (fun K hK => ?_) AllReadyH.nil)
      focus
        go_simp
        (go_at_call 10; refine (HZT.out _ _ (RX.out.rd (v := .slice aD m cD) (xs := List.replicate m d) (by simp)) RX.out.bel).mono ?_; rintro e WX ⟨l', d', x', rfl, ho, hb⟩; obtain ⟨a1, n1, c1, rfl⟩ := ho.rows.1.slice; obtain ⟨a2, n2, c2, rfl⟩ := ho.rows.2.1.slice; obtain ⟨a3, n3, c3, rfl⟩ := ho.rows.2.2.slice; clear r0 r1 r2; replace RX := Lib.hid (RX.out.new3 hb ho); clear ho hb; obtain ⟨⟨r0, r1, r2⟩, -⟩ := RX.out.at (r := w.heap.size) (a := .int .i64 k) (b := .int .i64 p) (c := .int .i64 q) (by simp))
        go_wp2_with fail
        refine hK.out _ _ (by (try dsimp only); with_reducible exact ⟨r0, r1, r2⟩) (fun hHeld => ?_)
        clear hK K
        try simp only [Act.put, List.getElem_toArray, List.getElem_cons_succ, List.getElem_cons_zero, List.setIfInBounds_toArray, List.set_cons_zero, List.set_cons_succ]
        refine wpAnyH_take (i := 8) (v := ?_) rfl (by kernel_rfl) (by kernel_rfl) (by kernel_rfl) (fun _ _ _ h => h) (Or.inl ⟨by rfl, ?_⟩) (by assumption) ?_
        rotate_left
        · intro w hSw; (try dsimp only at hSw); go_simp <;> with_reducible rfl
        try simp only [Act.put, List.getElem_toArray, List.getElem_cons_succ, List.getElem_cons_zero, List.setIfInBounds_toArray, List.set_cons_zero, List.set_cons_succ]
        refine wpAnyH_take (i := 9) (v := ?_) rfl (by kernel_rfl) (by kernel_rfl) (by kernel_rfl) (fun _ _ _ h => h) (Or.inl ⟨by rfl, ?_⟩) (by assumption) ?_
        rotate_left
        · intro w hSw; (try dsimp only at hSw); go_simp <;> with_reducible rfl
        try simp only [Act.put, List.getElem_toArray, List.getElem_cons_succ, List.getElem_cons_zero, List.setIfInBounds_toArray, List.set_cons_zero, List.set_cons_succ]
        refine wpAnyH_take (i := 10) (v := ?_) rfl (by kernel_rfl) (by kernel_rfl) (by kernel_rfl) (fun _ _ _ h => h) (Or.inl ⟨by rfl, ?_⟩) (by assumption) ?_
        rotate_left
        · intro w hSw; (try dsimp only at hSw); go_simp <;> with_reducible rfl
        try simp only [Act.put, List.getElem_toArray, List.getElem_cons_succ, List.getElem_cons_zero, List.setIfInBounds_toArray, List.set_cons_zero, List.set_cons_succ]
        refine wpAnyH_ready (rs := [11]) (by kernel_rfl) (by simp) ?_
        refine AllReadyH.cons rfl (fun K hK => ?_) AllReadyH.nil
        go_simp
        ((first | (obtain ⟨WX, gb, hW, hg, RXn⟩ := RX.out.boxX nilV nilV nilV 28; rw [hW]; (try rw [hg])) | (obtain ⟨WZ, gb, hW, hg, RXn⟩ := RN.out.boxX nilV nilV nilV 28; rw [hW]; (try rw [hg]); replace RXn := RXn.drew; clear hW; generalize WZ.drew = WX at RXn ⊢)); clear r0 r1 r2; replace RX := Lib.hid RXn; clear RXn; obtain ⟨⟨r0, r1, r2⟩, -⟩ := RX.out.at (r := w.heap.size) (a := .int .i64 k) (b := .int .i64 p) (c := .int .i64 q) (by simp))
        refine hK.out _ _ (by (try dsimp only); with_reducible exact ⟨r0, r1, r2⟩) (fun hHeld => ?_)
        clear hK K
        try simp only [Act.put, List.getElem_toArray, List.getElem_cons_succ, List.getElem_cons_zero, List.setIfInBounds_toArray, List.set_cons_zero, List.set_cons_succ]
        refine wpAnyH_ready (rs := [12]) (by kernel_rfl) (by simp) ?_
        refine AllReadyH.cons rfl (fun K hK => ?_) AllReadyH.nil
        (obtain ⟨⟨o0, o1, o2⟩, g0, g1, g2⟩ := RX.out.at List.mem_cons_self)
        go_simp
        (clear o0 o1 o2 g0 g1 g2; clear r0 r1 r2; replace RX := Lib.hid (RX.out.set3 (.slice a1 n1 c1) (.slice a2 n2 c2) (.slice a3 n3 c3)); obtain ⟨⟨r0, r1, r2⟩, -⟩ := RX.out.at (r := w.heap.size) (a := .int .i64 k) (b := .int .i64 p) (c := .int .i64 q) (by simp))
        refine hK.out _ _ (by (try dsimp only); with_reducible exact ⟨r0, r1, r2⟩) (fun hHeld => ?_)
        clear hK K
        try simp only [Act.put, List.getElem_toArray, List.getElem_cons_succ, List.getElem_cons_zero, List.setIfInBounds_toArray, List.set_cons_zero, List.set_cons_succ]
        refine wpAnyH_take (i := 13) (v := ?_) rfl (by kernel_rfl) (by kernel_rfl) (by kernel_rfl) (fun _ _ _ h => h) (Or.inl ⟨by rfl, ?_⟩) (by assumption) ?_
        rotate_left
        · intro w hSw; (try dsimp only at hSw); go_simp <;> with_reducible rfl
        try simp only [Act.put, List.getElem_toArray, List.getElem_cons_succ, List.getElem_cons_zero, List.setIfInBounds_toArray, List.set_cons_zero, List.set_cons_succ]
        refine wpAnyH_done (by kernel_rfl) ?_ _
      rotate_left 1
      focus
        go_simp
        ((first | (obtain ⟨WX, gb, hW, hg, RXn⟩ := RX.out.boxX nilV nilV nilV 28; rw [hW]; (try rw [hg])) | (obtain ⟨WZ, gb, hW, hg, RXn⟩ := RN.out.boxX nilV nilV nilV 28; rw [hW]; (try rw [hg]); replace RXn := RXn.drew; clear hW; generalize WZ.drew = WX at RXn ⊢)); clear r0 r1 r2; replace RX := Lib.hid RXn; clear RXn; obtain ⟨⟨r0, r1, r2⟩, -⟩ := RX.out.at (r := w.heap.size) (a := .int .i64 k) (b := .int .i64 p) (c := .int .i64 q) (by simp))
        refine hK.out _ _ (by (try dsimp only); with_reducible exact ⟨r0, r1, r2⟩) (fun hHeld => ?_)
        clear hK K
        try simp only [Act.put, List.getElem_toArray, List.getElem_cons_succ, List.getElem_cons_zero, List.setIfInBounds_toArray, List.set_cons_zero, List.set_cons_succ]
        refine wpAnyH_ready (rs := [7]) (by kernel_rfl) (by simp) ?_
        refine AllReadyH.cons rfl (fun K hK => ?_) AllReadyH.nil
        go_simp
        (go_at_call 10; refine (HZT.out _ _ (RX.out.rd (v := .slice aD m cD) (xs := List.replicate m d) (by simp)) RX.out.bel).mono ?_; rintro e WX ⟨l', d', x', rfl, ho, hb⟩; obtain ⟨a1, n1, c1, rfl⟩ := ho.rows.1.slice; obtain ⟨a2, n2, c2, rfl⟩ := ho.rows.2.1.slice; obtain ⟨a3, n3, c3, rfl⟩ := ho.rows.2.2.slice; clear r0 r1 r2; replace RX := Lib.hid (RX.out.new3 hb ho); clear ho hb; obtain ⟨⟨r0, r1, r2⟩, -⟩ := RX.out.at (r := w.heap.size) (a := .int .i64 k) (b := .int .i64 p) (c := .int .i64 q) (by simp))
        go_wp2_with fail
        refine hK.out _ _ (by (try dsimp only); with_reducible exact ⟨r0, r1, r2⟩) (fun hHeld => ?_)
        clear hK K
        try simp only [Act.put, List.getElem_toArray, List.getElem_cons_succ, List.getElem_cons_zero, List.setIfInBounds_toArray, List.set_cons_zero, List.set_cons_succ]
        refine wpAnyH_take (i := 8) (v := ?_) rfl (by kernel_rfl) (by kernel_rfl) (by kernel_rfl) (fun _ _ _ h => h) (Or.inl ⟨by rfl, ?_⟩) (by assumption) ?_
        rotate_left
        · intro w hSw; (try dsimp only at hSw); go_simp <;> with_reducible rfl
        try simp only [Act.put, List.getElem_toArray, List.getElem_cons_succ, List.getElem_cons_zero, List.setIfInBounds_toArray, List.set_cons_zero, List.set_cons_succ]
        refine wpAnyH_take (i := 9) (v := ?_) rfl (by kernel_rfl) (by kernel_rfl) (by kernel_rfl) (fun _ _ _ h => h) (Or.inl ⟨by rfl, ?_⟩) (by assumption) ?_
        rotate_left
        · intro w hSw; (try dsimp only at hSw); go_simp <;> with_reducible rfl
        try simp only [Act.put, List.getElem_toArray, List.getElem_cons_succ, List.getElem_cons_zero, List.setIfInBounds_toArray, List.set_cons_zero, List.set_cons_succ]
        refine wpAnyH_take (i := 10) (v := ?_) rfl (by kernel_rfl) (by kernel_rfl) (by kernel_rfl) (fun _ _ _ h => h) (Or.inl ⟨by rfl, ?_⟩) (by assumption) ?_
        rotate_left
        · intro w hSw; (try dsimp only at hSw); go_simp <;> with_reducible rfl
        try simp only [Act.put, List.getElem_toArray, List.getElem_cons_succ, List.getElem_cons_zero, List.setIfInBounds_toArray, List.set_cons_zero, List.set_cons_succ]
        refine wpAnyH_ready (rs := [12]) (by kernel_rfl) (by simp) ?_
        refine AllReadyH.cons rfl (fun K hK => ?_) AllReadyH.nil
        (obtain ⟨⟨o0, o1, o2⟩, g0, g1, g2⟩ := RX.out.at List.mem_cons_self)
        go_simp
        (clear o0 o1 o2 g0 g1 g2; clear r0 r1 r2; replace RX := Lib.hid (RX.out.set3 (.slice a1 n1 c1) (.slice a2 n2 c2) (.slice a3 n3 c3)); obtain ⟨⟨r0, r1, r2⟩, -⟩ := RX.out.at (r := w.heap.size) (a := .int .i64 k) (b := .int .i64 p) (c := .int .i64 q) (by simp))
        refine hK.out _ _ (by (try dsimp only); with_reducible exact ⟨r0, r1, r2⟩) (fun hHeld => ?_)
        clear hK K
        try simp only [Act.put, List.getElem_toArray, List.getElem_cons_succ, List.getElem_cons_zero, List.setIfInBounds_toArray, List.set_cons_zero, List.set_cons_succ]
        refine wpAnyH_take (i := 13) (v := ?_) rfl (by kernel_rfl) (by kernel_rfl) (by kernel_rfl) (fun _ _ _ h => h) (Or.inl ⟨by rfl, ?_⟩) (by assumption) ?_
        rotate_left
        · intro w hSw; (try dsimp only at hSw); go_simp <;> with_reducible rfl
        try simp only [Act.put, List.getElem_toArray, List.getElem_cons_succ, List.getElem_cons_zero, List.setIfInBounds_toArray, List.set_cons_zero, List.set_cons_succ]
        refine wpAnyH_done (by kernel_rfl) ?_ _
      rotate_left 1
    rotate_left 2
    focus
      go_simp
      ((first | (obtain ⟨WX, gb, hW, hg, RXn⟩ := RX.out.boxX nilV nilV nilV 28; rw [hW]; (try rw [hg])) | (obtain ⟨WZ, gb, hW, hg, RXn⟩ := RN.out.boxX nilV nilV nilV 28; rw [hW]; (try rw [hg]); replace RXn := RXn.drew; clear hW; generalize WZ.drew = WX at RXn ⊢)); clear r0 r1 r2; replace RX := Lib.hid RXn; clear RXn; obtain ⟨⟨r0, r1, r2⟩, -⟩ := RX.out.at (r := w.heap.size) (a := .int .i64 k) (b := .int .i64 p) (c := .int .i64 q) (by simp))
      refine hK.out _ _ (by (try dsimp only); with_reducible exact ⟨r0, r1, r2⟩) (fun hHeld => ?_)
      clear hK K
      try simp only [Act.put, List.getElem_toArray, List.getElem_cons_succ, List.getElem_cons_zero, List.setIfInBounds_toArray, List.set_cons_zero, List.set_cons_succ]
      refine wpAnyH_ready (rs := [6]) (by kernel_rfl) (by simp) ?_
      refine AllReadyH.cons rfl (fun K hK => ?_) AllReadyH.nil
      go_simp
      (go_at_call 42; obtain ⟨bz, oz, ez, hgl, hcl⟩ := (RX.out.rd (v := .slice (some ⟨gl, 0, none⟩) 1 1) (xs := [d]) (by simp)).cellAt (j := 0) (x := d) rfl; cases ez; refine (HRP.out _ gl hgl hcl).mono ?_; clear hgl hcl; rintro e WX ⟨vD, rfl, ho, hb⟩; obtain ⟨aD, cD, rfl, -⟩ := ints_form ho.rd; rw [List.length_replicate] at ho ⊢; clear r0 r1 r2; replace RX := Lib.hid (RX.out.new hb ho); clear ho hb; obtain ⟨⟨r0, r1, r2⟩, -⟩ := RX.out.at (r := w.heap.size) (a := .int .i64 k) (b := .int .i64 p) (c := .int .i64 q) (by simp))
      go_wp2_with fail
      refine hK.out _ _ (by (try dsimp only); with_reducible exact ⟨r0, r1, r2⟩) (fun hHeld => ?_)
      clear hK K
      try simp only [Act.put, List.getElem_toArray, List.getElem_cons_succ, List.getElem_cons_zero, List.setIfInBounds_toArray, List.set_cons_zero, List.set_cons_succ]
      refine wpAnyH_ready (rs := [7]) (by kernel_rfl) (by simp) ?_
      refine AllReadyH.cons rfl (fun K hK => ?_) AllReadyH.nil
      go_simp
      (go_at_call 10; refine (HZT.out _ _ (RX.out.rd (v := .slice aD m cD) (xs := List.replicate m d) (by simp)) RX.out.bel).mono ?_; rintro e WX ⟨l', d', x', rfl, ho, hb⟩; obtain ⟨a1, n1, c1, rfl⟩ := ho.rows.1.slice; obtain ⟨a2, n2, c2, rfl⟩ := ho.rows.2.1.slice; obtain ⟨a3, n3, c3, rfl⟩ := ho.rows.2.2.slice; clear r0 r1 r2; replace RX := Lib.hid (RX.out.new3 hb ho); clear ho hb; obtain ⟨⟨r0, r1, r2⟩, -⟩ := RX.out.at (r := w.heap.size) (a := .int .i64 k) (b := .int .i64 p) (c := .int .i64 q) (by simp))
      go_wp2_with fail
      refine hK.out _ _ (by (try dsimp only); with_reducible exact ⟨r0, r1, r2⟩) (fun hHeld => ?_)
      clear hK K
      try simp only [Act.put, List.getElem_toArray, List.getElem_cons_succ, List.getElem_cons_zero, List.setIfInBounds_toArray, List.set_cons_zero, List.set_cons_succ]
      refine wpAnyH_take (i := 8) (v := ?_) rfl (by kernel_rfl) (by kernel_rfl) (by kernel_rfl) (fun _ _ _ h => h) (Or.inl ⟨by rfl, ?_⟩) (by assumption) ?_
      rotate_left
      · intro w hSw; (try dsimp only at hSw); go_simp <;> with_reducible rfl
      try simp only [Act.put, List.getElem_toArray, List.getElem_cons_succ, List.getElem_cons_zero, List.setIfInBounds_toArray, List.set_cons_zero, List.set_cons_succ]
      refine wpAnyH_take (i := 9) (v := ?_) rfl (by kernel_rfl) (by kernel_rfl) (by kernel_rfl) (fun _ _ _ h => h) (Or.inl ⟨by rfl, ?_⟩) (by assumption) ?_
      rotate_left
      · intro w hSw; (try dsimp only at hSw); go_simp <;> with_reducible rfl
      try simp only [Act.put, List.getElem_toArray, List.getElem_cons_succ, List.getElem_cons_zero, List.setIfInBounds_toArray, List.set_cons_zero, List.set_cons_succ]
      refine wpAnyH_take (i := 10) (v := ?_) rfl (by kernel_rfl) (by kernel_rfl) (by kernel_rfl) (fun _ _ _ h => h) (Or.inl ⟨by rfl, ?_⟩) (by assumption) ?_
      rotate_left
      · intro w hSw; (try dsimp only at hSw); go_simp <;> with_reducible rfl
      try simp only [Act.put, List.getElem_toArray, List.getElem_cons_succ, List.getElem_cons_zero, List.setIfInBounds_toArray, List.set_cons_zero, List.set_cons_succ]
      refine wpAnyH_ready (rs := [12]) (by kernel_rfl) (by simp) ?_
      refine AllReadyH.cons rfl (fun K hK => ?_) AllReadyH.nil
      (obtain ⟨⟨o0, o1, o2⟩, g0, g1, g2⟩ := RX.out.at List.mem_cons_self)
      go_simp
      (clear o0 o1 o2 g0 g1 g2; clear r0 r1 r2; replace RX := Lib.hid (RX.out.set3 (.slice a1 n1 c1) (.slice a2 n2 c2) (.slice a3 n3 c3)); obtain ⟨⟨r0, r1, r2⟩, -⟩ := RX.out.at (r := w.heap.size) (a := .int .i64 k) (b := .int .i64 p) (c := .int .i64 q) (by simp))
      refine hK.out _ _ (by (try dsimp only); with_reducible exact ⟨r0, r1, r2⟩) (fun hHeld => ?_)
      clear hK K
      try simp only [Act.put, List.getElem_toArray, List.getElem_cons_succ, List.getElem_cons_zero, List.setIfInBounds_toArray, List.set_cons_zero, List.set_cons_succ]
      refine wpAnyH_take (i := 13) (v := ?_) rfl (by kernel_rfl) (by kernel_rfl) (by kernel_rfl) (fun _ _ _ h => h) (Or.inl ⟨by rfl, ?_⟩) (by assumption) ?_
      rotate_left
      · intro w hSw; (try dsimp only at hSw); go_simp <;> with_reducible rfl
      try simp only [Act.put, List.getElem_toArray, List.getElem_cons_succ, List.getElem_cons_zero, List.setIfInBounds_toArray, List.set_cons_zero, List.set_cons_succ]
      refine wpAnyH_done (by kernel_rfl) ?_ _
    rotate_left 1
  rotate_left 3
  focus
    go_simp
    ((first | (obtain ⟨WX, gb, hW, hg, RXn⟩ := RX.out.boxX nilV nilV nilV 28; rw [hW]; (try rw [hg])) | (obtain ⟨WZ, gb, hW, hg, RXn⟩ := RN.out.boxX nilV nilV nilV 28; rw [hW]; (try rw [hg]); replace RXn := RXn.drew; clear hW; generalize WZ.drew = WX at RXn ⊢)); clear r0 r1 r2; replace RX := Lib.hid RXn; clear RXn; obtain ⟨⟨r0, r1, r2⟩, -⟩ := RX.out.at (r := w.heap.size) (a := .int .i64 k) (b := .int .i64 p) (c := .int .i64 q) (by simp))
    refine hK.out _ _ (by (try dsimp only); with_reducible exact ⟨r0, r1, r2⟩) (fun hHeld => ?_)
    clear hK K
    try simp only [Act.put, List.getElem_toArray, List.getElem_cons_succ, List.getElem_cons_zero, List.setIfInBounds_toArray, List.set_cons_zero, List.set_cons_succ]
    refine wpAnyH_ready (rs := [3]) (by kernel_rfl) (by simp) ?_
    refine AllReadyH.cons rfl (fun K hK => ?_) AllReadyH.nil
    go_simp
    ((first | (obtain ⟨WX, gl, hW, hg, RXn⟩ := RX.out.litX d; rw [hW]; (try rw [hg])) | (obtain ⟨WZ, gl, hW, hg, RXn⟩ := RN.out.litX d; rw [hW]; (try rw [hg]); replace RXn := RXn.drew; clear hW; generalize WZ.drew = WX at RXn ⊢)); clear r0 r1 r2; replace RX := Lib.hid RXn; clear RXn; obtain ⟨⟨r0, r1, r2⟩, -⟩ := RX.out.at (r := w.heap.size) (a := .int .i64 k) (b := .int .i64 p) (c := .int .i64 q) (by simp))
    refine hK.out _ _ (by (try dsimp only); with_reducible exact ⟨r0, r1, r2⟩) (fun hHeld => ?_)
    clear hK K
    try simp only [Act.put, List.getElem_toArray, List.getElem_cons_succ, List.getElem_cons_zero, List.setIfInBounds_toArray, List.set_cons_zero, List.set_cons_succ]
    refine wpAnyH_ready (rs := [6]) (by kernel_rfl) (by simp) ?_
    refine AllReadyH.cons rfl (fun K hK => ?_) AllReadyH.nil
    go_simp
    (go_at_call 42; obtain ⟨bz, oz, ez, hgl, hcl⟩ := (RX.out.rd (v := .slice (some ⟨gl, 0, none⟩) 1 1) (xs := [d]) (by simp)).cellAt (j := 0) (x := d) rfl; cases ez; refine (HRP.out _ gl hgl hcl).mono ?_; clear hgl hcl; rintro e WX ⟨vD, rfl, ho, hb⟩; obtain ⟨aD, cD, rfl, -⟩ := ints_form ho.rd; rw [List.length_replicate] at ho ⊢; clear r0 r1 r2; replace RX := Lib.hid (RX.out.new hb ho); clear ho hb; obtain ⟨⟨r0, r1, r2⟩, -⟩ := RX.out.at (r := w.heap.size) (a := .int .i64 k) (b := .int .i64 p) (c := .int .i64 q) (by simp))
    go_wp2_with fail
    refine hK.out _ _ (by (try dsimp only); with_reducible exact ⟨r0, r1, r2⟩) (fun hHeld => ?_)
    clear hK K
    try simp only [Act.put, List.getElem_toArray, List.getElem_cons_succ, List.getElem_cons_zero, List.setIfInBounds_toArray, List.set_cons_zero, List.set_cons_succ]
    refine wpAnyH_ready (rs := [7]) (by kernel_rfl) (by simp) ?_
    refine AllReadyH.cons rfl (fun K hK => ?_) AllReadyH.nil
    go_simp
    (go_at_call 10; refine (HZT.out _ _ (RX.out.rd (v := .slice aD m cD) (xs := List.replicate m d) (by simp)) RX.out.bel).mono ?_; rintro e WX ⟨l', d', x', rfl, ho, hb⟩; obtain ⟨a1, n1, c1, rfl⟩ := ho.rows.1.slice; obtain ⟨a2, n2, c2, rfl⟩ := ho.rows.2.1.slice; obtain ⟨a3, n3, c3, rfl⟩ := ho.rows.2.2.slice; clear r0 r1 r2; replace RX := Lib.hid (RX.out.new3 hb ho); clear ho hb; obtain ⟨⟨r0, r1, r2⟩, -⟩ := RX.out.at (r := w.heap.size) (a := .int .i64 k) (b := .int .i64 p) (c := .int .i64 q) (by simp))
    go_wp2_with fail
    refine hK.out _ _ (by (try dsimp only); with_reducible exact ⟨r0, r1, r2⟩) (fun hHeld => ?_)
    clear hK K
    try simp only [Act.put, List.getElem_toArray, List.getElem_cons_succ, List.getElem_cons_zero, List.setIfInBounds_toArray, List.set_cons_zero, List.set_cons_succ]
    refine wpAnyH_take (i := 8) (v := ?_) rfl (by kernel_rfl) (by kernel_rfl) (by kernel_rfl) (fun _ _ _ h => h) (Or.inl ⟨by rfl, ?_⟩) (by assumption) ?_
    rotate_left
    · intro w hSw; (try dsimp only at hSw); go_simp <;> with_reducible rfl
    try simp only [Act.put, List.getElem_toArray, List.getElem_cons_succ, List.getElem_cons_zero, List.setIfInBounds_toArray, List.set_cons_zero, List.set_cons_succ]
    refine wpAnyH_take (i := 9) (v := ?_) rfl (by kernel_rfl) (by kernel_rfl) (by kernel_rfl) (fun _ _ _ h => h) (Or.inl ⟨by rfl, ?_⟩) (by assumption) ?_
    rotate_left
    · intro w hSw; (try dsimp only at hSw); go_simp <;> with_reducible rfl
    try simp only [Act.put, List.getElem_toArray, List.getElem_cons_succ, List.getElem_cons_zero, List.setIfInBounds_toArray, List.set_cons_zero, List.set_cons_succ]
    refine wpAnyH_take (i := 10) (v := ?_) rfl (by kernel_rfl) (by kernel_rfl) (by kernel_rfl) (fun _ _ _ h => h) (Or.inl ⟨by rfl, ?_⟩) (by assumption) ?_
    rotate_left
    · intro w hSw; (try dsimp only at hSw); go_simp <;> with_reducible rfl
    try simp only [Act.put, List.getElem_toArray, List.getElem_cons_succ, List.getElem_cons_zero, List.setIfInBounds_toArray, List.set_cons_zero, List.set_cons_succ]
    refine wpAnyH_ready (rs := [12]) (by kernel_rfl) (by simp) ?_
    refine AllReadyH.cons rfl (fun K hK => ?_) AllReadyH.nil
    (obtain ⟨⟨o0, o1, o2⟩, g0, g1, g2⟩ := RX.out.at List.mem_cons_self)
    go_simp
    (clear o0 o1 o2 g0 g1 g2; clear r0 r1 r2; replace RX := Lib.hid (RX.out.set3 (.slice a1 n1 c1) (.slice a2 n2 c2) (.slice a3 n3 c3)); obtain ⟨⟨r0, r1, r2⟩, -⟩ := RX.out.at (r := w.heap.size) (a := .int .i64 k) (b := .int .i64 p) (c := .int .i64 q) (by simp))
    refine hK.out _ _ (by (try dsimp only); with_reducible exact ⟨r0, r1, r2⟩) (fun hHeld => ?_)
    clear hK K
    try simp only [Act.put, List.getElem_toArray, List.getElem_cons_succ, List.getElem_cons_zero, List.setIfInBounds_toArray, List.set_cons_zero, List.set_cons_succ]
    refine wpAnyH_take (i := 13) (v := ?_) rfl (by kernel_rfl) (by kernel_rfl) (by kernel_rfl) (fun _ _ _ h => h) (Or.inl ⟨by rfl, ?_⟩) (by assumption) ?_
    rotate_left
    · intro w hSw; (try dsimp only at hSw); go_simp <;> with_reducible rfl
    try simp only [Act.put, List.getElem_toArray, List.getElem_cons_succ, List.getElem_cons_zero, List.setIfInBounds_toArray, List.set_cons_zero, List.set_cons_succ]
    refine wpAnyH_done (by kernel_rfl) ?_ _
  rotate_left 1
  all_goals
    clear r0 r1 r2
    generalize ((WX.setCell ⟨gb, 0, none⟩ (.slice a1 n1 c1)).setCell ⟨gb, 1, none⟩ (.slice a2 n2 c2)).setCell ⟨gb, 2, none⟩ (.slice a3 n3 c3) = w2 at RX ⊢
    replace RX := Lib.hid (RX.out.sub (rows' := [(.slice a1 n1 c1, yl), (.slice a2 n2 c2, yd), (.slice a3 n3 c3, yx)]) (List.Sublist.cons_cons _ (List.Sublist.cons_cons _ (List.Sublist.cons_cons _ (List.nil_sublist _)))))
    cases fb with
    | false =>
      obtain ⟨rfl, rfl, rfl⟩ := HNO.out (by simp)
      obtain ⟨⟨t0, t1, t2⟩, f0, f1, f2⟩ := RX.out.at (r := w.heap.size + 1) (a := nilV) (b := nilV) (c := nilV) (by simp)
      go_wp2
      refine bodyPost_ret (v := .tuple #[tenV nilV nilV nilV, .bool false]) (by simp [results, Tryz.results18, go_sem, t0, t1, t2]) rfl ?_
      exact NewTen2.nils (((RX.out.bel.setCell (by simp) _).setCell (by simp) _).setCell (by simp) _)
    | true =>
      obtain ⟨rfl, rfl, rfl⟩ := HYY.out rfl
      have hF := DF.of HFB.out.symm
      rw [← HM.out] at hF
      obtain ⟨N, hNN⟩ : ∃ N, N = (prodL (List.replicate m d)).toNat := ⟨_, rfl⟩
      obtain ⟨wd, hwd⟩ : ∃ wd, wd = (widthI k q).toNat := ⟨_, rfl⟩
      rw [← hNN, ← hwd] at hF
      obtain ⟨D, hD⟩ : ∃ D, D = List.replicate m d := ⟨_, rfl⟩
      rw [← hD] at hF RX
      have HY3 := Lib.hid (HYES.out rfl)
      have HEL : Hid (deltaL k p q m d = deltaTo wd D (oneL k p q) (zeroTenL k p q D) d.toNat) := Lib.hid (by rw [hwd, hD]; rfl)
      have HZZ : Hid (zeroTenL k p q D = repL (zeroL k p q) N) := Lib.hid (by rw [hNN, hD]; rfl)
      rw [HZZ.out] at RX HEL
      have F := Lib.hid hF
      obtain ⟨hln1, hln2, hln3⟩ : yl.length = n1 ∧ D.length = n2 ∧ (repL (zeroL k p q) N).length = n3 := by
        have e1 := (RX.out.rd (v := .slice a1 n1 c1) (xs := yl) (by simp))
        have e2 := (RX.out.rd (v := .slice a2 n2 c2) (xs := D) (by simp))
        have e3 := (RX.out.rd (v := .slice a3 n3 c3) (xs := repL (zeroL k p q) N) (by simp))
        obtain ⟨_, _, h1, -⟩ := ints_form e1
        obtain ⟨_, _, h2, -⟩ := ints_form e2
        obtain ⟨_, _, h3, -⟩ := ints_form e3
        simp only [Value.slice.injEq] at h1 h2 h3
        exact ⟨h1.2.1.symm, h2.2.1.symm, h3.2.1.symm⟩
      have hlm : D.length = m := by rw [hD, List.length_replicate]
      obtain rfl : n1 = m := by rw [← hln1, HM.out]
      obtain rfl : n2 = n1 := by rw [← hln2, hlm]
      have hnx : n3 = N * wd := by
        have h := F.out.len 0 (by have := F.out.d8; omega)
        rw [deltaTo_zero] at h
        rw [← hln3, h]
      have hnw : 1 ≤ N * wd := Nat.le_trans F.out.n1.1 (Nat.le_mul_of_pos_right N F.out.w6.1)
      obtain ⟨gx, rfl⟩ : ∃ gx, a3 = some ⟨gx, 0, none⟩ := by
        obtain ⟨g, cap, e, -⟩ := own_form (RX.out.own1 (v := .slice a3 n3 c3) (xs := repL (zeroL k p q) N) (by simp)) hln3 (by omega)
        cases e
        exact ⟨g, rfl⟩
      have HCX : Hid (n3 ≤ c3) := by
        have h := RX.out.own (.slice (some ⟨gx, 0, none⟩) n3 c3, repL (zeroL k p q) N) (by simp)
        rcases h.2 with ⟨e, -⟩ | ⟨g, cap, cur, e, -, -, h2, -⟩
        · cases e
        · simp only [Value.slice.injEq, Option.some.injEq] at e
          show n3 ≤ c3
          rw [e.2.2, e.2.1]; exact h2
      have HNX0 := Lib.hid hnx
      have h12 : n2 ≤ 12 := by have h := F.out.ax.1; rw [F.out.lL] at h; exact h
      have HTN := Lib.hid (fun (W : World) (h : RdT W.heap.size W (.slice a1 n2 c1) (.slice a2 n2 c2) (.slice (some ⟨gx, 0, none⟩) n3 c3) yl D (repL (zeroL k p q) N)) (h0 : 0 < W.heap.size) => axes_impl h (Nat.le_refl _) h0 F.out.ax.2.1 F.out.ax.1 F.out.ax.2.2.2.1 (by rw [F.out.pr]; have := F.out.n1; omega))
      have hgbl := (RX.out.bx (gb, .slice a1 n2 c1, .slice a2 n2 c2, .slice (some ⟨gx, 0, none⟩) n3 c3) List.mem_cons_self).lt
      have HAX := Lib.hid (HTN.out w2 ⟨RX.out.rd (v := .slice a1 n2 c1) (by simp), RX.out.rd (v := .slice a2 n2 c2) (by simp), RX.out.rd (v := .slice (some ⟨gx, 0, none⟩) n3 c3) (by simp)⟩ (Nat.lt_of_le_of_lt (Nat.zero_le _) hgbl))
      obtain ⟨⟨o0, o1, o2⟩, -⟩ := RX.out.at (r := gb) (a := .slice a1 n2 c1) (b := .slice a2 n2 c2) (c := .slice (some ⟨gx, 0, none⟩) n3 c3) (by simp)
      have HLA : Hid ((axesL yl D).length = n2) := Lib.hid (by rw [axesL_len, F.out.lL])
      have HDD := Lib.hid hD
      have hsm := stepA_small (L := yl) (D := D) (fun x hx => (F.out.ax.2.2.2.1 x hx).1) (by rw [F.out.pr]; have := F.out.n1; omega)
      have HSM := Lib.hid hsm
      obtain ⟨e0, rfl⟩ : ∃ e0 : Nat, d = (e0 : Int) := ⟨d.toNat, by omega⟩
      have he8 : e0 ≤ 8 := by omega
      clear hsm hD hF hNN hwd hln1 hln2 hln3 hlm hnx hnw hgbl HTN HFB HZT HRP RN
      go_wp2_with fail
      refine HAX.out.mono ?_
      clear o0 o1 o2 HAX
      rintro e w3 ⟨vA, rfl, ho, hb⟩
      have RA := Lib.hid (OwnA.rd ho)
      obtain ⟨aA, cA, rfl⟩ := RA.out.form
      rw [HLA.out] at RA ⊢
      have R3 := Lib.hid (RX.out.step hb)
      clear ho hb RX
      go_wp2
      go_loopw [10, 38] (fun u i wr => ∃ (j : Nat) (c : Int), j ≤ n2 ∧ i = .int .i64 j ∧ u = .int .i64 c ∧ Hid (c = stepA ((axesL yl D).take j)) ∧ Hid (Below w3.heap.size w3 wr)) (fun _ i _ => n2 - (intOf i).toNat)
      case atStart => exact ⟨0, 0, by omega, rfl, rfl, Lib.hid rfl, Lib.hid (Below.refl _ _)⟩
      case round =>
        obtain ⟨j, c, hj, rfl, rfl, HC, HBL⟩ := hrel
        by_cases hlt : j < n2
        · obtain ⟨⟨n, dd, s⟩, X1⟩ : ∃ a, Hid ((axesL yl D)[j]? = some a) := ⟨_, List.getElem?_eq_getElem (by rw [HLA.out]; exact hlt)⟩
          obtain ⟨b, off, rfl, hbl, e1, e2, e3⟩ := (RA.out.below HBL.out (Nat.le_refl _)).at X1.out
          dsimp only at e1 e2 e3
          have h3 := HSM.out j
          have h2 := HSM.out (j + 1)
          rw [stepA_succ X1.out, ← HC.out] at h2
          rw [← HC.out] at h3
          dsimp only at h2
          have hw : wrap64 (c + s) = c + s := by unfold wrap64; omega
          have HC2 : Hid (wrap64 (c + s) = stepA ((axesL yl D).take (j + 1))) := Lib.hid (by rw [stepA_succ X1.out, ← HC.out, hw])
          have HB2 := Lib.hid (HBL.out.alloc HBL.out.size (.cells #[.int .i64 n, .int .i64 dd, .int .i64 s] 85))
          have R4 := Lib.hid (R3.out.step HBL.out)
          obtain ⟨⟨o0, o1, o2⟩, -⟩ := R4.out.at (r := gb) (a := .slice a1 n2 c1) (b := .slice a2 n2 c2) (c := .slice (some ⟨gx, 0, none⟩) n3 c3) (by simp)
          clear h3 h2 hw R4
          go_wp2
          go_roundw
          case rel => exact ⟨j + 1, _, by omega, by go_num, rfl, HC2, HB2⟩
          case measure => simp [intOf]; omega
        · obtain rfl : j = n2 := by omega
          have HST : Hid (c = stepA (axesL yl D)) := Lib.hid (by rw [HC.out, List.take_of_length_le (by rw [HLA.out]; exact Nat.le_refl _)])
          have R4 := R3.out.step HBL.out
          obtain ⟨be, hbe⟩ : ∃ b, b = [(gb, Value.slice a1 j c1, Value.slice a2 j c2, Value.slice (some ⟨gx, 0, none⟩) n3 c3), (w.heap.size + 1, nilV, nilV, nilV), (w.heap.size, .int .i64 k, .int .i64 p, .int .i64 q)] := ⟨_, rfl⟩
          have R5 : Hid (Rs w wr be [(.slice (some ⟨gx, 0, none⟩) n3 c3, deltaTo wd D (oneL k p q) (repL (zeroL k p q) N) 0), (.slice a1 j c1, yl), (.slice a2 j c2, D)]) := Lib.hid (by rw [deltaTo_zero, hbe]; exact R4.third)
          have HBE := Lib.hid hbe
          clear hbe R4 HC HBL RA R3
          go_wp2
          go_loopw [48] (fun s wr => ∃ v : Nat, v ≤ e0 ∧ s = .int .i64 v ∧ Hid (Rs w wr be [(.slice (some ⟨gx, 0, none⟩) n3 c3, deltaTo wd D (oneL k p q) (repL (zeroL k p q) N) v), (.slice a1 j c1, yl), (.slice a2 j c2, D)])) (fun s _ => e0 - (intOf s).toNat)
          case atStart => exact ⟨0, by omega, rfl, R5⟩
          case round =>
            clear R5
            obtain ⟨v, hv, rfl, HR⟩ := hrel
            by_cases hlt2 : v < e0
            · have hvd : (v : Int) < (e0 : Int) := by omega
              have HOF0 := F.out.off hvd
              have HSP := F.out.step hvd
              obtain ⟨o, hoo⟩ : ∃ o, o = diagO D v := ⟨_, rfl⟩
              rw [← hoo] at HOF0 HSP
              have hn4 := F.out.n1.2
              have ho4 : o ≤ 4096 := by have := HOF0.2.1; omega
              have hwm : IntKind.i64.wrap ((v : Int) * c) = (o : Int) := by rw [HST.out, HSP]; exact IntWalk.i64_in _ (by omega)
              have HLE := Lib.hid (F.out.len v (by omega))
              have HON := Lib.hid F.out.one
              have HOB := Lib.hid HOF0.2
              have HNX : Hid (putL (deltaTo wd D (oneL k p q) (repL (zeroL k p q) N) v) (o * wd) (oneL k p q) = deltaTo wd D (oneL k p q) (repL (zeroL k p q) N) (v + 1)) := Lib.hid (by rw [deltaTo_succ, hoo])
              have HRG := Lib.hid F.out.rg
              have HEP := Lib.hid (fun (W : World) => elem_part (b := gx) (off := 0) (cx := c3) (mx := n3) (ml := j) (cl := c1) (md := j) (cd := c2) (al := a1) (ad := a2) (k := k) (p := p) (q := q) (w := W) wd o F.out.hw F.out.w6.1 F.out.w6.2 ho4 (by rw [HNX0.out]; exact HOB.out.2) HCX.out)
              simp only [Nat.zero_add] at HEP
              have hw1 := F.out.w6.1
              have RX := Lib.hid HR.out.drew
              clear HOF0 HSP hoo HR
              obtain ⟨⟨r0, r1, r2⟩, -⟩ := RX.out.at (r := w.heap.size) (a := .int .i64 k) (b := .int .i64 p) (c := .int .i64 q) (by rw [HBE.out]; simp)
              obtain ⟨⟨o0, o1, o2⟩, -⟩ := RX.out.at (r := gb) (a := .slice a1 j c1) (b := .slice a2 j c2) (c := .slice (some ⟨gx, 0, none⟩) n3 c3) (by rw [HBE.out]; simp)
              go_wp2
              refine wp_region_held_drew (S := (fun w' => (w'.cell? ⟨w.heap.size, 0, none⟩ = some (.int .i64 k) ∧ w'.cell? ⟨w.heap.size, 1, none⟩ = some (.int .i64 p) ∧ w'.cell? ⟨w.heap.size, 2, none⟩ = some (.int .i64 q)) ∧ (w'.cell? ⟨gb, 0, none⟩ = some (.slice a1 j c1) ∧ w'.cell? ⟨gb, 1, none⟩ = some (.slice a2 j c2) ∧ w'.cell? ⟨gb, 2, none⟩ = some (.slice (some ⟨gx, 0, none⟩) n3 c3)))) (by kernel_rfl) (by (try dsimp only); with_reducible exact ⟨⟨r0, r1, r2⟩, ⟨o0, o1, o2⟩⟩) (fun hHeld => ?_)
              refine wpAnyH_take (i := 0) (v := ?_) rfl (by kernel_rfl) (by kernel_rfl) (by kernel_rfl) (fun _ _ _ h => h) (Or.inl ⟨by rfl, ?_⟩) (by assumption) ?_
              rotate_left
              · intro w hSw; (try dsimp only at hSw); go_simp <;> with_reducible rfl
              try simp only [Act.put, List.getElem_toArray, List.getElem_cons_zero, List.setIfInBounds_toArray, List.set_cons_zero, List.set_cons_succ]
              refine wpAnyH_take (i := 1) (v := ?_) rfl (by kernel_rfl) (by kernel_rfl) (by kernel_rfl) (fun _ _ _ h => h) (Or.inl ⟨by rfl, ?_⟩) (by assumption) ?_
              rotate_left
              · intro w hSw; (try dsimp only at hSw); go_simp <;> with_reducible rfl
              try simp only [Act.put, List.getElem_toArray, List.getElem_cons_succ, List.getElem_cons_zero, List.setIfInBounds_toArray, List.set_cons_zero, List.set_cons_succ]
              refine wpAnyH_take (i := 2) (v := ?_) rfl (by kernel_rfl) (by kernel_rfl) (by kernel_rfl) (fun _ _ _ h => h) (Or.inl ⟨by rfl, ?_⟩) (by assumption) ?_
              rotate_left
              · intro w hSw; (try dsimp only at hSw); go_simp <;> with_reducible rfl
              try simp only [Act.put, List.getElem_toArray, List.getElem_cons_succ, List.getElem_cons_zero, List.setIfInBounds_toArray, List.set_cons_zero, List.set_cons_succ]
              refine wpAnyH_take (i := 3) (v := ?_) rfl (by kernel_rfl) (by kernel_rfl) (by kernel_rfl) (fun _ _ _ h => h) (Or.inl ⟨by rfl, ?_⟩) (by assumption) ?_
              rotate_left
              · intro w hSw; (try dsimp only at hSw); go_simp <;> with_reducible rfl
              try simp only [Act.put, List.getElem_toArray, List.getElem_cons_succ, List.getElem_cons_zero, List.setIfInBounds_toArray, List.set_cons_zero, List.set_cons_succ]
              refine wpAnyH_take (i := 4) (v := ?_) rfl (by kernel_rfl) (by kernel_rfl) (by kernel_rfl) (fun _ _ _ h => h) (Or.inl ⟨by rfl, ?_⟩) (by assumption) ?_
              rotate_left
              · intro w hSw; (try dsimp only at hSw); go_simp <;> with_reducible rfl
              try simp only [Act.put, List.getElem_toArray, List.getElem_cons_succ, List.getElem_cons_zero, List.setIfInBounds_toArray, List.set_cons_zero, List.set_cons_succ]
              refine wpAnyH_take (i := 6) (v := ?_) rfl (by kernel_rfl) (by kernel_rfl) (by kernel_rfl) (fun _ _ _ h => h) (Or.inl ⟨by rfl, ?_⟩) (by assumption) ?_
              rotate_left
              · intro w hSw; (try dsimp only at hSw); go_simp <;> with_reducible rfl
              try simp only [Act.put, List.getElem_toArray, List.getElem_cons_succ, List.getElem_cons_zero, List.setIfInBounds_toArray, List.set_cons_zero, List.set_cons_succ]
              refine wpAnyH_ready (rs := [5]) (by kernel_rfl) (by simp) ?_
              refine AllReadyH.cons rfl (fun K hK => ?_) AllReadyH.nil
              go_simp
              (go_at_call 53; refine (HEP.out _).mono ?_; rintro e9 WX ⟨rfl, hb⟩; replace RX := Lib.hid (RX.out.step hb); clear hb r0 r1 r2 o0 o1 o2; obtain ⟨⟨r0, r1, r2⟩, -⟩ := RX.out.at (r := w.heap.size) (a := .int .i64 k) (b := .int .i64 p) (c := .int .i64 q) (by rw [HBE.out]; simp); obtain ⟨⟨o0, o1, o2⟩, -⟩ := RX.out.at (r := gb) (a := .slice a1 j c1) (b := .slice a2 j c2) (c := .slice (some ⟨gx, 0, none⟩) n3 c3) (by rw [HBE.out]; simp))
              go_wp2_with fail
              refine hK.out _ _ (by (try dsimp only); with_reducible exact ⟨⟨r0, r1, r2⟩, ⟨o0, o1, o2⟩⟩) (fun hHeld => ?_)
              clear hK K
              try simp only [Act.put, List.getElem_toArray, List.getElem_cons_succ, List.getElem_cons_zero, List.setIfInBounds_toArray, List.set_cons_zero, List.set_cons_succ]
              refine wpAnyH_ready (rs := [7]) (by kernel_rfl) (by simp) ?_
              refine AllReadyH.cons rfl (fun K hK => ?_) AllReadyH.nil
              go_simp
              (go_at_call 59; refine (one_impl k p q _ HRG.out).mono ?_; rintro e9 WX ⟨vc, rfl, ho, hb⟩; obtain ⟨gc, jc, rfl, hnews⟩ := own_form ho HON.out hw1; replace RX := Lib.hid (RX.out.new hb ho); clear hb ho hnews r0 r1 r2 o0 o1 o2; obtain ⟨⟨r0, r1, r2⟩, -⟩ := RX.out.at (r := w.heap.size) (a := .int .i64 k) (b := .int .i64 p) (c := .int .i64 q) (by rw [HBE.out]; simp); obtain ⟨⟨o0, o1, o2⟩, -⟩ := RX.out.at (r := gb) (a := .slice a1 j c1) (b := .slice a2 j c2) (c := .slice (some ⟨gx, 0, none⟩) n3 c3) (by rw [HBE.out]; simp))
              go_wp2_with fail
              refine hK.out _ _ (by (try dsimp only); with_reducible exact ⟨⟨r0, r1, r2⟩, ⟨o0, o1, o2⟩⟩) (fun hHeld => ?_)
              clear hK K
              try simp only [Act.put, List.getElem_toArray, List.getElem_cons_succ, List.getElem_cons_zero, List.setIfInBounds_toArray, List.set_cons_zero, List.set_cons_succ]
              refine wpAnyH_ready (rs := [8]) (by kernel_rfl) (by simp) ?_
              refine AllReadyH.cons rfl (fun K hK => ?_) AllReadyH.nil
              (obtain ⟨cur, hcg, hcf, hcr⟩ := RX.out.swap.copied (x := oneL k p q) (by rw [HLE.out, HNX0.out]) (o * wd) (by rw [HON.out, HNX0.out]; exact HOB.out.2); obtain ⟨gz, cz, ez, hnews⟩ := own_form (RX.out.own1 (v := .slice (some ⟨gc, 0, none⟩) wd jc) (xs := oneL k p q) (by simp)) HON.out hw1; cases ez; obtain ⟨cs, hcs⟩ : ∃ cs, cs = ints (oneL k p q) := ⟨_, rfl⟩; rw [← hcs] at hcr hnews; have HCG := Lib.hid hcg; have HCN := Lib.hid hnews; have HCL : Hid (cs.length = wd) := Lib.hid (by rw [hcs, ints_len, HON.out]); have HC1 : Hid (∀ u ∈ cs, u.oneCell' = true) := Lib.hid (by rw [hcs]; exact one_cells _); have HCF : Hid (o * wd + cs.length ≤ cur.size) := Lib.hid (by rw [HCL.out]; rw [HON.out] at hcf; exact hcf); rw [HNX.out] at hcr; have HCR := Lib.hid hcr; clear hcg hnews hcf hcs hcr; refine step_copy_let rfl (.tmp 56) (.tmp 58) 26 26 rfl 3 Tryz.underlying26 (by obtain ⟨i0, hi, hz0, hz1, hz2⟩ := info_parts infoInt; rw [hi]; simp [hz1]) gx (o * wd) wd (c3 - o * wd) ⟨gc, 0, none⟩ wd jc (by simp [Act.eval]) (by simp [Act.eval]) cur 3 HCG.out cs (by have h := HCL.out; show cs.length = min wd wd; omega) HCN.out HCF.out HC1.out ?_; intro w6 hW6; have hcr := HCR.out; rw [← hW6.out] at hcr; clear HCR HCG HCN HCF HC1 hW6 r0 r1 r2 o0 o1 o2; replace RX := Lib.hid (hcr.sub (rows' := [(.slice (some ⟨gx, 0, none⟩) n3 c3, deltaTo wd D (oneL k p q) (repL (zeroL k p q) N) (v + 1)), (.slice a1 j c1, yl), (.slice a2 j c2, D)]) (List.Sublist.cons_cons _ (List.Sublist.cons _ (List.Sublist.refl _)))); clear hcr; obtain ⟨⟨r0, r1, r2⟩, -⟩ := RX.out.at (r := w.heap.size) (a := .int .i64 k) (b := .int .i64 p) (c := .int .i64 q) (by rw [HBE.out]; simp); obtain ⟨⟨o0, o1, o2⟩, -⟩ := RX.out.at (r := gb) (a := .slice a1 j c1) (b := .slice a2 j c2) (c := .slice (some ⟨gx, 0, none⟩) n3 c3) (by rw [HBE.out]; simp))
              refine hK.out _ _ (by (try dsimp only); with_reducible exact ⟨⟨r0, r1, r2⟩, ⟨o0, o1, o2⟩⟩) (fun hHeld => ?_)
              clear hK K
              try simp only [Act.put, List.getElem_toArray, List.getElem_cons_succ, List.getElem_cons_zero, List.setIfInBounds_toArray, List.set_cons_zero, List.set_cons_succ]
              refine wpAnyH_done (by kernel_rfl) ?_ _
              all_goals
                clear r0 r1 r2 o0 o1 o2
                go_wp2
                go_roundw
                case rel => exact ⟨v + 1, by omega, by go_num, RX⟩
                case measure => simp [intOf]; omega
            · obtain rfl : v = e0 := by omega
              have hnlt : ¬ (v : Int) < (v : Int) := by omega
              obtain ⟨⟨o0, o1, o2⟩, -⟩ := HR.out.at (r := gb) (a := .slice a1 j c1) (b := .slice a2 j c2) (c := .slice (some ⟨gx, 0, none⟩) n3 c3) (by rw [HBE.out]; simp)
              obtain ⟨⟨t0, t1, t2⟩, f0, f1, f2⟩ := HR.out.at (r := w.heap.size + 1) (a := nilV) (b := nilV) (c := nilV) (by rw [HBE.out]; simp)
              go_wp2
              refine bodyPost_ret (v := .tuple #[tenV (.slice a1 j c1) (.slice a2 j c2) (.slice (some ⟨gx, 0, none⟩) n3 c3), .bool true]) (by simp [results, Tryz.results18, go_sem, t0, t1, t2]) rfl ?_
              have h := HR.out
              rw [HBE.out] at h
              have h2 := ((h.swapB.set3 (.slice a1 j c1) (.slice a2 j c2) (.slice (some ⟨gx, 0, none⟩) n3 c3)).third).third
              rw [HY3.out.1, HY3.out.2.1, HY3.out.2.2, ← HDD.out, HEL.out, Int.toNat_natCast]
              exact ⟨_, _, _, rfl, h2.ownG, h2.bel⟩
end Go.Proofs.YtgbmacppgaopfabGreat

