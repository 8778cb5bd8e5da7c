
/- impl.PermuteTensor. -/
import Derived.Test.YtceidekfcnmeaaaGreatPermuted
import Derived.Test.YtceidekfcnmeaaaGreatPermSpec
import Derived.Test.YtceidekfcnmeaaaGreatTenOkImpl
namespace Go.Proofs.YtceidekfcnmeaaaGreat
set_option maxRecDepth 20000
open Go.RowKit

theorem sort_same {L labels : List Int} (hn : L.Nodup) : (sortL labels == sortL L) = setV L labels := by
  by_cases h : SetV L labels
  · rw [setV_true.2 h]
    have e : sortL labels = sortL L := sorted_unique (sortL_sorted _) (sortL_sorted _) ((sortL_perm labels).trans (h.perm.trans (sortL_perm L).symm))
    simp [e]
  · rw [setV_false h]
    have e : sortL labels ≠ sortL L := fun e => h (setV_perm ((sortL_perm labels).symm.trans (e ▸ sortL_perm L)) hn)
    simpa using e
set_option maxHeartbeats 3200000 in
theorem permute_tensor_impl {B : Nat} {lv dv xv gv : Value} {k p q : Int} {L D X labels : List Int} {w : World} (h : RdT B w lv dv xv L D X) (hg : Rd B w gv (ints labels)) (hB : B ≤ w.heap.size) (hn : LenT L D X) (hng : labels.length ≤ 1099511627776) (hI : allI L) :
    Calls Tryz.prog 83 #[ringV k p q, tenV lv dv xv, gv] w (NewTen2 w (if permB k p q L D X labels = true then labels else []) (if permB k p q L D X labels = true then dimsVia L D labels else []) (if permB k p q L D X labels = true then permDataL k q L D X labels else []) (permB k p q L D X labels)) := by
  have HT := Lib.hid h
  have HG := Lib.hid hg
  have HB := Lib.hid hB
  have HII := Lib.hid hI
  obtain ⟨al, cl, rfl, -⟩ := ints_form h.l
  obtain ⟨ad, cd, rfl, -⟩ := ints_form h.d
  obtain ⟨ax, cx, rfl, -⟩ := ints_form h.x
  obtain ⟨ag, cg, rfl, -⟩ := ints_form hg
  obtain ⟨ml, hml⟩ : ∃ m, m = L.length := ⟨_, rfl⟩
  obtain ⟨md, hmd⟩ : ∃ m, m = D.length := ⟨_, rfl⟩
  obtain ⟨mx, hmx⟩ : ∃ m, m = X.length := ⟨_, rfl⟩
  obtain ⟨mg, hmg⟩ : ∃ m, m = labels.length := ⟨_, rfl⟩
  rw [← hml, ← hmd, ← hmx] at HT ⊢
  rw [← hmg] at HG ⊢
  have R0 := Lib.hid (Rs.three w k p q (.slice al ml cl) (.slice ad md cd) (.slice ax mx cx) 24 28 28)
  have HOK := Lib.hid (fun (w1 : World) (hb : Below w.heap.size w w1) => tensor_ok_impl (k := k) (p := p) (n := q) (HT.out.below hb HB.out) (Nat.le_trans HB.out hb.size) hn HII.out)
  have HSG := Lib.hid (fun (w1 : World) (hb : Below w.heap.size w w1) => sorted_impl (HG.out.below hb HB.out) (Nat.le_trans HB.out hb.size) (by omega))
  have HPE := Lib.hid (fun (w1 : World) (hb : Below w.heap.size w w1) (ht : tensorB k p q L D X = true) (hs : SetV L labels) => permuted_impl (HT.out.below hb HB.out) (HG.out.below hb HB.out) (Nat.le_trans HB.out hb.size) ht hs)
  obtain ⟨tb, htb⟩ : ∃ b, b = tensorB k p q L D X := ⟨_, rfl⟩
  obtain ⟨sb, hsb⟩ : ∃ b, b = setV L labels := ⟨_, rfl⟩
  obtain ⟨pb, hpb⟩ : ∃ b, b = permB k p q L D X labels := ⟨_, rfl⟩
  rw [← htb] at HOK
  rw [← hpb]
  have HPB : Hid (pb = (tb && sb)) := by show _ = _; rw [hpb, htb, hsb]; rfl
  have HTB := Lib.hid htb
  have HSB := Lib.hid hsb
  have R0d := Lib.hid R0.out.drew
  clear h hg hB hn htb hsb hpb hI hml hmd hmx hmg
  obtain ⟨⟨r0, r1, r2⟩, -⟩ := R0.out.at (r := w.heap.size) (a := .int .i64 k) (b := .int .i64 p) (c := .int .i64 q) (by simp)
  obtain ⟨⟨s0, s1, s2⟩, -⟩ := R0.out.at (r := w.heap.size + 1) (a := .slice al ml cl) (b := .slice ad md cd) (c := .slice ax mx cx) (by simp)
  have TK1 : True := trivial
  have TK2 : True := trivial
  cases tb with
  | false =>
    obtain rfl : pb = false := by rw [HPB.out]; rfl
    simp only [Bool.false_eq_true, if_false]
    clear HPE HSG
    go_enter Tryz.func83, Tryz.ntmps83
    go_wp2
    refine wp_region_held_drew (S := (fun w' => (w'.cell? ⟨w.heap.size, 0, none⟩ = some (.int .i64 k) ∧ w'.cell? ⟨w.heap.size, 1, none⟩ = some (.int .i64 p) ∧ w'.cell? ⟨w.heap.size, 2, none⟩ = some (.int .i64 q)) ∧ (w'.cell? ⟨w.heap.size + 1, 0, none⟩ = some (.slice al ml cl) ∧ w'.cell? ⟨w.heap.size + 1, 1, none⟩ = some (.slice ad md cd) ∧ w'.cell? ⟨w.heap.size + 1, 2, none⟩ = some (.slice ax mx cx)))) (by kernel_rfl) (by (try dsimp only); exact ⟨⟨r0, r1, r2⟩, ⟨s0, s1, s2⟩⟩) (fun hHeld => ?_)
    refine wpAnyH_take (i := 0) (v := ?_) rfl (by kernel_rfl) (by kernel_rfl) (by kernel_rfl) (fun _ _ _ h => h) (Or.inl ⟨by rfl, ?_⟩) (by assumption) ?_
    rotate_left
    · intro w hSw; (try dsimp only at hSw); go_simp <;> with_reducible rfl
    try simp only [Act.put, List.getElem_toArray, List.getElem_cons_zero, List.setIfInBounds_toArray, List.set_cons_zero, List.set_cons_succ]
    refine wpAnyH_take (i := 1) (v := ?_) rfl (by kernel_rfl) (by kernel_rfl) (by kernel_rfl) (fun _ _ _ h => h) (Or.inl ⟨by rfl, ?_⟩) (by assumption) ?_
    rotate_left
    · intro w hSw; (try dsimp only at hSw); go_simp <;> with_reducible rfl
    try simp only [Act.put, List.getElem_toArray, List.getElem_cons_succ, List.getElem_cons_zero, List.setIfInBounds_toArray, List.set_cons_zero, List.set_cons_succ]
    refine wpAnyH_ready (rs := [2]) (by kernel_rfl) (by simp) ?_
    refine AllReadyH.cons rfl (fun K hK => ?_) AllReadyH.nil
    go_simp
    (go_at_call 39; refine (HOK.out _ R0d.out.bel).mono ?_; rintro e w1 ⟨rfl, hb⟩; have R1 := Lib.hid (R0d.out.step hb); clear hb; clear r0 r1 r2 s0 s1 s2; obtain ⟨⟨r0, r1, r2⟩, -⟩ := R1.out.at (r := w.heap.size) (a := .int .i64 k) (b := .int .i64 p) (c := .int .i64 q) (by simp); obtain ⟨⟨s0, s1, s2⟩, -⟩ := R1.out.at (r := w.heap.size + 1) (a := .slice al ml cl) (b := .slice ad md cd) (c := .slice ax mx cx) (by simp))
    go_wp2_with fail
    refine hK.out _ _ (by (try dsimp only); exact ⟨⟨r0, r1, r2⟩, ⟨s0, s1, s2⟩⟩) (fun hHeld => ?_)
    clear hK K
    try simp only [Act.put, List.getElem_toArray, List.getElem_cons_succ, List.getElem_cons_zero, List.setIfInBounds_toArray, List.set_cons_zero, List.set_cons_succ]
    refine wpAnyH_take (i := 3) (v := ?_) rfl (by kernel_rfl) (by kernel_rfl) (by kernel_rfl) (fun _ _ _ h => h) (Or.inl ⟨by rfl, ?_⟩) (by assumption) ?_
    rotate_left
    · intro w hSw; (try dsimp only at hSw); go_simp <;> with_reducible rfl
    try simp only [Act.put, List.getElem_toArray, List.getElem_cons_succ, List.getElem_cons_zero, List.setIfInBounds_toArray, List.set_cons_zero, List.set_cons_succ]
    refine wpAnyH_take (i := 4) (v := ?_) rfl (by kernel_rfl) (by kernel_rfl) (by kernel_rfl) (fun _ _ _ h => h) (Or.inl ⟨by rfl, ?_⟩) (by assumption) ?_
    rotate_left
    · intro w hSw; (try dsimp only at hSw); go_simp <;> with_reducible rfl
    try simp only [Act.put, List.getElem_toArray, List.getElem_cons_succ, List.getElem_cons_zero, List.setIfInBounds_toArray, List.set_cons_zero, List.set_cons_succ]
    refine wpAnyH_take (i := 5) (v := undef) rfl (by kernel_rfl) (by kernel_rfl) (by kernel_rfl) (fun _ _ _ h => h) (Or.inr ⟨by rfl, rfl⟩) (by assumption) ?_
    try simp only [Act.put, List.getElem_toArray, List.getElem_cons_succ, List.getElem_cons_zero, List.setIfInBounds_toArray, List.set_cons_zero, List.set_cons_succ]
    refine wpAnyH_take (i := 6) (v := undef) rfl (by kernel_rfl) (by kernel_rfl) (by kernel_rfl) (fun _ _ _ h => h) (Or.inr ⟨by rfl, rfl⟩) (by assumption) ?_
    try simp only [Act.put, List.getElem_toArray, List.getElem_cons_succ, List.getElem_cons_zero, List.setIfInBounds_toArray, List.set_cons_zero, List.set_cons_succ]
    refine wpAnyH_take (i := 7) (v := undef) rfl (by kernel_rfl) (by kernel_rfl) (by kernel_rfl) (fun _ _ _ h => h) (Or.inr ⟨by rfl, rfl⟩) (by assumption) ?_
    try simp only [Act.put, List.getElem_toArray, List.getElem_cons_succ, List.getElem_cons_zero, List.setIfInBounds_toArray, List.set_cons_zero, List.set_cons_succ]
    refine wpAnyH_take (i := 8) (v := undef) rfl (by kernel_rfl) (by kernel_rfl) (by kernel_rfl) (fun _ _ _ h => h) (Or.inr ⟨by rfl, rfl⟩) (by assumption) ?_
    try simp only [Act.put, List.getElem_toArray, List.getElem_cons_succ, List.getElem_cons_zero, List.setIfInBounds_toArray, List.set_cons_zero, List.set_cons_succ]
    refine wpAnyH_take (i := 9) (v := undef) rfl (by kernel_rfl) (by kernel_rfl) (by kernel_rfl) (fun _ _ _ h => h) (Or.inr ⟨by rfl, rfl⟩) (by assumption) ?_
    try simp only [Act.put, List.getElem_toArray, List.getElem_cons_succ, List.getElem_cons_zero, List.setIfInBounds_toArray, List.set_cons_zero, List.set_cons_succ]
    refine wpAnyH_take (i := 10) (v := undef) rfl (by kernel_rfl) (by kernel_rfl) (by kernel_rfl) (fun _ _ _ h => h) (Or.inr ⟨by rfl, rfl⟩) (by assumption) ?_
    try simp only [Act.put, List.getElem_toArray, List.getElem_cons_succ, List.getElem_cons_zero, List.setIfInBounds_toArray, List.set_cons_zero, List.set_cons_succ]
    refine wpAnyH_take (i := 11) (v := undef) rfl (by kernel_rfl) (by kernel_rfl) (by kernel_rfl) (fun _ _ _ h => h) (Or.inr ⟨by rfl, rfl⟩) (by assumption) ?_
    try simp only [Act.put, List.getElem_toArray, List.getElem_cons_succ, List.getElem_cons_zero, List.setIfInBounds_toArray, List.set_cons_zero, List.set_cons_succ]
    refine wpAnyH_take (i := 12) (v := ?_) rfl (by kernel_rfl) (by kernel_rfl) (by kernel_rfl) (fun _ _ _ h => h) (Or.inl ⟨by rfl, ?_⟩) (by assumption) ?_
    rotate_left
    · intro w hSw; (try dsimp only at hSw); go_simp <;> with_reducible rfl
    try simp only [Act.put, List.getElem_toArray, List.getElem_cons_succ, List.getElem_cons_zero, List.setIfInBounds_toArray, List.set_cons_zero, List.set_cons_succ]
    refine wpAnyH_done (by kernel_rfl) ?_ _
    obtain ⟨⟨t0, t1, t2⟩, f0, f1, f2⟩ := R1.out.at (r := w.heap.size + 1 + 1) (a := nilV) (b := nilV) (c := nilV) (by simp)
    go_wp2
    refine bodyPost_ret (v := .tuple #[tenV nilV nilV nilV, .bool false]) (by simp [results, Tryz.results83, go_sem, t0, t1, t2]) rfl ?_
    exact NewTen2.nils (((R1.out.bel.setCell (by simp; omega) _).setCell (by simp; omega) _).setCell (by simp; omega) _)
  | true =>
    have hax := (tensorB_axes HTB.out.symm).1
    have HLN : Hid (L.length ≤ 12) := Lib.hid hax.1
    have HSL := Lib.hid (fun (w1 : World) (hb : Below w.heap.size w w1) => sorted_impl (HT.out.below hb HB.out).l (Nat.le_trans HB.out hb.size) (by have := HLN.out; omega))
    have HEQ : Hid ((sortL labels == sortL L) = sb) := Lib.hid (by rw [HSB.out]; exact sort_same hax.2.2.2.2)
    have HSLN : Hid ((sortL labels).length = labels.length ∧ (sortL L).length = L.length) := Lib.hid ⟨sortL_len _, sortL_len _⟩
    obtain ⟨sg, hsg⟩ : ∃ s, s = sortL labels := ⟨_, rfl⟩
    obtain ⟨sl, hsl⟩ : ∃ s, s = sortL L := ⟨_, rfl⟩
    rw [← hsg, ← hsl] at HEQ HSLN
    rw [← hsg] at HSG
    rw [← hsl] at HSL
    clear hax hsg hsl
    cases sb with
    | false =>
      obtain rfl : pb = false := by rw [HPB.out]; rfl
      simp only [Bool.false_eq_true, if_false]
      clear HPE
      go_enter Tryz.func83, Tryz.ntmps83
      go_wp2
      refine wp_region_held_drew (S := (fun w' => (w'.cell? ⟨w.heap.size, 0, none⟩ = some (.int .i64 k) ∧ w'.cell? ⟨w.heap.size, 1, none⟩ = some (.int .i64 p) ∧ w'.cell? ⟨w.heap.size, 2, none⟩ = some (.int .i64 q)) ∧ (w'.cell? ⟨w.heap.size + 1, 0, none⟩ = some (.slice al ml cl) ∧ w'.cell? ⟨w.heap.size + 1, 1, none⟩ = some (.slice ad md cd) ∧ w'.cell? ⟨w.heap.size + 1, 2, none⟩ = some (.slice ax mx cx)))) (by kernel_rfl) (by (try dsimp only); exact ⟨⟨r0, r1, r2⟩, ⟨s0, s1, s2⟩⟩) (fun hHeld => ?_)
      refine wpAnyH_take (i := 0) (v := ?_) rfl (by kernel_rfl) (by kernel_rfl) (by kernel_rfl) (fun _ _ _ h => h) (Or.inl ⟨by rfl, ?_⟩) (by assumption) ?_
      rotate_left
      · intro w hSw; (try dsimp only at hSw); go_simp <;> with_reducible rfl
      try simp only [Act.put, List.getElem_toArray, List.getElem_cons_zero, List.setIfInBounds_toArray, List.set_cons_zero, List.set_cons_succ]
      refine wpAnyH_take (i := 1) (v := ?_) rfl (by kernel_rfl) (by kernel_rfl) (by kernel_rfl) (fun _ _ _ h => h) (Or.inl ⟨by rfl, ?_⟩) (by assumption) ?_
      rotate_left
      · intro w hSw; (try dsimp only at hSw); go_simp <;> with_reducible rfl
      try simp only [Act.put, List.getElem_toArray, List.getElem_cons_succ, List.getElem_cons_zero, List.setIfInBounds_toArray, List.set_cons_zero, List.set_cons_succ]
      refine wpAnyH_ready (rs := [2]) (by kernel_rfl) (by simp) ?_
      refine AllReadyH.cons rfl (fun K hK => ?_) AllReadyH.nil
      go_simp
      (go_at_call 39; refine (HOK.out _ R0d.out.bel).mono ?_; rintro e w1 ⟨rfl, hb⟩; have R1 := Lib.hid (R0d.out.step hb); clear hb; clear r0 r1 r2 s0 s1 s2; obtain ⟨⟨r0, r1, r2⟩, -⟩ := R1.out.at (r := w.heap.size) (a := .int .i64 k) (b := .int .i64 p) (c := .int .i64 q) (by simp); obtain ⟨⟨s0, s1, s2⟩, -⟩ := R1.out.at (r := w.heap.size + 1) (a := .slice al ml cl) (b := .slice ad md cd) (c := .slice ax mx cx) (by simp))
      go_wp2_with fail
      refine hK.out _ _ (by (try dsimp only); exact ⟨⟨r0, r1, r2⟩, ⟨s0, s1, s2⟩⟩) (fun hHeld => ?_)
      clear hK K
      try simp only [Act.put, List.getElem_toArray, List.getElem_cons_succ, List.getElem_cons_zero, List.setIfInBounds_toArray, List.set_cons_zero, List.set_cons_succ]
      refine wpAnyH_take (i := 3) (v := ?_) rfl (by kernel_rfl) (by kernel_rfl) (by kernel_rfl) (fun _ _ _ h => h) (Or.inl ⟨by rfl, ?_⟩) (by assumption) ?_
      rotate_left
      · intro w hSw; (try dsimp only at hSw); go_simp <;> with_reducible rfl
      try simp only [Act.put, List.getElem_toArray, List.getElem_cons_succ, List.getElem_cons_zero, List.setIfInBounds_toArray, List.set_cons_zero, List.set_cons_succ]
      refine wpAnyH_take (i := 4) (v := ?_) rfl (by kernel_rfl) (by kernel_rfl) (by kernel_rfl) (fun _ _ _ h => h) (Or.inl ⟨by rfl, ?_⟩) (by assumption) ?_
      rotate_left
      · intro w hSw; (try dsimp only at hSw); go_simp <;> with_reducible rfl
      try simp only [Act.put, List.getElem_toArray, List.getElem_cons_succ, List.getElem_cons_zero, List.setIfInBounds_toArray, List.set_cons_zero, List.set_cons_succ]
      refine wpAnyH_take (i := 5) (v := ?_) rfl (by kernel_rfl) (by kernel_rfl) (by kernel_rfl) (fun _ _ _ h => h) (Or.inl ⟨by rfl, ?_⟩) (by assumption) ?_
      rotate_left
      · intro w hSw; (try dsimp only at hSw); go_simp <;> with_reducible rfl
      try simp only [Act.put, List.getElem_toArray, List.getElem_cons_succ, List.getElem_cons_zero, List.setIfInBounds_toArray, List.set_cons_zero, List.set_cons_succ]
      refine wpAnyH_take (i := 7) (v := ?_) rfl (by kernel_rfl) (by kernel_rfl) (by kernel_rfl) (fun _ _ _ h => h) (Or.inl ⟨by rfl, ?_⟩) (by assumption) ?_
      rotate_left
      · intro w hSw; (try dsimp only at hSw); go_simp <;> with_reducible rfl
      try simp only [Act.put, List.getElem_toArray, List.getElem_cons_succ, List.getElem_cons_zero, List.setIfInBounds_toArray, List.set_cons_zero, List.set_cons_succ]
      refine wpAnyH_take (i := 8) (v := ?_) rfl (by kernel_rfl) (by kernel_rfl) (by kernel_rfl) (fun _ _ _ h => h) (Or.inl ⟨by rfl, ?_⟩) (by assumption) ?_
      rotate_left
      · intro w hSw; (try dsimp only at hSw); go_simp <;> with_reducible rfl
      try simp only [Act.put, List.getElem_toArray, List.getElem_cons_succ, List.getElem_cons_zero, List.setIfInBounds_toArray, List.set_cons_zero, List.set_cons_succ]
      refine wpAnyH_ready (rs := [6]) (by kernel_rfl) (by simp) ?_
      refine AllReadyH.cons rfl (fun K hK => ?_) AllReadyH.nil
      go_simp
      (go_at_call 85; first | (have _t := TK1; refine (HSG.out _ R1.out.bel).mono ?_; rintro e w2 ⟨v1, rfl, ho, hb⟩; have R2 := Lib.hid (R1.out.new hb ho); obtain ⟨g1, j1, rfl, -⟩ := ints_form ho.rd; clear hb ho _t TK1; clear r0 r1 r2 s0 s1 s2; obtain ⟨⟨r0, r1, r2⟩, -⟩ := R2.out.at (r := w.heap.size) (a := .int .i64 k) (b := .int .i64 p) (c := .int .i64 q) (by simp); obtain ⟨⟨s0, s1, s2⟩, -⟩ := R2.out.at (r := w.heap.size + 1) (a := .slice al ml cl) (b := .slice ad md cd) (c := .slice ax mx cx) (by simp)) | (have _t := TK2; refine (HSL.out _ R2.out.bel).mono ?_; rintro e w3 ⟨v2, rfl, ho, hb⟩; have R3 := Lib.hid (R2.out.new hb ho); obtain ⟨g2, j2, rfl, -⟩ := ints_form ho.rd; clear hb ho _t TK2; clear r0 r1 r2 s0 s1 s2; obtain ⟨⟨r0, r1, r2⟩, -⟩ := R3.out.at (r := w.heap.size) (a := .int .i64 k) (b := .int .i64 p) (c := .int .i64 q) (by simp); obtain ⟨⟨s0, s1, s2⟩, -⟩ := R3.out.at (r := w.heap.size + 1) (a := .slice al ml cl) (b := .slice ad md cd) (c := .slice ax mx cx) (by simp)))
      go_wp2_with fail
      refine hK.out _ _ (by (try dsimp only); exact ⟨⟨r0, r1, r2⟩, ⟨s0, s1, s2⟩⟩) (fun hHeld => ?_)
      clear hK K
      try simp only [Act.put, List.getElem_toArray, List.getElem_cons_succ, List.getElem_cons_zero, List.setIfInBounds_toArray, List.set_cons_zero, List.set_cons_succ]
      refine wpAnyH_ready (rs := [9]) (by kernel_rfl) (by simp) ?_
      refine AllReadyH.cons rfl (fun K hK => ?_) AllReadyH.nil
      go_simp
      (go_at_call 85; first | (have _t := TK1; refine (HSG.out _ R1.out.bel).mono ?_; rintro e w2 ⟨v1, rfl, ho, hb⟩; have R2 := Lib.hid (R1.out.new hb ho); obtain ⟨g1, j1, rfl, -⟩ := ints_form ho.rd; clear hb ho _t TK1; clear r0 r1 r2 s0 s1 s2; obtain ⟨⟨r0, r1, r2⟩, -⟩ := R2.out.at (r := w.heap.size) (a := .int .i64 k) (b := .int .i64 p) (c := .int .i64 q) (by simp); obtain ⟨⟨s0, s1, s2⟩, -⟩ := R2.out.at (r := w.heap.size + 1) (a := .slice al ml cl) (b := .slice ad md cd) (c := .slice ax mx cx) (by simp)) | (have _t := TK2; refine (HSL.out _ R2.out.bel).mono ?_; rintro e w3 ⟨v2, rfl, ho, hb⟩; have R3 := Lib.hid (R2.out.new hb ho); obtain ⟨g2, j2, rfl, -⟩ := ints_form ho.rd; clear hb ho _t TK2; clear r0 r1 r2 s0 s1 s2; obtain ⟨⟨r0, r1, r2⟩, -⟩ := R3.out.at (r := w.heap.size) (a := .int .i64 k) (b := .int .i64 p) (c := .int .i64 q) (by simp); obtain ⟨⟨s0, s1, s2⟩, -⟩ := R3.out.at (r := w.heap.size + 1) (a := .slice al ml cl) (b := .slice ad md cd) (c := .slice ax mx cx) (by simp)))
      go_wp2_with fail
      refine hK.out _ _ (by (try dsimp only); exact ⟨⟨r0, r1, r2⟩, ⟨s0, s1, s2⟩⟩) (fun hHeld => ?_)
      clear hK K
      try simp only [Act.put, List.getElem_toArray, List.getElem_cons_succ, List.getElem_cons_zero, List.setIfInBounds_toArray, List.set_cons_zero, List.set_cons_succ]
      refine wpAnyH_ready (rs := [10]) (by kernel_rfl) (by simp) ?_
      refine AllReadyH.cons rfl (fun K hK => ?_) AllReadyH.nil
      go_simp
      (go_at_call 51; refine (equal_any (R3.out.rd (v := .slice g1 sg.length j1) (xs := sg) (by simp)) (R3.out.rd (v := .slice g2 sl.length j2) (xs := sl) (by simp)) (by rw [HSLN.out.1]; omega) (by rw [HSLN.out.2]; have := HLN.out; omega)).mono ?_; rw [HEQ.out]; rintro e w4 ⟨rfl, hb⟩; have R4 := Lib.hid (R3.out.step hb); clear hb; clear r0 r1 r2 s0 s1 s2; obtain ⟨⟨r0, r1, r2⟩, -⟩ := R4.out.at (r := w.heap.size) (a := .int .i64 k) (b := .int .i64 p) (c := .int .i64 q) (by simp); obtain ⟨⟨s0, s1, s2⟩, -⟩ := R4.out.at (r := w.heap.size + 1) (a := .slice al ml cl) (b := .slice ad md cd) (c := .slice ax mx cx) (by simp))
      go_wp2_with fail
      refine hK.out _ _ (by (try dsimp only); exact ⟨⟨r0, r1, r2⟩, ⟨s0, s1, s2⟩⟩) (fun hHeld => ?_)
      clear hK K
      try simp only [Act.put, List.getElem_toArray, List.getElem_cons_succ, List.getElem_cons_zero, List.setIfInBounds_toArray, List.set_cons_zero, List.set_cons_succ]
      refine wpAnyH_take (i := 11) (v := ?_) rfl (by kernel_rfl) (by kernel_rfl) (by kernel_rfl) (fun _ _ _ h => h) (Or.inl ⟨by rfl, ?_⟩) (by assumption) ?_
      rotate_left
      · intro w hSw; (try dsimp only at hSw); go_simp <;> with_reducible rfl
      try simp only [Act.put, List.getElem_toArray, List.getElem_cons_succ, List.getElem_cons_zero, List.setIfInBounds_toArray, List.set_cons_zero, List.set_cons_succ]
      refine wpAnyH_take (i := 12) (v := ?_) rfl (by kernel_rfl) (by kernel_rfl) (by kernel_rfl) (fun _ _ _ h => h) (Or.inl ⟨by rfl, ?_⟩) (by assumption) ?_
      rotate_left
      · intro w hSw; (try dsimp only at hSw); go_simp <;> with_reducible rfl
      try simp only [Act.put, List.getElem_toArray, List.getElem_cons_succ, List.getElem_cons_zero, List.setIfInBounds_toArray, List.set_cons_zero, List.set_cons_succ]
      refine wpAnyH_done (by kernel_rfl) ?_ _
      obtain ⟨⟨t0, t1, t2⟩, f0, f1, f2⟩ := R4.out.at (r := w.heap.size + 1 + 1) (a := nilV) (b := nilV) (c := nilV) (by simp)
      go_wp2
      refine bodyPost_ret (v := .tuple #[tenV nilV nilV nilV, .bool false]) (by simp [results, Tryz.results83, go_sem, t0, t1, t2]) rfl ?_
      exact NewTen2.nils (((R4.out.bel.setCell (by simp; omega) _).setCell (by simp; omega) _).setCell (by simp; omega) _)
    | true =>
      obtain rfl : pb = true := by rw [HPB.out]; rfl
      simp only [if_true]
      have HQ := Lib.hid (fun (w1 : World) (hb : Below w.heap.size w w1) => HPE.out w1 hb HTB.out.symm (setV_true.1 HSB.out.symm))
      clear HPE
      go_enter Tryz.func83, Tryz.ntmps83
      go_wp2
      refine wp_region_held_drew (S := (fun w' => (w'.cell? ⟨w.heap.size, 0, none⟩ = some (.int .i64 k) ∧ w'.cell? ⟨w.heap.size, 1, none⟩ = some (.int .i64 p) ∧ w'.cell? ⟨w.heap.size, 2, none⟩ = some (.int .i64 q)) ∧ (w'.cell? ⟨w.heap.size + 1, 0, none⟩ = some (.slice al ml cl) ∧ w'.cell? ⟨w.heap.size + 1, 1, none⟩ = some (.slice ad md cd) ∧ w'.cell? ⟨w.heap.size + 1, 2, none⟩ = some (.slice ax mx cx)))) (by kernel_rfl) (by (try dsimp only); exact ⟨⟨r0, r1, r2⟩, ⟨s0, s1, s2⟩⟩) (fun hHeld => ?_)
      refine wpAnyH_take (i := 0) (v := ?_) rfl (by kernel_rfl) (by kernel_rfl) (by kernel_rfl) (fun _ _ _ h => h) (Or.inl ⟨by rfl, ?_⟩) (by assumption) ?_
      rotate_left
      · intro w hSw; (try dsimp only at hSw); go_simp <;> with_reducible rfl
      try simp only [Act.put, List.getElem_toArray, List.getElem_cons_zero, List.setIfInBounds_toArray, List.set_cons_zero, List.set_cons_succ]
      refine wpAnyH_take (i := 1) (v := ?_) rfl (by kernel_rfl) (by kernel_rfl) (by kernel_rfl) (fun _ _ _ h => h) (Or.inl ⟨by rfl, ?_⟩) (by assumption) ?_
      rotate_left
      · intro w hSw; (try dsimp only at hSw); go_simp <;> with_reducible rfl
      try simp only [Act.put, List.getElem_toArray, List.getElem_cons_succ, List.getElem_cons_zero, List.setIfInBounds_toArray, List.set_cons_zero, List.set_cons_succ]
      refine wpAnyH_ready (rs := [2]) (by kernel_rfl) (by simp) ?_
      refine AllReadyH.cons rfl (fun K hK => ?_) AllReadyH.nil
      go_simp
      (go_at_call 39; refine (HOK.out _ R0d.out.bel).mono ?_; rintro e w1 ⟨rfl, hb⟩; have R1 := Lib.hid (R0d.out.step hb); clear hb; clear r0 r1 r2 s0 s1 s2; obtain ⟨⟨r0, r1, r2⟩, -⟩ := R1.out.at (r := w.heap.size) (a := .int .i64 k) (b := .int .i64 p) (c := .int .i64 q) (by simp); obtain ⟨⟨s0, s1, s2⟩, -⟩ := R1.out.at (r := w.heap.size + 1) (a := .slice al ml cl) (b := .slice ad md cd) (c := .slice ax mx cx) (by simp))
      go_wp2_with fail
      refine hK.out _ _ (by (try dsimp only); exact ⟨⟨r0, r1, r2⟩, ⟨s0, s1, s2⟩⟩) (fun hHeld => ?_)
      clear hK K
      try simp only [Act.put, List.getElem_toArray, List.getElem_cons_succ, List.getElem_cons_zero, List.setIfInBounds_toArray, List.set_cons_zero, List.set_cons_succ]
      refine wpAnyH_take (i := 3) (v := ?_) rfl (by kernel_rfl) (by kernel_rfl) (by kernel_rfl) (fun _ _ _ h => h) (Or.inl ⟨by rfl, ?_⟩) (by assumption) ?_
      rotate_left
      · intro w hSw; (try dsimp only at hSw); go_simp <;> with_reducible rfl
      try simp only [Act.put, List.getElem_toArray, List.getElem_cons_succ, List.getElem_cons_zero, List.setIfInBounds_toArray, List.set_cons_zero, List.set_cons_succ]
      refine wpAnyH_take (i := 4) (v := ?_) rfl (by kernel_rfl) (by kernel_rfl) (by kernel_rfl) (fun _ _ _ h => h) (Or.inl ⟨by rfl, ?_⟩) (by assumption) ?_
      rotate_left
      · intro w hSw; (try dsimp only at hSw); go_simp <;> with_reducible rfl
      try simp only [Act.put, List.getElem_toArray, List.getElem_cons_succ, List.getElem_cons_zero, List.setIfInBounds_toArray, List.set_cons_zero, List.set_cons_succ]
      refine wpAnyH_take (i := 5) (v := ?_) rfl (by kernel_rfl) (by kernel_rfl) (by kernel_rfl) (fun _ _ _ h => h) (Or.inl ⟨by rfl, ?_⟩) (by assumption) ?_
      rotate_left
      · intro w hSw; (try dsimp only at hSw); go_simp <;> with_reducible rfl
      try simp only [Act.put, List.getElem_toArray, List.getElem_cons_succ, List.getElem_cons_zero, List.setIfInBounds_toArray, List.set_cons_zero, List.set_cons_succ]
      refine wpAnyH_take (i := 7) (v := ?_) rfl (by kernel_rfl) (by kernel_rfl) (by kernel_rfl) (fun _ _ _ h => h) (Or.inl ⟨by rfl, ?_⟩) (by assumption) ?_
      rotate_left
      · intro w hSw; (try dsimp only at hSw); go_simp <;> with_reducible rfl
      try simp only [Act.put, List.getElem_toArray, List.getElem_cons_succ, List.getElem_cons_zero, List.setIfInBounds_toArray, List.set_cons_zero, List.set_cons_succ]
      refine wpAnyH_take (i := 8) (v := ?_) rfl (by kernel_rfl) (by kernel_rfl) (by kernel_rfl) (fun _ _ _ h => h) (Or.inl ⟨by rfl, ?_⟩) (by assumption) ?_
      rotate_left
      · intro w hSw; (try dsimp only at hSw); go_simp <;> with_reducible rfl
      try simp only [Act.put, List.getElem_toArray, List.getElem_cons_succ, List.getElem_cons_zero, List.setIfInBounds_toArray, List.set_cons_zero, List.set_cons_succ]
      refine wpAnyH_ready (rs := [6]) (by kernel_rfl) (by simp) ?_
      refine AllReadyH.cons rfl (fun K hK => ?_) AllReadyH.nil
      go_simp
      (go_at_call 85; first | (have _t := TK1; refine (HSG.out _ R1.out.bel).mono ?_; rintro e w2 ⟨v1, rfl, ho, hb⟩; have R2 := Lib.hid (R1.out.new hb ho); obtain ⟨g1, j1, rfl, -⟩ := ints_form ho.rd; clear hb ho _t TK1; clear r0 r1 r2 s0 s1 s2; obtain ⟨⟨r0, r1, r2⟩, -⟩ := R2.out.at (r := w.heap.size) (a := .int .i64 k) (b := .int .i64 p) (c := .int .i64 q) (by simp); obtain ⟨⟨s0, s1, s2⟩, -⟩ := R2.out.at (r := w.heap.size + 1) (a := .slice al ml cl) (b := .slice ad md cd) (c := .slice ax mx cx) (by simp)) | (have _t := TK2; refine (HSL.out _ R2.out.bel).mono ?_; rintro e w3 ⟨v2, rfl, ho, hb⟩; have R3 := Lib.hid (R2.out.new hb ho); obtain ⟨g2, j2, rfl, -⟩ := ints_form ho.rd; clear hb ho _t TK2; clear r0 r1 r2 s0 s1 s2; obtain ⟨⟨r0, r1, r2⟩, -⟩ := R3.out.at (r := w.heap.size) (a := .int .i64 k) (b := .int .i64 p) (c := .int .i64 q) (by simp); obtain ⟨⟨s0, s1, s2⟩, -⟩ := R3.out.at (r := w.heap.size + 1) (a := .slice al ml cl) (b := .slice ad md cd) (c := .slice ax mx cx) (by simp)))
      go_wp2_with fail
      refine hK.out _ _ (by (try dsimp only); exact ⟨⟨r0, r1, r2⟩, ⟨s0, s1, s2⟩⟩) (fun hHeld => ?_)
      clear hK K
      try simp only [Act.put, List.getElem_toArray, List.getElem_cons_succ, List.getElem_cons_zero, List.setIfInBounds_toArray, List.set_cons_zero, List.set_cons_succ]
      refine wpAnyH_ready (rs := [9]) (by kernel_rfl) (by simp) ?_
      refine AllReadyH.cons rfl (fun K hK => ?_) AllReadyH.nil
      go_simp
      (go_at_call 85; first | (have _t := TK1; refine (HSG.out _ R1.out.bel).mono ?_; rintro e w2 ⟨v1, rfl, ho, hb⟩; have R2 := Lib.hid (R1.out.new hb ho); obtain ⟨g1, j1, rfl, -⟩ := ints_form ho.rd; clear hb ho _t TK1; clear r0 r1 r2 s0 s1 s2; obtain ⟨⟨r0, r1, r2⟩, -⟩ := R2.out.at (r := w.heap.size) (a := .int .i64 k) (b := .int .i64 p) (c := .int .i64 q) (by simp); obtain ⟨⟨s0, s1, s2⟩, -⟩ := R2.out.at (r := w.heap.size + 1) (a := .slice al ml cl) (b := .slice ad md cd) (c := .slice ax mx cx) (by simp)) | (have _t := TK2; refine (HSL.out _ R2.out.bel).mono ?_; rintro e w3 ⟨v2, rfl, ho, hb⟩; have R3 := Lib.hid (R2.out.new hb ho); obtain ⟨g2, j2, rfl, -⟩ := ints_form ho.rd; clear hb ho _t TK2; clear r0 r1 r2 s0 s1 s2; obtain ⟨⟨r0, r1, r2⟩, -⟩ := R3.out.at (r := w.heap.size) (a := .int .i64 k) (b := .int .i64 p) (c := .int .i64 q) (by simp); obtain ⟨⟨s0, s1, s2⟩, -⟩ := R3.out.at (r := w.heap.size + 1) (a := .slice al ml cl) (b := .slice ad md cd) (c := .slice ax mx cx) (by simp)))
      go_wp2_with fail
      refine hK.out _ _ (by (try dsimp only); exact ⟨⟨r0, r1, r2⟩, ⟨s0, s1, s2⟩⟩) (fun hHeld => ?_)
      clear hK K
      try simp only [Act.put, List.getElem_toArray, List.getElem_cons_succ, List.getElem_cons_zero, List.setIfInBounds_toArray, List.set_cons_zero, List.set_cons_succ]
      refine wpAnyH_ready (rs := [10]) (by kernel_rfl) (by simp) ?_
      refine AllReadyH.cons rfl (fun K hK => ?_) AllReadyH.nil
      go_simp
      (go_at_call 51; refine (equal_any (R3.out.rd (v := .slice g1 sg.length j1) (xs := sg) (by simp)) (R3.out.rd (v := .slice g2 sl.length j2) (xs := sl) (by simp)) (by rw [HSLN.out.1]; omega) (by rw [HSLN.out.2]; have := HLN.out; omega)).mono ?_; rw [HEQ.out]; rintro e w4 ⟨rfl, hb⟩; have R4 := Lib.hid (R3.out.step hb); clear hb; clear r0 r1 r2 s0 s1 s2; obtain ⟨⟨r0, r1, r2⟩, -⟩ := R4.out.at (r := w.heap.size) (a := .int .i64 k) (b := .int .i64 p) (c := .int .i64 q) (by simp); obtain ⟨⟨s0, s1, s2⟩, -⟩ := R4.out.at (r := w.heap.size + 1) (a := .slice al ml cl) (b := .slice ad md cd) (c := .slice ax mx cx) (by simp))
      go_wp2_with fail
      refine hK.out _ _ (by (try dsimp only); exact ⟨⟨r0, r1, r2⟩, ⟨s0, s1, s2⟩⟩) (fun hHeld => ?_)
      clear hK K
      try simp only [Act.put, List.getElem_toArray, List.getElem_cons_succ, List.getElem_cons_zero, List.setIfInBounds_toArray, List.set_cons_zero, List.set_cons_succ]
      refine wpAnyH_take (i := 11) (v := ?_) rfl (by kernel_rfl) (by kernel_rfl) (by kernel_rfl) (fun _ _ _ h => h) (Or.inl ⟨by rfl, ?_⟩) (by assumption) ?_
      rotate_left
      · intro w hSw; (try dsimp only at hSw); go_simp <;> with_reducible rfl
      try simp only [Act.put, List.getElem_toArray, List.getElem_cons_succ, List.getElem_cons_zero, List.setIfInBounds_toArray, List.set_cons_zero, List.set_cons_succ]
      refine wpAnyH_take (i := 12) (v := ?_) rfl (by kernel_rfl) (by kernel_rfl) (by kernel_rfl) (fun _ _ _ h => h) (Or.inl ⟨by rfl, ?_⟩) (by assumption) ?_
      rotate_left
      · intro w hSw; (try dsimp only at hSw); go_simp <;> with_reducible rfl
      try simp only [Act.put, List.getElem_toArray, List.getElem_cons_succ, List.getElem_cons_zero, List.setIfInBounds_toArray, List.set_cons_zero, List.set_cons_succ]
      refine wpAnyH_done (by kernel_rfl) ?_ _
      go_wp2_with fail
      refine (HQ.out _ R4.out.bel).mono ?_
      clear r0 r1 r2 s0 s1 s2
      rintro e w5 ⟨l', d', x', rfl, ho, hb⟩
      have R5 := Lib.hid (R4.out.step hb)
      obtain ⟨a1, c1, rfl, -⟩ := ints_form ho.rows.1.rd
      obtain ⟨a2, c2, rfl, -⟩ := ints_form ho.rows.2.1.rd
      obtain ⟨a3, c3, rfl, -⟩ := ints_form ho.rows.2.2.rd
      have lt1 := (R4.out.bx (w.heap.size + 1 + 1, nilV, nilV, nilV) (by simp)).lt
      have hz1 := R4.out.bel.size
      obtain ⟨m1, hm1⟩ : ∃ m, m = labels.length := ⟨_, rfl⟩
      obtain ⟨m2, hm2⟩ : ∃ m, m = (dimsVia L D labels).length := ⟨_, rfl⟩
      obtain ⟨m3, hm3⟩ : ∃ m, m = (permDataL k q L D X labels).length := ⟨_, rfl⟩
      rw [← hm1, ← hm2, ← hm3] at ho ⊢
      have HO := Lib.hid (ho.set3 lt1 (.slice a1 m1 c1) (.slice a2 m2 c2) (.slice a3 m3 c3))
      clear hb ho hm1 hm2 hm3
      obtain ⟨⟨t0, t1, t2⟩, f0, f1, f2⟩ := R5.out.at (r := w.heap.size + 1 + 1) (a := nilV) (b := nilV) (c := nilV) (by simp)
      go_wp2
      refine bodyPost_ret (v := .tuple #[tenV (.slice a1 m1 c1) (.slice a2 m2 c2) (.slice a3 m3 c3), .bool true]) (by simp [results, Tryz.results83, go_sem, t0, t1, t2]) rfl ?_
      exact ⟨_, _, _, rfl, HO.out.wide hz1 (by simp) (by simp), ((R5.out.bel.setCell (by simp; omega) _).setCell (by simp; omega) _).setCell (by simp; omega) _⟩
end Go.Proofs.YtceidekfcnmeaaaGreat
