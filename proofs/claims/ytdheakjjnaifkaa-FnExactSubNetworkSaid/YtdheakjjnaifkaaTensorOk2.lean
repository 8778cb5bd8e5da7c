
/- spec.TensorOk. -/
import Derived.Test.YtdheakjjnaifkaaTensorOk
import Derived.Deep.DeepCutAuto
import Derived.Deep.CutRange
namespace Go.Proofs.Ytdheakjjnaifkaa
set_option maxRecDepth 20000
open Go.RowKit

/-- A ring in block r, a tensor in block t. -/
abbrev ringTen (r t : Nat) (k p n : Int) (lv dv xv : Value) : List (Nat × Nat × Value) := [(r, 0, .int .i64 k), (r, 1, .int .i64 p), (r, 2, .int .i64 n), (t, 0, lv), (t, 1, dv), (t, 2, xv)]
theorem Held.swap3 {w0 w : World} {a b c d e f : Nat × Nat × Value} {S : List (Nat × Nat × Value)} (h : Held w0 w (a :: b :: c :: d :: e :: f :: S)) : Held w0 w (d :: e :: f :: a :: b :: c :: S) :=
  ⟨h.1, ⟨h.2.1.2.2.2.1, h.2.1.2.2.2.2.1, h.2.1.2.2.2.2.2.1, h.2.1.1, h.2.1.2.1, h.2.1.2.2.1, h.2.1.2.2.2.2.2.2⟩, fun x hx => h.2.2 x (by simp only [List.mem_cons] at hx ⊢; rcases hx with h | h | h | h | h | h | h <;> simp [h])⟩
theorem Held.ringTen (w : World) (k p n : Int) (lv dv xv : Value) (TR TT : TypeId) :
    Held w ((w.alloc (.cells #[.int .i64 k, .int .i64 p, .int .i64 n] TR)).alloc (.cells #[lv, dv, xv] TT)) (ringTen w.heap.size (w.heap.size + 1) k p n lv dv xv) := by
  have h := ((Held.refl w).box3 (.int .i64 k) (.int .i64 p) (.int .i64 n) TR).box3 lv dv xv TT
  simp only [World.size_alloc] at h
  exact h.swap3

theorem tensorB_ring {k p n : Int} {L D X : List Int} (h : ringB k p n = false) : tensorB k p n L D X = false := by simp [tensorB, h]
theorem tensorB_size {k p n : Int} {L D X : List Int} (h : sizeI L D < 0) : tensorB k p n L D X = false := by
  unfold tensorB
  rw [decide_eq_false (by omega : ¬ 0 ≤ sizeI L D)]
  simp
theorem tensorB_len {k p n : Int} {L D X : List Int} (h : (X.length : Int) ≠ sizeI L D * widthI k n) : tensorB k p n L D X = false := by
  unfold tensorB
  rw [decide_eq_false h]
  simp
theorem tensorB_at {k p n : Int} {L D X : List Int} {i : Nat} {x : Int} (hx : X[i]? = some x) (h : inB x 0 (topI k p n) = false) : tensorB k p n L D X = false := by
  have ha : (X.all fun x => decide (0 ≤ x) && decide (x ≤ topI k p n)) = false := by
    cases hb : (X.all fun x => decide (0 ≤ x) && decide (x ≤ topI k p n)) with
    | false => rfl
    | true =>
      have := List.all_eq_true.1 hb x (List.mem_of_getElem? hx)
      rw [show inB x 0 (topI k p n) = (decide (0 ≤ x) && decide (x ≤ topI k p n)) from rfl] at h
      rw [this] at h; cases h
  unfold tensorB
  rw [ha]
  simp
theorem tensorB_yes {k p n : Int} {L D X : List Int} (h1 : ringB k p n = true) (h2 : 0 ≤ sizeI L D) (h3 : (X.length : Int) = sizeI L D * widthI k n) (h4 : Within (topI k p n) X) : tensorB k p n L D X = true := by
  unfold tensorB
  rw [h1, decide_eq_true h2, decide_eq_true h3, List.all_eq_true.2 (fun x hx => by simpa using h4 x hx)]
  rfl
theorem tensorB_inv {k p n : Int} {L D X : List Int} (h : tensorB k p n L D X = true) : ringB k p n = true ∧ 0 ≤ sizeI L D ∧ (X.length : Int) = sizeI L D * widthI k n ∧ Within (topI k p n) X := by
  unfold tensorB at h
  simp only [Bool.and_eq_true, decide_eq_true_eq, List.all_eq_true] at h
  exact ⟨h.1.1.1, h.1.1.2, h.1.2, fun x hx => h.2 x hx⟩

set_option maxHeartbeats 1600000 in
theorem tensor_ok_spec {B : Nat} {lv dv xv : Value} {k p n : Int} {L D X : List Int} {w : World} (h : RdT B w lv dv xv L D X) (hB : B ≤ w.heap.size) (hn : LenT L D X) :
    Calls Try.prog 45 #[ringV k p n, tenV lv dv xv] w fun e w' => e = .returned (.bool (tensorB k p n L D X)) ∧ Below w.heap.size w w' := by
  have H0 := Lib.hid (Held.ringTen w k p n lv dv xv 30 55)
  have HT := Lib.hid (h.below H0.out.1 hB)
  have hBB := Nat.le_trans hB H0.out.1.size
  have HN := Lib.hid hn
  have HX0 := Lib.hid h.x
  have HB0 := Lib.hid hB
  obtain ⟨al, cl, rfl, -⟩ := ints_form h.l
  obtain ⟨ad, cd, rfl, -⟩ := ints_form h.d
  obtain ⟨ax, cx, rfl, -⟩ := ints_form h.x
  obtain ⟨ml, hml⟩ : ∃ m, m = L.length := ⟨_, rfl⟩
  obtain ⟨md, hmd⟩ : ∃ m, m = D.length := ⟨_, rfl⟩
  obtain ⟨mx, hmx⟩ : ∃ m, m = X.length := ⟨_, rfl⟩
  have hbx := hn.x
  rw [← hmx] at hbx
  rw [← hml, ← hmd, ← hmx] at H0 HT hBB ⊢
  rw [← hmx] at HX0
  have HSZ := Lib.hid (size_spec HT.out hBB HN.out)
  have HMX := Lib.hid hmx
  obtain ⟨r, hr⟩ : ∃ r, r = tensorB k p n L D X := ⟨_, rfl⟩
  rw [← hr]
  have HR := Lib.hid hr
  obtain ⟨s, hs⟩ : ∃ s, s = sizeI L D := ⟨_, rfl⟩
  rw [← hs] at HSZ
  have HS := Lib.hid hs
  have hsr : s = -1 ∨ (1 ≤ s ∧ s ≤ 4096) := by rcases sizeI_cases L D with h | h <;> omega
  clear h hB hBB hn hml hmd hmx hr hs
  cases hrb : ringB k p n with
  | false =>
    have HF : Hid (r = false) := by show r = false; rw [HR.out]; exact tensorB_ring hrb
    have HB := Lib.hid hrb
    clear hrb
    go_enter Try.func45, Try.ntmps45
    go_wp2_with fail
    refine (Held.call H0 HSZ.out).mono ?_
    rintro e w1 ⟨rfl, H1, c0, c1, c2, d0, d1, d2, -⟩
    have H1' := Lib.hid H1.out.drew
    go_wp2
    refine wp_region_any (by kernel_rfl) ?_
    try (change wpAny _ _ _ _ _ _ _ (World.drew _))
    refine wpAny_ready (rs := [0]) (by kernel_rfl) (by simp) ?_
    refine AllReady.cons rfl (fun K hK => ?_) AllReady.nil
    go_simp
    refine hK _ _ ?_
    clear hK K
    refine wpAny_ready (rs := [1]) (by kernel_rfl) (by simp) ?_
    refine AllReady.cons rfl (fun K hK => ?_) AllReady.nil
    go_simp
    go_wp2_with (go_at_call 44; refine (Held.call (by assumption) (ring_ok_spec k p n _)).mono ?_; rw [HB.out]; rintro e w2 ⟨rfl, H2, c0, c1, c2, d0, d1, d2, -⟩)
    refine wpAny_ready (rs := [2]) (by kernel_rfl) (by simp) ?_
    refine AllReady.cons rfl (fun K hK => ?_) AllReady.nil
    go_simp
    refine hK _ _ ?_
    clear hK K
    refine wpAny_ready (rs := [3]) (by kernel_rfl) (by simp) ?_
    refine AllReady.cons rfl (fun K hK => ?_) AllReady.nil
    go_simp
    refine hK _ _ ?_
    clear hK K
    refine wpAny_ready (rs := [4]) (by kernel_rfl) (by simp) ?_
    refine AllReady.cons rfl (fun K hK => ?_) AllReady.nil
    go_simp
    refine hK _ _ ?_
    clear hK K
    refine wpAny_ready (rs := [5]) (by kernel_rfl) (by simp) ?_
    refine AllReady.cons rfl (fun K hK => ?_) AllReady.nil
    go_simp
    refine hK _ _ ?_
    clear hK K
    refine wpAny_ready (rs := [6]) (by kernel_rfl) (by simp) ?_
    refine AllReady.cons rfl (fun K hK => ?_) AllReady.nil
    go_simp
    refine hK _ _ ?_
    clear hK K
    refine wpAny_ready (rs := [7]) (by kernel_rfl) (by simp) ?_
    refine AllReady.cons rfl (fun K hK => ?_) AllReady.nil
    go_simp
    refine hK _ _ ?_
    clear hK K
    refine wpAny_take (i := 8) (v := undef) rfl (by kernel_rfl) (by kernel_rfl) (by kernel_rfl) (fun _ _ _ h => h) (Or.inr ⟨by rfl, rfl⟩) ?_
    refine wpAny_take (i := 9) (v := undef) rfl (by kernel_rfl) (by kernel_rfl) (by kernel_rfl) (fun _ _ _ h => h) (Or.inr ⟨by rfl, rfl⟩) ?_
    refine wpAny_take (i := 10) (v := undef) rfl (by kernel_rfl) (by kernel_rfl) (by kernel_rfl) (fun _ _ _ h => h) (Or.inr ⟨by rfl, rfl⟩) ?_
    refine wpAny_take (i := 11) (v := undef) rfl (by kernel_rfl) (by kernel_rfl) (by kernel_rfl) (fun _ _ _ h => h) (Or.inr ⟨by rfl, rfl⟩) ?_
    refine wpAny_take (i := 12) (v := undef) rfl (by kernel_rfl) (by kernel_rfl) (by kernel_rfl) (fun _ _ _ h => h) (Or.inr ⟨by rfl, rfl⟩) ?_
    refine wpAny_take (i := 13) (v := undef) rfl (by kernel_rfl) (by kernel_rfl) (by kernel_rfl) (fun _ _ _ h => h) (Or.inr ⟨by rfl, rfl⟩) ?_
    refine wpAny_take (i := 14) (v := undef) rfl (by kernel_rfl) (by kernel_rfl) (by kernel_rfl) (fun _ _ _ h => h) (Or.inr ⟨by rfl, rfl⟩) ?_
    refine wpAny_take (i := 15) (v := undef) rfl (by kernel_rfl) (by kernel_rfl) (by kernel_rfl) (fun _ _ _ h => h) (Or.inr ⟨by rfl, rfl⟩) ?_
    refine wpAny_ready (rs := [16]) (by kernel_rfl) (by simp) ?_
    refine AllReady.cons rfl (fun K hK => ?_) AllReady.nil
    go_simp
    refine hK _ _ ?_
    clear hK K
    refine wpAny_done (by kernel_rfl) ?_ _
    go_wp2
    go_ret
    exact ⟨by rw [HF.out]; rfl, H2.out.1⟩
  | true =>
    have HB := Lib.hid hrb
    rcases hsr with rfl | ⟨hs1, hs2⟩
    · have HF : Hid (r = false) := by show r = false; rw [HR.out]; exact tensorB_size (by rw [← HS.out]; omega)
      clear hrb
      go_enter Try.func45, Try.ntmps45
      go_wp2_with fail
      refine (Held.call H0 HSZ.out).mono ?_
      rintro e w1 ⟨rfl, H1, c0, c1, c2, d0, d1, d2, -⟩
      have H1' := Lib.hid H1.out.drew
      go_wp2
      refine wp_region_any (by kernel_rfl) ?_
      try (change wpAny _ _ _ _ _ _ _ (World.drew _))
      refine wpAny_ready (rs := [0]) (by kernel_rfl) (by simp) ?_
      refine AllReady.cons rfl (fun K hK => ?_) AllReady.nil
      go_simp
      refine hK _ _ ?_
      clear hK K
      refine wpAny_ready (rs := [1]) (by kernel_rfl) (by simp) ?_
      refine AllReady.cons rfl (fun K hK => ?_) AllReady.nil
      go_simp
      go_wp2_with (go_at_call 44; refine (Held.call (by assumption) (ring_ok_spec k p n _)).mono ?_; rw [HB.out]; rintro e w2 ⟨rfl, H2, c0, c1, c2, d0, d1, d2, -⟩)
      refine wpAny_ready (rs := [2]) (by kernel_rfl) (by simp) ?_
      refine AllReady.cons rfl (fun K hK => ?_) AllReady.nil
      go_simp
      refine hK _ _ ?_
      clear hK K
      refine wpAny_ready (rs := [3]) (by kernel_rfl) (by simp) ?_
      refine AllReady.cons rfl (fun K hK => ?_) AllReady.nil
      go_simp
      refine hK _ _ ?_
      clear hK K
      refine wpAny_ready (rs := [4]) (by kernel_rfl) (by simp) ?_
      refine AllReady.cons rfl (fun K hK => ?_) AllReady.nil
      go_simp
      refine hK _ _ ?_
      clear hK K
      refine wpAny_ready (rs := [5]) (by kernel_rfl) (by simp) ?_
      refine AllReady.cons rfl (fun K hK => ?_) AllReady.nil
      go_simp
      refine hK _ _ ?_
      clear hK K
      refine wpAny_ready (rs := [6]) (by kernel_rfl) (by simp) ?_
      refine AllReady.cons rfl (fun K hK => ?_) AllReady.nil
      go_simp
      refine hK _ _ ?_
      clear hK K
      refine wpAny_ready (rs := [7]) (by kernel_rfl) (by simp) ?_
      refine AllReady.cons rfl (fun K hK => ?_) AllReady.nil
      go_simp
      refine hK _ _ ?_
      clear hK K
      refine wpAny_take (i := 8) (v := undef) rfl (by kernel_rfl) (by kernel_rfl) (by kernel_rfl) (fun _ _ _ h => h) (Or.inr ⟨by rfl, rfl⟩) ?_
      refine wpAny_take (i := 9) (v := undef) rfl (by kernel_rfl) (by kernel_rfl) (by kernel_rfl) (fun _ _ _ h => h) (Or.inr ⟨by rfl, rfl⟩) ?_
      refine wpAny_take (i := 10) (v := undef) rfl (by kernel_rfl) (by kernel_rfl) (by kernel_rfl) (fun _ _ _ h => h) (Or.inr ⟨by rfl, rfl⟩) ?_
      refine wpAny_take (i := 11) (v := undef) rfl (by kernel_rfl) (by kernel_rfl) (by kernel_rfl) (fun _ _ _ h => h) (Or.inr ⟨by rfl, rfl⟩) ?_
      refine wpAny_take (i := 12) (v := undef) rfl (by kernel_rfl) (by kernel_rfl) (by kernel_rfl) (fun _ _ _ h => h) (Or.inr ⟨by rfl, rfl⟩) ?_
      refine wpAny_take (i := 13) (v := undef) rfl (by kernel_rfl) (by kernel_rfl) (by kernel_rfl) (fun _ _ _ h => h) (Or.inr ⟨by rfl, rfl⟩) ?_
      refine wpAny_take (i := 14) (v := undef) rfl (by kernel_rfl) (by kernel_rfl) (by kernel_rfl) (fun _ _ _ h => h) (Or.inr ⟨by rfl, rfl⟩) ?_
      refine wpAny_take (i := 15) (v := undef) rfl (by kernel_rfl) (by kernel_rfl) (by kernel_rfl) (fun _ _ _ h => h) (Or.inr ⟨by rfl, rfl⟩) ?_
      refine wpAny_ready (rs := [16]) (by kernel_rfl) (by simp) ?_
      refine AllReady.cons rfl (fun K hK => ?_) AllReady.nil
      go_simp
      refine hK _ _ ?_
      clear hK K
      refine wpAny_done (by kernel_rfl) ?_ _
      go_wp2
      go_ret
      exact ⟨by rw [HF.out]; rfl, H2.out.1⟩
    · obtain ⟨sz, rfl⟩ : ∃ sz : Nat, s = (sz : Int) := ⟨s.toNat, by omega⟩
      obtain ⟨wd, hwd⟩ : ∃ x, x = widthI k n := ⟨_, rfl⟩
      have hw1 := ring_width hrb
      rw [← hwd] at hw1
      have hw2 := hw1.1
      have hw3 := hw1.2
      have HWD := Lib.hid hwd
      have hm := mul_inT (c := (sz : Int)) (d := wd) (by omega) (by omega) (by omega) (by omega)
      have hw : IntKind.i64.wrap ((sz : Int) * wd) = (sz : Int) * wd := IntWalk.i64_in _ (by omega)
      obtain ⟨t, ht⟩ : ∃ x, x = topI k p n := ⟨_, rfl⟩
      have HTP := Lib.hid ht
      clear hw1 hwd ht hrb hm
      by_cases hlen : (mx : Int) = (sz : Int) * wd
      · have q1 : ((mx : Int) != (sz : Int) * wd) = false := by simp [hlen]
        have HLEN := Lib.hid hlen
        clear hlen
        go_enter Try.func45, Try.ntmps45
        go_wp2_with fail
        refine (Held.call H0 HSZ.out).mono ?_
        rintro e w1 ⟨rfl, H1, c0, c1, c2, d0, d1, d2, -⟩
        have H1' := Lib.hid H1.out.drew
        go_wp2
        go_cut [26] (fun s26 wx => s26 = .bool false ∧ Hid (Held w wx (ringTen w.heap.size (w.heap.size + 1) k p n (.slice al ml cl) (.slice ad md cd) (.slice ax mx cx))))
        case first =>
          go_region_held3 (fun w' => w'.cell? ⟨w.heap.size, 0, none⟩ = some (.int .i64 k) ∧ w'.cell? ⟨w.heap.size, 1, none⟩ = some (.int .i64 p) ∧ w'.cell? ⟨w.heap.size, 2, none⟩ = some (.int .i64 n) ∧ w'.cell? ⟨w.heap.size + 1, 0, none⟩ = some (.slice al ml cl) ∧ w'.cell? ⟨w.heap.size + 1, 1, none⟩ = some (.slice ad md cd) ∧ w'.cell? ⟨w.heap.size + 1, 2, none⟩ = some (.slice ax mx cx)) (first | exact ⟨c0, c1, c2, d0, d1, d2⟩) (first
            | (go_at_call 44; refine (Held.call (by assumption) (ring_ok_spec k p n _)).mono ?_; rw [HB.out]; rintro e w2 ⟨rfl, H2, c0, c1, c2, d0, d1, d2, -⟩)
            | (go_at_call 79; refine (Held.call (by assumption) (width_spec k p n _)).mono ?_; rw [← HWD.out]; rintro e w3 ⟨rfl, H3, c0, c1, c2, d0, d1, d2, -⟩))
          all_goals (go_wp2_with fail; go_meet; exact ⟨rfl, H3⟩)
        case rest =>
          obtain ⟨rfl, H2⟩ := hcut
          clear c0 c1 c2 d0 d1 d2 H1
          obtain ⟨c0, c1, c2, d0, d1, d2, -⟩ := H2.out.cells
          go_wp2
          go_loopw [30] (fun i wr => ∃ j : Nat, j ≤ mx ∧ i = .int .i64 j ∧ Hid (Within t (X.take j)) ∧ Hid (Held w wr (ringTen w.heap.size (w.heap.size + 1) k p n (.slice al ml cl) (.slice ad md cd) (.slice ax mx cx)))) (fun i _ => mx - (intOf i).toNat)
          case atStart => exact ⟨0, by omega, rfl, fun x hx => by simp at hx, H2⟩
          case round =>
            obtain ⟨j, hj, rfl, HI, HH⟩ := hrel
            clear c0 c1 c2 d0 d1 d2
            obtain ⟨c0, c1, c2, d0, d1, d2, -⟩ := HH.out.cells
            by_cases hlt : j < mx
            · obtain ⟨x, X1⟩ : ∃ x, Hid (X[j]? = some x) := ⟨_, List.getElem?_eq_getElem (by rw [← HMX.out]; exact hlt)⟩
              obtain ⟨b, off, rfl, e1⟩ : ∃ b off, ax = some ⟨b, off, none⟩ ∧ wr.cell? ⟨b, off + j, none⟩ = some (.int .i64 x) := by
                rcases (HX0.out.below HH.out.1 HB0.out).ints_cases with ⟨h, -⟩ | ⟨b, off, ca, e, hb, -, hc⟩
                · have := HMX.out; rw [h] at this; simp at this; omega
                · cases e
                  refine ⟨b, off, rfl, ?_⟩
                  rw [hc j (by rw [← HMX.out]; exact hlt)]
                  rw [(List.getElem?_eq_some_iff.1 X1.out).2]
              have hcin := fun w => l01_in x 0 t w
              cases h1 : inB x 0 t with
              | false =>
                rw [h1] at hcin
                have HC := Lib.hid hcin
                have HF : Hid (r = false) := by show r = false; rw [HR.out]; exact tensorB_at X1.out (by rw [← HTP.out]; exact h1)
                clear hcin h1
                go_wp2_with fail
                refine (Held.call HH (top_spec k p n _ HB.out)).mono ?_
                rw [← HTP.out]
                rintro e w3 ⟨rfl, H3, -⟩
                go_wp2_with fail
                refine (HC.out _).mono ?_
                rintro e w4 ⟨rfl, rfl⟩
                go_wp2
                go_ret
                exact ⟨by rw [HF.out]; rfl, H3.out.1⟩
              | true =>
                rw [h1] at hcin
                have HC := Lib.hid hcin
                have H1 : Hid (0 ≤ x ∧ x ≤ t) := by show _ ∧ _; simpa [inB] using h1
                clear hcin h1
                go_wp2_with fail
                refine (Held.call HH (top_spec k p n _ HB.out)).mono ?_
                rw [← HTP.out]
                rintro e w3 ⟨rfl, H3, -⟩
                go_wp2_with fail
                refine (HC.out _).mono ?_
                rintro e w4 ⟨rfl, rfl⟩
                go_wp2
                go_roundw
                case rel => exact ⟨j + 1, by omega, by go_num, within_step X1.out HI.out H1.out.1 H1.out.2, H3⟩
                case measure => simp [intOf]; omega
            · obtain rfl : j = mx := by omega
              have HF : Hid (r = true) := by
                show r = true
                have h := HI.out
                rw [List.take_of_length_le (by rw [← HMX.out]; omega), HTP.out] at h
                rw [HR.out]
                exact tensorB_yes HB.out (by rw [← HS.out]; omega) (by rw [← HMX.out, ← HS.out, ← HWD.out]; exact HLEN.out) h
              go_wp2
              go_ret
              exact ⟨by rw [HF.out]; rfl, HH.out.1⟩
      · have q1 : ((mx : Int) != (sz : Int) * wd) = true := by simpa using hlen
        have HF : Hid (r = false) := by show r = false; rw [HR.out]; exact tensorB_len (by rw [← HMX.out, ← HS.out, ← HWD.out]; exact hlen)
        clear hlen
        go_enter Try.func45, Try.ntmps45
        go_wp2_with fail
        refine (Held.call H0 HSZ.out).mono ?_
        rintro e w1 ⟨rfl, H1, c0, c1, c2, d0, d1, d2, -⟩
        have H1' := Lib.hid H1.out.drew
        go_wp2
        go_region_held3 (fun w' => w'.cell? ⟨w.heap.size, 0, none⟩ = some (.int .i64 k) ∧ w'.cell? ⟨w.heap.size, 1, none⟩ = some (.int .i64 p) ∧ w'.cell? ⟨w.heap.size, 2, none⟩ = some (.int .i64 n) ∧ w'.cell? ⟨w.heap.size + 1, 0, none⟩ = some (.slice al ml cl) ∧ w'.cell? ⟨w.heap.size + 1, 1, none⟩ = some (.slice ad md cd) ∧ w'.cell? ⟨w.heap.size + 1, 2, none⟩ = some (.slice ax mx cx)) (first | exact ⟨c0, c1, c2, d0, d1, d2⟩) (first
          | (go_at_call 44; refine (Held.call (by assumption) (ring_ok_spec k p n _)).mono ?_; rw [HB.out]; rintro e w2 ⟨rfl, H2, c0, c1, c2, d0, d1, d2, -⟩)
          | (go_at_call 79; refine (Held.call (by assumption) (width_spec k p n _)).mono ?_; rw [← HWD.out]; rintro e w3 ⟨rfl, H3, c0, c1, c2, d0, d1, d2, -⟩))
        all_goals
          go_wp2
          go_ret
          exact ⟨by rw [HF.out]; rfl, H3.out.1⟩
end Go.Proofs.Ytdheakjjnaifkaa
