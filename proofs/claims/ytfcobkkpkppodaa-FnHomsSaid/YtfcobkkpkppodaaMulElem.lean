
/- MulElem, both. -/
import Derived.Test.YtfcobkkpkppodaaMulHigh
import Derived.Test.YtfcobkkpkppodaaAddElem
namespace Go.Proofs.Ytfcobkkpkppodaa
set_option maxRecDepth 20000
open Go.RowKit

theorem mul_spec {B : Nat} {vx vy : Value} {k p n : Int} {xs ys : List Int} {w : World} (hr : ringB k p n = true) (hx : Rd B w vx (ints xs)) (hy : Rd B w vy (ints ys)) (hB : B ≤ w.heap.size) (ex : ElemV k p n xs) (ey : ElemV k p n ys) :
    Calls Try.prog 62 #[ringV k p n, vx, vy] w (NewRow w (timesL k p xs ys)) := by
  have h2 := ring_top hr
  have hc := ring_cases hr
  have l1 := ex.1
  have l2 := ey.1
  have h1 := ring_width hr
  have hl : ys.length = xs.length := by omega
  by_cases hk : k = 7 ∨ k = 8
  · have q1 : 1 ≤ xs.length := by omega
    have q2 : xs.length ≤ 6 := by omega
    have q3 : 2 ≤ p := by omega
    have q4 : p ≤ 1000003 := by omega
    have htop : topI k p n ≤ p := by unfold topI; rw [if_neg (by omega), if_neg (by omega), if_pos (by omega)]; omega
    have q5 : Within p xs := fun x hx => by have := ex.2 x hx; omega
    have q6 : Within p ys := fun x hx => by have := ey.2 x hx; omega
    have g1 : (k == 1) = false := by simp; omega
    have g2 : (k == 2) = false := by simp; omega
    have g3 : (k == 3) = false := by simp; omega
    have g4 : (k == 4) = false := by simp; omega
    have g5 : (k == 5) = false := by simp; omega
    have g6 : (k == 6) = false := by simp; omega
    have g8 : (k == 8) = true → xs.length = 4 := fun h => by
      have h8 : k = 8 := by simpa using h
      have hw : widthI k n = 4 := by rw [h8]; rfl
      omega
    have e : timesL k p xs ys = (List.range xs.length).map fun c => convC xs.length (k == 8) (fun i => xs.getD i 0) (fun i => ys.getD i 0) c % p := by
      unfold timesL
      rw [if_neg (by omega), if_neg (by omega), if_neg (by omega), if_neg (by omega)]
    rw [e]
    obtain ⟨ax, cx, rfl, hax⟩ := ints_form hx
    obtain ⟨ay, cy, rfl, hay⟩ := ints_form hy
    rw [hl]
    exact poly_spec_full ax ay cx cy xs.length B k p n xs ys w rfl hl q1 q2 hB q5 q6 (k == 8) rfl g1 g2 g3 g4 g5 g6 g8 q3 q4 hax (fun h => hay (hl ▸ h))
  have hwd : widthI k n = 1 := by unfold widthI; rw [if_neg (by omega), if_neg (by omega)]
  have q1 : xs.length = 1 := by omega
  have q2 : ys.length = 1 := by omega
  have hrp := ring_p hr
  obtain ⟨bx, ox, cx, rfl, hbx, hcx⟩ := rd_one hx q1 hB
  obtain ⟨by_, oy, cy, rfl, hby, hcy⟩ := rd_one hy q2 hB
  have g1 := ex.2.getD (by omega) 0
  have g2 := ey.2.getD (by omega) 0
  have ec : ∀ q : Int, (List.range xs.length).map (fun c => convC xs.length ((2 : Int) == 8) (fun i => xs.getD i 0) (fun i => ys.getD i 0) c % q) = [xs.getD 0 0 * ys.getD 0 0 % q] := fun q => by
    rw [q1]
    simp [convC, sumN, dC, List.range_succ]
  unfold timesL
  rcases hc with ⟨rfl, g⟩ | ⟨rfl, g⟩ | ⟨rfl, g⟩ | ⟨rfl, g⟩ | ⟨rfl, g⟩ | ⟨rfl, g⟩ | ⟨rfl, g⟩ | ⟨rfl, g⟩
  · exact mul_k1 bx ox by_ oy cx cy p n _ _ w hbx hby hcx hcy
  · rw [if_neg (by omega), if_neg (by omega), if_neg (by omega), if_neg (by omega)]
    have e2 := ec p
    generalize xs.getD 0 0 = a at *
    generalize ys.getD 0 0 = b at *
    rw [e2]
    exact mul_k2 bx ox by_ oy cx cy p n a b w hbx hby hcx hcy g1.1 (by omega) g2.1 (by omega) (a * b) rfl (by omega) (by omega)
  all_goals
    clear ec
    generalize xs.getD 0 0 = a at *
    generalize ys.getD 0 0 = b at *
  · rw [if_neg (by omega), if_pos rfl]
    by_cases hq : p < a * b
    · rw [show min (a * b) p = p from by omega]
      exact mul_k3a bx ox by_ oy cx cy p n a b w hbx hby hcx hcy g1.1 (by omega) g2.1 (by omega) (a * b) rfl hq
    · rw [show min (a * b) p = a * b from by omega]
      exact mul_k3b bx ox by_ oy cx cy p n a b w hbx hby hcx hcy g1.1 (by omega) g2.1 (by omega) (a * b) rfl (by omega)
  · rw [if_neg (by omega), if_neg (by omega), if_pos rfl]
    by_cases hq : p < a + b
    · rw [show min (a + b) p = p from by omega]
      exact mul_k4a bx ox by_ oy cx cy p n a b w hbx hby hcx hcy g1.1 (by omega) g2.1 (by omega) hq
    · rw [show min (a + b) p = a + b from by omega]
      exact mul_k4b bx ox by_ oy cx cy p n a b w hbx hby hcx hcy g1.1 (by omega) g2.1 (by omega) (by omega)
  · rw [if_neg (by omega), if_neg (by omega), if_neg (by omega), if_pos rfl]
    by_cases hq : b < a
    · rw [show min a b = b from by omega]
      exact mul_k5a bx ox by_ oy cx cy p n a b w hbx hby hcx hcy hq
    · rw [show min a b = a from by omega]
      exact mul_k5b bx ox by_ oy cx cy p n a b w hbx hby hcx hcy (by omega)
  · exact mul_k6 bx ox by_ oy cx cy p n a b w hbx hby hcx hcy
  · exact absurd (.inl rfl) hk
  · exact absurd (.inr rfl) hk

noncomputable def mulElemL (k p n : Int) (xs ys : List Int) : List Int := if twoOk k p n xs ys = true then timesL k p xs ys else []
theorem mulElem_len (k p n : Int) (xs ys : List Int) : (mulElemL k p n xs ys).length ≤ 6 := by
  unfold mulElemL
  by_cases h : twoOk k p n xs ys = true
  · rw [if_pos h]
    have h1 := twoOk_parts h
    have h2 := ring_width h1.1
    have h3 := h1.2.1.1
    have h5 : xs.length ≤ 6 := by omega
    unfold timesL
    split
    · simp
    · split
      · simp
      · split
        · simp
        · split
          · simp
          · simpa using h5
  · rw [if_neg h]; simp

set_option maxHeartbeats 400000 in
theorem mul_elem_impl {B : Nat} {vx vy : Value} {k p n : Int} {xs ys : List Int} {w : World} (hx : Rd B w vx (ints xs)) (hy : Rd B w vy (ints ys)) (hB : B ≤ w.heap.size) (hn : xs.length ≤ 281474976710656) (hn2 : ys.length ≤ 281474976710656) :
    Calls Try.prog 30 #[ringV k p n, vx, vy] w (NewRow w (mulElemL k p n xs ys)) := by
  obtain ⟨ax, cx, rfl, -⟩ := ints_form hx
  obtain ⟨ay, cy, rfl, -⟩ := ints_form hy
  obtain ⟨lx, hlx⟩ : ∃ l, l = xs.length := ⟨_, rfl⟩
  obtain ⟨ly, hly⟩ : ∃ l, l = ys.length := ⟨_, rfl⟩
  rw [← hlx] at hx hn ⊢
  rw [← hly] at hy hn2 ⊢
  have HX := Lib.hid hx
  have HY := Lib.hid hy
  have LX := Lib.hid hlx
  have LY := Lib.hid hly
  clear hx hy hlx hly
  have RR := Lib.hid (RdRows.two (B := B) (b := w.heap.size + 1) (w1 := (w.alloc (.cells (ringC k p n) 26)).alloc (.cells #[.slice ax lx cx, .slice ay ly cy] 24)) (HX.out.below (((Below.refl w.heap.size w).alloc (Nat.le_refl _) (.cells (ringC k p n) 26)).alloc (by simp) (.cells #[.slice ax lx cx, .slice ay ly cy] 24)) hB) (HY.out.below (((Below.refl w.heap.size w).alloc (Nat.le_refl _) (.cells (ringC k p n) 26)).alloc (by simp) (.cells #[.slice ax lx cx, .slice ay ly cy] 24)) hB) (by omega) (by simp [World.cell?_alloc_at]) (by simp [World.cell?_alloc_at]))
  have IV := Lib.hid ((Inv.box w k p n 26).step ((Below.refl _ _).alloc (Nat.le_refl _) (.cells #[.slice ax lx cx, .slice ay ly cy] 24)))
  have hlen : ∀ zs ∈ [xs, ys], zs.length ≤ 281474976710656 := by
    intro zs hz
    simp at hz
    rcases hz with rfl | rfl
    · rw [← LX.out]; exact hn
    · rw [← LY.out]; exact hn2
  have HLN := Lib.hid hlen
  clear hlen
  have hh : holdsB k p n [xs, ys] = twoOk k p n xs ys := by simp [holdsB, twoOk]
  have HH := Lib.hid hh
  clear hh
  cases hr : twoOk k p n xs ys with
  | false =>
    have e : mulElemL k p n xs ys = [] := by simp [mulElemL, hr]
    rw [e]
    have HF := Lib.hid hr
    clear hr e
    go_enter Try.func30, Try.ntmps30
    go_wp2_with fail
    refine (Inv.call IV (holds_impl RR.out (by simp) (by simp) HLN.out)).mono ?_
    rw [HH.out, HF.out]
    rintro e w1 ⟨rfl, HV1, c0, c1, c2⟩
    go_wp2
    go_ret
    exact ⟨_, rfl, ⟨World.ownsRow_nil _ _ _ _, (fun g hg => by cases hg), Nat.le_refl _⟩, HV1.out.1⟩
  | true =>
    have e : mulElemL k p n xs ys = timesL k p xs ys := by simp [mulElemL, hr]
    obtain ⟨r, hres⟩ : ∃ r, r = timesL k p xs ys := ⟨_, rfl⟩
    rw [e, ← hres]
    have HE := Lib.hid hres
    have HF := Lib.hid hr
    clear hr e hres
    go_enter Try.func30, Try.ntmps30
    go_wp2_with fail
    refine (Inv.call IV (holds_impl RR.out (by simp) (by simp) HLN.out)).mono ?_
    rw [HH.out, HF.out]
    rintro e w1 ⟨rfl, HV1, c0, c1, c2⟩
    go_wp2_with fail
    refine (times_impl (twoOk_parts HF.out).1 (HX.out.below HV1.out.1 hB) (HY.out.below HV1.out.1 hB) (Nat.le_trans hB HV1.out.1.size) (twoOk_parts HF.out).2.1 (twoOk_parts HF.out).2.2).mono ?_
    rw [← HE.out]
    intro e w2 h2
    obtain ⟨v, rfl, ho, hb⟩ := NewRow.after HV1.out.1 h2
    clear h2
    have HO := Lib.hid ho
    have HB := Lib.hid hb
    clear ho hb
    go_wp2
    go_ret
    exact ⟨v, rfl, HO.out, HB.out⟩
set_option maxHeartbeats 800000 in
theorem mul_elem_spec {B : Nat} {vx vy : Value} {k p n : Int} {xs ys : List Int} {w : World} (hx : Rd B w vx (ints xs)) (hy : Rd B w vy (ints ys)) (hB : B ≤ w.heap.size) (hn : xs.length ≤ 281474976710656) (hn2 : ys.length ≤ 281474976710656) :
    Calls Try.prog 29 #[ringV k p n, vx, vy] w (NewRow w (mulElemL k p n xs ys)) := by
  have HX := Lib.hid hx
  have HY := Lib.hid hy
  clear hx hy
  have h2 : twoOk k p n xs ys = (okElemB k p n xs && okElemB k p n ys) := by unfold twoOk okElemB; cases ringB k p n <;> simp
  cases h3 : okElemB k p n xs with
  | false =>
    have e : mulElemL k p n xs ys = [] := by simp [mulElemL, h2, h3]
    rw [e]
    have OX := Lib.hid h3
    clear h3 h2 e
    go_enter Try.func29, Try.ntmps29
    go_wp2_with fail
    refine (Inv.call (Lib.hid (Inv.box w k p n _)) (elem_ok_spec (HX.out.below ((Below.refl _ _).alloc (Nat.le_refl _) _) hB) (by simp; omega) hn)).mono ?_
    rw [OX.out]
    rintro e w1 ⟨rfl, HV1, c0, c1, c2⟩
    go_wp2
    go_ret
    exact ⟨_, rfl, ⟨World.ownsRow_nil _ _ _ _, (fun g hg => by cases hg), Nat.le_refl _⟩, HV1.out.1⟩
  | true =>
   cases h4 : okElemB k p n ys with
   | false =>
    have e : mulElemL k p n xs ys = [] := by simp [mulElemL, h2, h4]
    rw [e]
    have OX := Lib.hid h3
    have OY := Lib.hid h4
    clear h3 h4 h2 e
    go_enter Try.func29, Try.ntmps29
    go_wp2_with fail
    refine (Inv.call (Lib.hid (Inv.box w k p n _)) (elem_ok_spec (HX.out.below ((Below.refl _ _).alloc (Nat.le_refl _) _) hB) (by simp; omega) hn)).mono ?_
    rw [OX.out]
    rintro e w1 ⟨rfl, HV1, c0, c1, c2⟩
    go_wp2_with fail
    refine (Inv.call HV1 (elem_ok_spec (HY.out.below HV1.out.1 hB) (Nat.le_trans hB HV1.out.1.size) hn2)).mono ?_
    rw [OY.out]
    clear c0 c1 c2
    rintro e w2 ⟨rfl, HV2, c0, c1, c2⟩
    go_wp2
    go_ret
    exact ⟨_, rfl, ⟨World.ownsRow_nil _ _ _ _, (fun g hg => by cases hg), Nat.le_refl _⟩, HV2.out.1⟩
   | true =>
    have hr : twoOk k p n xs ys = true := by rw [h2, h3, h4]; rfl
    have e : mulElemL k p n xs ys = timesL k p xs ys := by simp [mulElemL, hr]
    obtain ⟨r, hres⟩ : ∃ r, r = timesL k p xs ys := ⟨_, rfl⟩
    rw [e, ← hres]
    have HE := Lib.hid hres
    have HF := Lib.hid hr
    have OX := Lib.hid h3
    have OY := Lib.hid h4
    clear h3 h4 h2 e hr hres
    go_enter Try.func29, Try.ntmps29
    go_wp2_with fail
    refine (Inv.call (Lib.hid (Inv.box w k p n _)) (elem_ok_spec (HX.out.below ((Below.refl _ _).alloc (Nat.le_refl _) _) hB) (by simp; omega) hn)).mono ?_
    rw [OX.out]
    rintro e w1 ⟨rfl, HV1, c0, c1, c2⟩
    go_wp2_with fail
    refine (Inv.call HV1 (elem_ok_spec (HY.out.below HV1.out.1 hB) (Nat.le_trans hB HV1.out.1.size) hn2)).mono ?_
    rw [OY.out]
    clear c0 c1 c2
    rintro e w2 ⟨rfl, HV2, c0, c1, c2⟩
    go_wp2_with fail
    refine (mul_spec (twoOk_parts HF.out).1 (HX.out.below HV2.out.1 hB) (HY.out.below HV2.out.1 hB) (Nat.le_trans hB HV2.out.1.size) (twoOk_parts HF.out).2.1 (twoOk_parts HF.out).2.2).mono ?_
    rw [← HE.out]
    intro e w3 h2
    obtain ⟨v, rfl, ho, hb⟩ := NewRow.after HV2.out.1 h2
    clear h2
    have HO := Lib.hid ho
    have HB := Lib.hid hb
    clear ho hb
    go_wp2
    go_ret
    exact ⟨v, rfl, HO.out, HB.out⟩
end Go.Proofs.Ytfcobkkpkppodaa
