
/- spec.l05Zero: the zero tensor. -/
import Derived.Test.YtfdjlahaiogabaaRs
import Derived.Test.YtfdjlahaiogabaaZero
import Derived.Deep.RegionLaw
import Derived.Deep.AppendLies
namespace Go.Proofs.Ytfdjlahaiogabaa
set_option maxRecDepth 20000
open Go.RowKit

/-- z, j times. -/
def repL (z : List Int) (j : Nat) : List Int := (List.replicate j z).flatten
theorem repL_succ (z : List Int) (j : Nat) : repL z (j + 1) = repL z j ++ z := by
  unfold repL
  rw [List.replicate_succ', List.flatten_append]; simp
theorem repL_len (z : List Int) (j : Nat) : (repL z j).length = j * z.length := by
  unfold repL; simp
/-- l05Zero under way. -/
structure ZT (w wr : World) (ob lo : Nat) (k p q : Int) (l' d' xv : Value) (L D Z : List Int) : Prop where
  rg : Bx w wr w.heap.size (.int .i64 k) (.int .i64 p) (.int .i64 q)
  an : Bx w wr (w.heap.size + 1) nilV nilV nilV
  bx : Bx w wr ob l' d' xv
  ol : Own wr lo ob l' L
  od : Own wr lo ob d' D
  ox : Own wr (ob + 1) wr.heap.size xv Z
  ap : ∀ g, l'.ownBlock = some g → d'.ownBlock ≠ some g
  hl : w.heap.size + 1 < lo
theorem Own.wide {w : World} {lo hi lo' hi' : Nat} {v : Value} {xs : List Int} (h : Own w lo hi v xs) (h1 : lo' ≤ lo) (h2 : hi ≤ hi') (h3 : hi' ≤ w.heap.size) : Own w lo' hi' v xs :=
  ⟨⟨h.1.1, h.1.2.imp id (fun ⟨g, cap, cur, e, hb, q⟩ => ⟨g, cap, cur, e, Nat.le_trans h1 hb, q⟩)⟩, fun g hg => Nat.lt_of_lt_of_le (h.2.1 g hg) h2, h3⟩
theorem ZT.step {w wr w' : World} {ob lo : Nat} {k p q : Int} {l' d' xv : Value} {L D Z : List Int} (h : ZT w wr ob lo k p q l' d' xv L D Z) (hb : Below wr.heap.size wr w') : ZT w w' ob lo k p q l' d' xv L D Z :=
  ⟨h.rg.step hb, h.an.step hb, h.bx.step hb, h.ol.below hb (Nat.le_refl _), h.od.below hb (Nat.le_refl _), (h.ox.below hb (Nat.le_refl _)).wide (Nat.le_refl _) hb.size (Nat.le_refl _), h.ap, h.hl⟩
/-- The data has grown: behind the append. -/
theorem ZT.app {w wr w' : World} {ob lo m : Nat} {k p q : Int} {l' d' xv v' : Value} {L D Z Z' : List Int} (h : ZT w wr ob lo k p q l' d' xv L D Z) (hlo : lo ≤ ob) (hg : wr.grownBy w' xv.ownBlock) (ho : w'.ownsRow (ob + 1) 3 1 v' m (ints Z')) (hm : Z'.length = m) :
    Bx w w' w.heap.size (.int .i64 k) (.int .i64 p) (.int .i64 q) ∧ Bx w w' (w.heap.size + 1) nilV nilV nilV ∧ Bx w w' ob l' d' xv ∧ ZT w (w'.setCell ⟨ob, 2, none⟩ v') ob lo k p q l' d' v' L D Z' := by
  have far : ∀ g, xv.ownBlock = some g → ob < g := fun g hg => h.ox.lo g hg
  have hl := h.hl
  have b1 := h.rg.grown hg (fun g e => ⟨by have := far g e; omega, by have := far g e; omega⟩)
  have b2 := h.an.grown hg (fun g e => ⟨by have := far g e; omega, by have := far g e; omega⟩)
  have b3 := h.bx.grown hg (fun g e => ⟨by have := far g e; omega, by have := far g e; omega⟩)
  refine ⟨b1, b2, b3, b1.far (by omega) (by omega) _ _, b2.far (by omega) (by omega) _ _, ?_, ?_, ?_, ?_, h.ap, h.hl⟩
  · have := b3.set v' 2
    simpa using this
  · have h1 := h.ol.kept hg (fun g e => .inr (Nat.le_of_lt (far g e)))
    refine h1.kept (row := some ob) (grownBy_setCell ⟨rfl, rfl, rfl, Nat.le_refl _, fun _ _ _ => rfl⟩ rfl _) (fun g e => by cases e; exact .inr (Nat.le_refl _))
  · have h1 := h.od.kept hg (fun g e => .inr (Nat.le_of_lt (far g e)))
    refine h1.kept (row := some ob) (grownBy_setCell ⟨rfl, rfl, rfl, Nat.le_refl _, fun _ _ _ => rfl⟩ rfl _) (fun g e => by cases e; exact .inr (Nat.le_refl _))
  · have h1 : Own w' (ob + 1) w'.heap.size v' Z' := Own.of ho hm
    have := Own.set h1 (b := ob) (i := 2) (by omega) v'
    simpa using this
theorem ZT.row {w wr : World} {ob lo n : Nat} {k p q : Int} {l' d' xv : Value} {L D Z : List Int} (h : ZT w wr ob lo k p q l' d' xv L D Z) (hn : Z.length = n) : wr.ownsRow (ob + 1) 3 1 xv n (ints Z) := hn ▸ h.ox.1

set_option maxHeartbeats 1600000 in
theorem zero_ten_spec {B : Nat} {lv dv : Value} {k p q : Int} {L D : List Int} {w : World} (N : Nat) (hl : Rd B w lv (ints L)) (hd : Rd B w dv (ints D)) (hB : B ≤ w.heap.size) (h1 : L.length ≤ 1099511627776) (h2 : D.length ≤ 1099511627776) (hr : ringB k p q = true) (hD : ∀ d ∈ D, 1 ≤ d ∧ d ≤ 8) (hN : capI D = (N : Int)) (hN2 : N ≤ 4097) :
    Calls Try.prog 142 #[ringV k p q, lv, dv] w (NewTen w L D (repL (zeroL k p q) N)) := by
  have HL0 := Lib.hid hl
  have HD0 := Lib.hid hd
  have HB := Lib.hid hB
  have T0 := Lib.hid (Bx.two w (.int .i64 k) (.int .i64 p) (.int .i64 q) nilV nilV nilV 31 28)
  have HI1 := Lib.hid (fun (w1 : World) (hb : Below w.heap.size w w1) => ints_new (HL0.out.below hb HB.out) (Nat.le_trans HB.out hb.size) h1)
  have HI2 := Lib.hid (fun (w1 : World) (hb : Below w.heap.size w w1) => ints_new (HD0.out.below hb HB.out) (Nat.le_trans HB.out hb.size) h2)
  have HPR := Lib.hid (fun (w1 : World) (hb : Below w.heap.size w w1) => product_spec (HD0.out.below hb HB.out) (show D.length ≤ 281474976710656 by omega) hD)
  have HZ := Lib.hid (fun (w1 : World) => zero_spec k p q w1 hr)
  obtain ⟨wd, hwd, hwd1, hwd2⟩ := width_nat hr
  have HZL : Hid ((zeroL k p q).length = wd) := Lib.hid (by unfold zeroL; simp [hwd])
  rw [hN] at HPR
  obtain ⟨al, cl, rfl, -⟩ := ints_form hl
  obtain ⟨ad, cd, rfl, -⟩ := ints_form hd
  obtain ⟨i0, hi, hz0, hz1, hz2⟩ := info_parts infoInt
  have J0 := Lib.hid hi
  have J1 := Lib.hid hz0
  have J2 := Lib.hid hz1
  have J3 := Lib.hid hz2
  clear hl hd hB h1 h2 hr hD hN hwd hi hz0 hz1 hz2
  go_enter Try.func142, Try.ntmps142
  go_wp2_with fail
  refine (HI1.out _ T0.out.1.bel).mono ?_
  rintro e w1 ⟨u1, rfl, ho1, hb⟩
  have T1 := Lib.hid (And.intro (T0.out.1.step hb) (T0.out.2.step hb))
  have O11 := Lib.hid ho1
  obtain ⟨a1, c1, rfl, -⟩ := ints_form ho1.rd
  have hz0 : w.heap.size + 1 < w1.heap.size := T1.out.2.lt
  have E0 := Lib.hid (show w.heap.size + 1 + 1 ≤ w1.heap.size by omega)
  have hs1 : ((w.alloc (.cells #[.int .i64 k, .int .i64 p, .int .i64 q] 31)).alloc (.cells #[nilV, nilV, nilV] 28)).heap.size = w.heap.size + 1 + 1 := by simp
  rw [hs1] at O11
  clear hb ho1 T0 hz0 hs1
  go_wp2_with fail
  refine (HI2.out _ T1.out.1.bel).mono ?_
  rintro e w2 ⟨u2, rfl, ho2, hb⟩
  have T2 := Lib.hid (And.intro (T1.out.1.step hb) (T1.out.2.step hb))
  have O12 := Lib.hid (O11.out.below hb (Nat.le_refl _))
  have O22 := Lib.hid ho2
  obtain ⟨a2, c2, rfl, -⟩ := ints_form ho2.rd
  have E2 := Lib.hid hb.size
  clear hb ho2 T1 O11
  have BX := Lib.hid (Bx.new T2.out.1.bel (.slice a1 L.length c1) (.slice a2 D.length c2) nilV 28)
  have hal := (Below.refl w2.heap.size w2).alloc (Nat.le_refl _) (.cells #[.slice a1 L.length c1, .slice a2 D.length c2, nilV] 28)
  have Z3 : Hid (ZT w (w2.alloc (.cells #[.slice a1 L.length c1, .slice a2 D.length c2, nilV] 28)) w2.heap.size (w.heap.size + 1 + 1) k p q (.slice a1 L.length c1) (.slice a2 D.length c2) nilV L D []) := Lib.hid (by
    have e0 := E0.out
    have e2 := E2.out
    exact ⟨T2.out.1.step hal, T2.out.2.step hal, BX.out, (O12.out.below hal (Nat.le_refl _)).wide (Nat.le_refl _) e2 (by simp), (O22.out.below hal (Nat.le_refl _)).wide e0 (Nat.le_refl _) (by simp), (by have := Own.nil (w2.alloc (.cells #[.slice a1 L.length c1, .slice a2 D.length c2, nilV] 28)) (w2.heap.size + 1); exact this), (fun g hg hg' => by
      have h1 := O12.out.2.1 g hg
      have h2 := O22.out.lo g hg'
      omega), by omega⟩)
  have HOB := Lib.hid (Nat.le_trans E0.out E2.out)
  clear BX hal T2 O12 O22 E0 E2
  go_wp2_with fail
  refine (HPR.out _ Z3.out.rg.bel).mono ?_
  rintro e w3 ⟨rfl, rfl⟩
  go_wp2
  go_loopw [8] (fun s wr => ∃ (m n cx : Nat) (ax : Option Addr), m ≤ N ∧ s = .int .i64 m ∧ n ≤ 24582 ∧ Hid (n = (N - m) * wd) ∧ Hid (ZT w wr w2.heap.size (w.heap.size + 1 + 1) k p q (.slice a1 L.length c1) (.slice a2 D.length c2) (.slice ax n cx) L D (repL (zeroL k p q) (N - m)))) (fun s _ => (intOf s).toNat)
  case atStart => exact ⟨N, 0, 0, none, Nat.le_refl _, rfl, by omega, by show 0 = _; simp, by rw [Nat.sub_self]; exact Z3⟩
  case round =>
    clear Z3
    obtain ⟨m, n, cx, ax, hm, rfl, hn, HNE, HZT⟩ := hrel
    cases m with
    | zero =>
      obtain ⟨-, -, -, -, -, -, -⟩ := HZT.out.rg
      have an := HZT.out.an
      obtain ⟨-, t0, t1, t2, fr, -, -⟩ := an
      have f0 := fr 0
      have f1 := fr 1
      have f2 := fr 2
      clear fr
      obtain ⟨-, b0, b1, b2, -, blt, -⟩ := HZT.out.bx
      go_wp2
      refine bodyPost_ret (v := tenV (.slice a1 L.length c1) (.slice a2 D.length c2) (.slice ax n cx)) (by simp [results, Try.results142, go_sem, t0, t1, t2]) rfl ?_
      have hob := HOB.out
      have h := HZT.out
      refine ⟨_, _, _, rfl, ?_, ((h.an.bel.setCell (by simp) _).setCell (by simp) _).setCell (by simp) _⟩
      have ho := h.ox
      rw [Nat.sub_zero] at ho
      refine OwnG.wide (lo := w.heap.size + 1 + 1) (hi := wr.heap.size) (OwnG.of3 (ApartG.three (x := L) (y := D) (z := L) h.ap (fun g hg hg' => ?_) (fun g hg hg' => ?_)) (Own.set (Own.set (Own.set (h.ol.wide (Nat.le_refl _) (by omega) (Nat.le_refl _)) (by omega) _) (by omega) _) (by omega) _) (Own.set (Own.set (Own.set (h.od.wide (Nat.le_refl _) (by omega) (Nat.le_refl _)) (by omega) _) (by omega) _) (by omega) _) (Own.set (Own.set (Own.set (ho.wide (by omega) (Nat.le_refl _) (Nat.le_refl _)) (by omega) _) (by omega) _) (by omega) _)) (by omega) (by simp) (by simp)
      · have h1 := h.ol.2.1 g hg; have h2 := h.ox.lo g hg'; omega
      · have h1 := h.od.2.1 g hg; have h2 := h.ox.lo g hg'; omega
    | succ m =>
      obtain ⟨-, r0, r1, r2, -⟩ := HZT.out.rg
      obtain ⟨-, -, -, b2, -⟩ := HZT.out.bx
      have hcast : ((m + 1 : Nat) : Int) = (m : Int) + 1 := by omega
      rw [hcast]
      have q1 : decide ((0 : Int) < (m : Int) + 1) = true := by simp
      go_wp2
      have HZD := Lib.hid (HZT.out.step ((Below.refl wr.heap.size wr).drew))
      have HLN : Hid ((repL (zeroL k p q) (N - (m + 1))).length = n) := Lib.hid (by rw [repL_len, HZL.out, HNE.out])
      have HSU : Hid (repL (zeroL k p q) (N - m) = repL (zeroL k p q) (N - (m + 1)) ++ zeroL k p q) := Lib.hid (by rw [← repL_succ]; congr 1; omega)
      have NB : Hid (n + wd = (N - m) * wd ∧ n + wd ≤ 24582) := Lib.hid (by
        have h : n + wd = (N - m) * wd := by
          rw [HNE.out, show N - m = N - (m + 1) + 1 by omega, Nat.add_mul, Nat.one_mul]
        refine ⟨h, ?_⟩
        rw [h]
        exact Nat.le_trans (Nat.mul_le_mul (show N - m ≤ 4097 by omega) hwd2) (by omega))
      have hsub : IntKind.i64.wrap ((m : Int) + 1 - 1) = (m : Int) := by rw [Int.add_sub_cancel]; exact IntWalk.i64_in _ (by omega)
      have b2d : wr.drew.cell? ⟨w2.heap.size, 2, none⟩ = some (.slice ax n cx) := b2
      go_region_law (first
        | (refine step_append_lies _ rfl (.tmp 21) (.tmp 23) 24 rfl (w2.heap.size + 1) 3 i0 (.int .i64 0) 1 8 Try.underlying24 J0.out J1.out J2.out J3.out rfl Nat.one_pos (.slice ax n cx) n (ints (repL (zeroL k p q) (N - (m + 1)))) rfl OX4.out ⟨gz, 0, none⟩ wd cz (ints (zeroL k p q)) rfl ?_ HNW.out (one_cells _) ?_ ?_ ?_ BS4.out _ rfl ?_
           · rw [ints_len, HZL.out, Nat.mul_one]
           · omega
           · unfold maxLen; omega
           · omega
           intro g cap w5 hown hgrow _ _
           have hown2 : w5.ownsRow (w2.heap.size + 1) 3 1 (.slice (some ⟨g, 0, none⟩) (n + wd) cap) (n + wd) (ints (repL (zeroL k p q) (N - m))) := by rw [HSU.out]; unfold ints at hown ⊢; rw [List.map_append]; exact hown
           obtain ⟨-, -, ⟨-, -, -, b2, fr, -, -⟩, hzt⟩ := HZ4.out.app HOB.out hgrow hown2 (by rw [HSU.out, List.length_append, HLN.out, HZL.out])
           have HZ5 := Lib.hid hzt
           have f2 := fr 2
           clear hown hgrow hown2 hzt fr)
        | (go_simp
           go_at_call 159
           refine (HZ.out _).mono ?_
           rintro e w4 ⟨z, rfl, ho, hb⟩
           obtain ⟨gz, cz, rfl, hnews⟩ := own_form ho HZL.out hwd1
           have HNW := Lib.hid hnews
           have HZ4 := Lib.hid (HZD.out.step hb)
           have OX4 := Lib.hid (HZ4.out.row HLN.out)
           have BS4 : Hid (w2.heap.size + 1 ≤ w4.heap.size) := Lib.hid (Nat.succ_le_of_lt HZ4.out.bx.lt)
           have b24 := HZ4.out.bx.c2
           clear hnews ho hb))
      all_goals
        go_wp2
        go_roundw
        case rel => exact ⟨m, n + wd, cap, some ⟨g, 0, none⟩, by omega, rfl, NB.out.2, NB.out.1, HZ5⟩
        case measure => simp [intOf]
end Go.Proofs.Ytfdjlahaiogabaa
