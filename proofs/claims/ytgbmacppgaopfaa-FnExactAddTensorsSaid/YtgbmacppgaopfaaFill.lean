
/- impl.(Tensor).filled: a tensor with the same axes whose elements a function gives. -/
import Derived.Test.YtgbmacppgaopfaaSizeImpl
import Derived.Test.YtgbmacppgaopfaaPermSpec
import Derived.Test.YtgbmacppgaopfaaZero
import Derived.Deep.AppendLies
import Derived.Test.YtgbmacppgaopfaaTensorOk
import Derived.Deep.RegionHeld3
namespace Go.Proofs.Ytgbmacppgaopfaa
set_option maxRecDepth 20000
open Go.RowKit

/-- The axes and the size of a valid tensor. -/
theorem tensorB_prod {k p q : Int} {L D X : List Int} (ht : tensorB k p q L D X = true) : AxesV L D ∧ sizeI L D = ((prodL D).toNat : Int) ∧ (prodL D).toNat ≤ 4096 := by
  obtain ⟨-, h0, -, -⟩ := tensorB_inv ht
  rcases sizeI_cases L D with ⟨h, -⟩ | ⟨h1, h2, h3, h4⟩
  · omega
  · refine ⟨h2, ?_, ?_⟩
    · omega
    · omega

set_option maxHeartbeats 6400000 in
theorem filled_full3 {B K : Nat} {c1 c2 c3 : Value} {L D X : List Int} {N wt m mx cl cd cx : Nat} {al ad ax : Option Addr} {F : Nat → List Int} {w : World} (h : RdT B w (.slice al m cl) (.slice ad m cd) (.slice ax mx cx) L D X) (hB : B ≤ w.heap.size) (hn : LenT L D X) (hI : allI L) (hs : sizeI L D = (N : Int)) (hm : m = L.length) (hm2 : m = D.length) (hm12 : m ≤ 12) (hN : N ≤ 4096) (hw1 : 1 ≤ wt) (hw2 : wt ≤ 6) (hK : ∀ (args : Array Value) (w : World), (callFunc K args).run Try.prog w = .ok (.enter K args) w) (hl : ∀ i, i < N → (F i).length = wt) (hG : ∀ (j : Nat) (W : World), j < N → Below w.heap.size w W → Calls Try.prog K #[.int .i64 j, c1, c2, c3] W (NewRow W (F j))) :
    Calls Try.prog 144 #[tenV (.slice al m cl) (.slice ad m cd) (.slice ax mx cx), .func (.func K) #[] #[c1, c2, c3]] w (NewTen w L D (gatherL F N)) := by
  have HT := Lib.hid h
  have HB := Lib.hid hB
  have HG := Lib.hid hG
  have HL := Lib.hid hl
  have HM := Lib.hid (And.intro hm hm2)
  obtain ⟨i0, hi, hz0, hz1, hz2⟩ := info_parts infoInt
  have J0 := Lib.hid hi
  have J1 := Lib.hid hz0
  have J2 := Lib.hid hz1
  have J3 := Lib.hid hz2
  have S0 : Hid (Rs w ((w.alloc (.cells #[.slice al m cl, .slice ad m cd, .slice ax mx cx] 49)).alloc (.cells #[nilV, nilV, nilV] 49)) [(w.heap.size + 1, nilV, nilV, nilV), (w.heap.size, .slice al m cl, .slice ad m cd, .slice ax mx cx)] []) := by
    have h := ((Rs.start w).box (.slice al m cl) (.slice ad m cd) (.slice ax mx cx) 49).box nilV nilV nilV 49
    simp only [World.size_alloc] at h
    exact h
  have HSZ := Lib.hid (size_impl (HT.out.below S0.out.bel hB) (Nat.le_trans hB S0.out.bel.size) hn hI)
  rw [hs] at HSZ
  have HI1 := Lib.hid (fun (w1 : World) (hb : Below w.heap.size w w1) => clone_any (HT.out.below hb HB.out).l (Nat.le_trans HB.out hb.size) (by omega))
  have HI2 := Lib.hid (fun (w1 : World) (hb : Below w.heap.size w w1) => clone_any (HT.out.below hb HB.out).d (Nat.le_trans HB.out hb.size) (by omega))
  have HGA : Hid (∀ j, j ≤ N → (gatherL F j).length = j * wt) := Lib.hid (fun j hj => gather_len j (fun i hi => HL.out i (by omega)))
  have HW := Lib.hid (And.intro hw1 hw2)
  clear h hB hn hI hs hm hm2 hl hG hi hz0 hz1 hz2 hw1 hw2
  go_enter Try.func144, Try.ntmps144
  go_wp2_with fail
  refine HSZ.out.mono ?_
  rintro e w2 ⟨rfl, hb⟩
  have S2 := Lib.hid (S0.out.step hb)
  have hwl : w.heap.size + 1 < w2.heap.size := by have := (S2.out.bx (w.heap.size + 1, nilV, nilV, nilV) (by simp)).lt; exact this
  clear hb HSZ S0
  go_wp2
  go_loopw [5, 9] (fun u i wr => ∃ (c n cg : Nat) (ag : Option Addr), c ≤ N ∧ i = .int .i64 c ∧ u = .slice ag n cg ∧ n ≤ 24576 ∧ Hid (n = c * wt) ∧ Hid (Rs w2 wr [] [(.slice ag n cg, gatherL F c)])) (fun _ i _ => N - (intOf i).toNat)
  case atStart => exact ⟨0, 0, 0, none, by omega, rfl, rfl, by omega, Lib.hid (by simp), Lib.hid (Rs.start w2).nil⟩
  case round =>
    obtain ⟨c, n, cg, ag, hc, rfl, rfl, hnn, HNN, HR⟩ := hrel
    have SW := Lib.hid (S2.out.step HR.out.bel)
    by_cases hlt : c < N
    · have HLJ := Lib.hid (HL.out c hlt)
      have HPL : Hid ((gatherL F c).length = n) := Lib.hid ((HGA.out c hc).trans HNN.out.symm)
      have HSU : Hid (gatherL F c ++ F c = gatherL F (c + 1)) := Lib.hid (gather_succ _ _).symm
      have NB : Hid (n + wt = (c + 1) * wt ∧ n + wt ≤ 24576) := Lib.hid (by
        have h : n + wt = (c + 1) * wt := by rw [HNN.out, Nat.add_mul, Nat.one_mul]
        exact ⟨h, by rw [h]; exact Nat.le_trans (Nat.mul_le_mul (show c + 1 ≤ 4096 by omega) HW.out.2) (by omega)⟩)
      have HF := Lib.hid (HG.out c wr hlt SW.out.bel)
      go_wp2_with fail
      refine HF.out.mono ?_
      rintro e w7 ⟨vz, rfl, ho, hb⟩
      obtain ⟨gz, cz, rfl, hnews⟩ := own_form ho HLJ.out HW.out.1
      have HNW := Lib.hid hnews
      have R8 := Lib.hid (HR.out.new hb ho)
      have O8 := Lib.hid (R8.out.row (v := .slice ag n cg) (xs := gatherL F c) (by simp) HPL.out)
      clear hb ho HR HF hnews SW
      go_wp2_with (at_builtin; go_must (refine wpList_append_lies _ rfl _ _ 25 rfl w2.heap.size 3 i0 (.int .i64 0) 1 8 Try.underlying25 J0.out J1.out J2.out J3.out rfl (by decide) _ n (ints (gatherL F c)) rfl O8.out ⟨gz, 0, none⟩ wt cz (ints (F c)) rfl ?c1 HNW.out (one_cells _) ?c2 ?c3 ?c4 ?c5 _ rfl ?_))
      case c1 => rw [ints_len, HLJ.out, Nat.mul_one]
      case c2 => exact HW.out.1
      case c3 => unfold maxLen; have := NB.out.2; omega
      case c4 => have := NB.out.2; omega
      case c5 => exact R8.out.bel.size
      intro g1 cap1 w8 hown hgrow hl1 _
      rw [← ints_append] at hown
      have happ := R8.out.swap.app hown (by rw [List.length_append, HPL.out, HLJ.out]) hgrow hl1
      rw [HSU.out] at happ
      have R9 := Lib.hid (happ.sub (List.Sublist.cons_cons _ (List.Sublist.cons _ (List.Sublist.refl _))))
      clear hown hgrow hl1 happ O8 R8 HNW
      go_wp2
      go_roundw
      case rel => exact ⟨c + 1, n + wt, cap1, some ⟨g1, 0, none⟩, by omega, by go_num, rfl, NB.out.2, NB.out.1, R9⟩
      case measure => simp [intOf]; omega
    · obtain rfl : c = N := by omega
      have R3 := Lib.hid HR.out.drew
      have S3 := Lib.hid SW.out.drew
      obtain ⟨⟨s0, s1, s2⟩, -⟩ := S3.out.at (r := w.heap.size) (a := .slice al m cl) (b := .slice ad m cd) (c := .slice ax mx cx) (by simp)
      have AR1 := Lib.hid True.intro
      have AR2 := Lib.hid True.intro
      clear HR SW S2
      go_wp2
      go_region_held3 (fun w' => w'.cell? ⟨w.heap.size, 0, none⟩ = some (.slice al m cl) ∧ w'.cell? ⟨w.heap.size, 1, none⟩ = some (.slice ad m cd) ∧ w'.cell? ⟨w.heap.size, 2, none⟩ = some (.slice ax mx cx)) (first | exact ⟨s0, s1, s2⟩ | with_reducible exact set3_keep (Nat.ne_of_lt (Nat.lt_succ_self _)) s0 s1 s2) (first
        | (go_at_call 146; have AR := AR1; clear AR AR1; refine (HI1.out _ S3.out.bel).mono ?_; rintro e w4 ⟨u1, rfl, ho, hb⟩; obtain ⟨a1, k1, rfl, -⟩ := ints_form ho.rd; have R4 := Lib.hid (R3.out.new hb ho); have S4 := Lib.hid (S3.out.step hb); clear ho hb s0 s1 s2; obtain ⟨⟨s0, s1, s2⟩, -⟩ := S4.out.at (r := w.heap.size) (a := .slice al m cl) (b := .slice ad m cd) (c := .slice ax mx cx) (by simp))
        | (go_at_call 146; have AR := AR2; clear AR AR2; refine (HI2.out _ S4.out.bel).mono ?_; rintro e w5 ⟨u2, rfl, ho, hb⟩; obtain ⟨a2, k2, rfl, -⟩ := ints_form ho.rd; have R5 := Lib.hid (R4.out.new hb ho); have S5 := Lib.hid (S4.out.step hb); clear ho hb s0 s1 s2; obtain ⟨⟨s0, s1, s2⟩, -⟩ := S5.out.at (r := w.heap.size) (a := .slice al m cl) (b := .slice ad m cd) (c := .slice ax mx cx) (by simp); obtain ⟨⟨t0, t1, t2⟩, f0, f1, f2⟩ := S5.out.at (r := w.heap.size + 1) (a := nilV) (b := nilV) (c := nilV) (by simp)))
      clear s0 s1 s2
      go_wp2
      refine bodyPost_ret (v := tenV (.slice a1 L.length k1) (.slice a2 D.length k2) (.slice ag n cg)) (by simp [results, Try.results144, go_sem, t0, t1, t2]) rfl ?_
      have h1 := R5.out.perm (rows' := [(.slice a1 L.length k1, L), (.slice a2 D.length k2, D), (.slice ag n cg, gatherL F c)]) (List.Perm.swap _ _ _)
      have h2 := (h1.ownG.set3 (r := w.heap.size + 1) hwl (.slice a1 L.length k1) (.slice a2 D.length k2) (.slice ag n cg))
      refine ⟨_, _, _, rfl, OwnG.wide h2 (by omega) (by simp) (Nat.le_refl _), ?_⟩
      exact (((S5.out.bel.setCell (p := ⟨w.heap.size + 1, 0, none⟩) (by show w.heap.size ≤ w.heap.size + 1; omega) _).setCell (p := ⟨w.heap.size + 1, 1, none⟩) (by show w.heap.size ≤ w.heap.size + 1; omega) _).setCell (p := ⟨w.heap.size + 1, 2, none⟩) (by show w.heap.size ≤ w.heap.size + 1; omega) _)
theorem filled_impl3 {B K : Nat} {c1 c2 c3 lv dv xv : Value} {k p q : Int} {L D X : List Int} {wt : Nat} {F : Nat → List Int} {w : World} (h : RdT B w lv dv xv L D X) (hB : B ≤ w.heap.size) (hn : LenT L D X) (hI : allI L) (ht : tensorB k p q L D X = true) (hw1 : 1 ≤ wt) (hw2 : wt ≤ 6) (hK : ∀ (args : Array Value) (w : World), (callFunc K args).run Try.prog w = .ok (.enter K args) w) (hl : ∀ i, i < (prodL D).toNat → (F i).length = wt) (hG : ∀ (j : Nat) (W : World), j < (prodL D).toNat → Below w.heap.size w W → Calls Try.prog K #[.int .i64 j, c1, c2, c3] W (NewRow W (F j))) :
    Calls Try.prog 144 #[tenV lv dv xv, .func (.func K) #[] #[c1, c2, c3]] w (NewTen w L D (gatherL F (prodL D).toNat)) := by
  obtain ⟨hax, hs⟩ := tensorB_prod ht
  obtain ⟨al, cl, rfl, -⟩ := ints_form h.l
  obtain ⟨ad, cd, rfl, -⟩ := ints_form h.d
  obtain ⟨ax, cx, rfl, -⟩ := ints_form h.x
  have e1 : D.length = L.length := hax.2.1.symm
  rw [e1] at h ⊢
  exact filled_full3 h hB hn hI hs.1 rfl hax.2.1 hax.1 hs.2 hw1 hw2 hK hl hG

set_option maxHeartbeats 6400000 in
theorem filled_full4 {B K : Nat} {c1 c2 c3 c4 : Value} {L D X : List Int} {N wt m mx cl cd cx : Nat} {al ad ax : Option Addr} {F : Nat → List Int} {w : World} (h : RdT B w (.slice al m cl) (.slice ad m cd) (.slice ax mx cx) L D X) (hB : B ≤ w.heap.size) (hn : LenT L D X) (hI : allI L) (hs : sizeI L D = (N : Int)) (hm : m = L.length) (hm2 : m = D.length) (hm12 : m ≤ 12) (hN : N ≤ 4096) (hw1 : 1 ≤ wt) (hw2 : wt ≤ 6) (hK : ∀ (args : Array Value) (w : World), (callFunc K args).run Try.prog w = .ok (.enter K args) w) (hl : ∀ i, i < N → (F i).length = wt) (hG : ∀ (j : Nat) (W : World), j < N → Below w.heap.size w W → Calls Try.prog K #[.int .i64 j, c1, c2, c3, c4] W (NewRow W (F j))) :
    Calls Try.prog 144 #[tenV (.slice al m cl) (.slice ad m cd) (.slice ax mx cx), .func (.func K) #[] #[c1, c2, c3, c4]] w (NewTen w L D (gatherL F N)) := by
  have HT := Lib.hid h
  have HB := Lib.hid hB
  have HG := Lib.hid hG
  have HL := Lib.hid hl
  have HM := Lib.hid (And.intro hm hm2)
  obtain ⟨i0, hi, hz0, hz1, hz2⟩ := info_parts infoInt
  have J0 := Lib.hid hi
  have J1 := Lib.hid hz0
  have J2 := Lib.hid hz1
  have J3 := Lib.hid hz2
  have S0 : Hid (Rs w ((w.alloc (.cells #[.slice al m cl, .slice ad m cd, .slice ax mx cx] 49)).alloc (.cells #[nilV, nilV, nilV] 49)) [(w.heap.size + 1, nilV, nilV, nilV), (w.heap.size, .slice al m cl, .slice ad m cd, .slice ax mx cx)] []) := by
    have h := ((Rs.start w).box (.slice al m cl) (.slice ad m cd) (.slice ax mx cx) 49).box nilV nilV nilV 49
    simp only [World.size_alloc] at h
    exact h
  have HSZ := Lib.hid (size_impl (HT.out.below S0.out.bel hB) (Nat.le_trans hB S0.out.bel.size) hn hI)
  rw [hs] at HSZ
  have HI1 := Lib.hid (fun (w1 : World) (hb : Below w.heap.size w w1) => clone_any (HT.out.below hb HB.out).l (Nat.le_trans HB.out hb.size) (by omega))
  have HI2 := Lib.hid (fun (w1 : World) (hb : Below w.heap.size w w1) => clone_any (HT.out.below hb HB.out).d (Nat.le_trans HB.out hb.size) (by omega))
  have HGA : Hid (∀ j, j ≤ N → (gatherL F j).length = j * wt) := Lib.hid (fun j hj => gather_len j (fun i hi => HL.out i (by omega)))
  have HW := Lib.hid (And.intro hw1 hw2)
  clear h hB hn hI hs hm hm2 hl hG hi hz0 hz1 hz2 hw1 hw2
  go_enter Try.func144, Try.ntmps144
  go_wp2_with fail
  refine HSZ.out.mono ?_
  rintro e w2 ⟨rfl, hb⟩
  have S2 := Lib.hid (S0.out.step hb)
  have hwl : w.heap.size + 1 < w2.heap.size := by have := (S2.out.bx (w.heap.size + 1, nilV, nilV, nilV) (by simp)).lt; exact this
  clear hb HSZ S0
  go_wp2
  go_loopw [5, 9] (fun u i wr => ∃ (c n cg : Nat) (ag : Option Addr), c ≤ N ∧ i = .int .i64 c ∧ u = .slice ag n cg ∧ n ≤ 24576 ∧ Hid (n = c * wt) ∧ Hid (Rs w2 wr [] [(.slice ag n cg, gatherL F c)])) (fun _ i _ => N - (intOf i).toNat)
  case atStart => exact ⟨0, 0, 0, none, by omega, rfl, rfl, by omega, Lib.hid (by simp), Lib.hid (Rs.start w2).nil⟩
  case round =>
    obtain ⟨c, n, cg, ag, hc, rfl, rfl, hnn, HNN, HR⟩ := hrel
    have SW := Lib.hid (S2.out.step HR.out.bel)
    by_cases hlt : c < N
    · have HLJ := Lib.hid (HL.out c hlt)
      have HPL : Hid ((gatherL F c).length = n) := Lib.hid ((HGA.out c hc).trans HNN.out.symm)
      have HSU : Hid (gatherL F c ++ F c = gatherL F (c + 1)) := Lib.hid (gather_succ _ _).symm
      have NB : Hid (n + wt = (c + 1) * wt ∧ n + wt ≤ 24576) := Lib.hid (by
        have h : n + wt = (c + 1) * wt := by rw [HNN.out, Nat.add_mul, Nat.one_mul]
        exact ⟨h, by rw [h]; exact Nat.le_trans (Nat.mul_le_mul (show c + 1 ≤ 4096 by omega) HW.out.2) (by omega)⟩)
      have HF := Lib.hid (HG.out c wr hlt SW.out.bel)
      go_wp2_with fail
      refine HF.out.mono ?_
      rintro e w7 ⟨vz, rfl, ho, hb⟩
      obtain ⟨gz, cz, rfl, hnews⟩ := own_form ho HLJ.out HW.out.1
      have HNW := Lib.hid hnews
      have R8 := Lib.hid (HR.out.new hb ho)
      have O8 := Lib.hid (R8.out.row (v := .slice ag n cg) (xs := gatherL F c) (by simp) HPL.out)
      clear hb ho HR HF hnews SW
      go_wp2_with (at_builtin; go_must (refine wpList_append_lies _ rfl _ _ 25 rfl w2.heap.size 3 i0 (.int .i64 0) 1 8 Try.underlying25 J0.out J1.out J2.out J3.out rfl (by decide) _ n (ints (gatherL F c)) rfl O8.out ⟨gz, 0, none⟩ wt cz (ints (F c)) rfl ?c1 HNW.out (one_cells _) ?c2 ?c3 ?c4 ?c5 _ rfl ?_))
      case c1 => rw [ints_len, HLJ.out, Nat.mul_one]
      case c2 => exact HW.out.1
      case c3 => unfold maxLen; have := NB.out.2; omega
      case c4 => have := NB.out.2; omega
      case c5 => exact R8.out.bel.size
      intro g1 cap1 w8 hown hgrow hl1 _
      rw [← ints_append] at hown
      have happ := R8.out.swap.app hown (by rw [List.length_append, HPL.out, HLJ.out]) hgrow hl1
      rw [HSU.out] at happ
      have R9 := Lib.hid (happ.sub (List.Sublist.cons_cons _ (List.Sublist.cons _ (List.Sublist.refl _))))
      clear hown hgrow hl1 happ O8 R8 HNW
      go_wp2
      go_roundw
      case rel => exact ⟨c + 1, n + wt, cap1, some ⟨g1, 0, none⟩, by omega, by go_num, rfl, NB.out.2, NB.out.1, R9⟩
      case measure => simp [intOf]; omega
    · obtain rfl : c = N := by omega
      have R3 := Lib.hid HR.out.drew
      have S3 := Lib.hid SW.out.drew
      obtain ⟨⟨s0, s1, s2⟩, -⟩ := S3.out.at (r := w.heap.size) (a := .slice al m cl) (b := .slice ad m cd) (c := .slice ax mx cx) (by simp)
      have AR1 := Lib.hid True.intro
      have AR2 := Lib.hid True.intro
      clear HR SW S2
      go_wp2
      go_region_held3 (fun w' => w'.cell? ⟨w.heap.size, 0, none⟩ = some (.slice al m cl) ∧ w'.cell? ⟨w.heap.size, 1, none⟩ = some (.slice ad m cd) ∧ w'.cell? ⟨w.heap.size, 2, none⟩ = some (.slice ax mx cx)) (first | exact ⟨s0, s1, s2⟩ | with_reducible exact set3_keep (Nat.ne_of_lt (Nat.lt_succ_self _)) s0 s1 s2) (first
        | (go_at_call 146; have AR := AR1; clear AR AR1; refine (HI1.out _ S3.out.bel).mono ?_; rintro e w4 ⟨u1, rfl, ho, hb⟩; obtain ⟨a1, k1, rfl, -⟩ := ints_form ho.rd; have R4 := Lib.hid (R3.out.new hb ho); have S4 := Lib.hid (S3.out.step hb); clear ho hb s0 s1 s2; obtain ⟨⟨s0, s1, s2⟩, -⟩ := S4.out.at (r := w.heap.size) (a := .slice al m cl) (b := .slice ad m cd) (c := .slice ax mx cx) (by simp))
        | (go_at_call 146; have AR := AR2; clear AR AR2; refine (HI2.out _ S4.out.bel).mono ?_; rintro e w5 ⟨u2, rfl, ho, hb⟩; obtain ⟨a2, k2, rfl, -⟩ := ints_form ho.rd; have R5 := Lib.hid (R4.out.new hb ho); have S5 := Lib.hid (S4.out.step hb); clear ho hb s0 s1 s2; obtain ⟨⟨s0, s1, s2⟩, -⟩ := S5.out.at (r := w.heap.size) (a := .slice al m cl) (b := .slice ad m cd) (c := .slice ax mx cx) (by simp); obtain ⟨⟨t0, t1, t2⟩, f0, f1, f2⟩ := S5.out.at (r := w.heap.size + 1) (a := nilV) (b := nilV) (c := nilV) (by simp)))
      clear s0 s1 s2
      go_wp2
      refine bodyPost_ret (v := tenV (.slice a1 L.length k1) (.slice a2 D.length k2) (.slice ag n cg)) (by simp [results, Try.results144, go_sem, t0, t1, t2]) rfl ?_
      have h1 := R5.out.perm (rows' := [(.slice a1 L.length k1, L), (.slice a2 D.length k2, D), (.slice ag n cg, gatherL F c)]) (List.Perm.swap _ _ _)
      have h2 := (h1.ownG.set3 (r := w.heap.size + 1) hwl (.slice a1 L.length k1) (.slice a2 D.length k2) (.slice ag n cg))
      refine ⟨_, _, _, rfl, OwnG.wide h2 (by omega) (by simp) (Nat.le_refl _), ?_⟩
      exact (((S5.out.bel.setCell (p := ⟨w.heap.size + 1, 0, none⟩) (by show w.heap.size ≤ w.heap.size + 1; omega) _).setCell (p := ⟨w.heap.size + 1, 1, none⟩) (by show w.heap.size ≤ w.heap.size + 1; omega) _).setCell (p := ⟨w.heap.size + 1, 2, none⟩) (by show w.heap.size ≤ w.heap.size + 1; omega) _)
theorem filled_impl4 {B K : Nat} {c1 c2 c3 c4 lv dv xv : Value} {k p q : Int} {L D X : List Int} {wt : Nat} {F : Nat → List Int} {w : World} (h : RdT B w lv dv xv L D X) (hB : B ≤ w.heap.size) (hn : LenT L D X) (hI : allI L) (ht : tensorB k p q L D X = true) (hw1 : 1 ≤ wt) (hw2 : wt ≤ 6) (hK : ∀ (args : Array Value) (w : World), (callFunc K args).run Try.prog w = .ok (.enter K args) w) (hl : ∀ i, i < (prodL D).toNat → (F i).length = wt) (hG : ∀ (j : Nat) (W : World), j < (prodL D).toNat → Below w.heap.size w W → Calls Try.prog K #[.int .i64 j, c1, c2, c3, c4] W (NewRow W (F j))) :
    Calls Try.prog 144 #[tenV lv dv xv, .func (.func K) #[] #[c1, c2, c3, c4]] w (NewTen w L D (gatherL F (prodL D).toNat)) := by
  obtain ⟨hax, hs⟩ := tensorB_prod ht
  obtain ⟨al, cl, rfl, -⟩ := ints_form h.l
  obtain ⟨ad, cd, rfl, -⟩ := ints_form h.d
  obtain ⟨ax, cx, rfl, -⟩ := ints_form h.x
  have e1 : D.length = L.length := hax.2.1.symm
  rw [e1] at h ⊢
  exact filled_full4 h hB hn hI hs.1 rfl hax.2.1 hax.1 hs.2 hw1 hw2 hK hl hG

end Go.Proofs.Ytgbmacppgaopfaa
