
/- (Tensor).filled for a function that answers a row which is only read (a view). -/
import Derived.Test.YtceidekfcnmeaaaFill
import Derived.Test.YtceidekfcnmeaaaPermuted
import Derived.Test.YtceidekfcnmeaaaTensRow
import Derived.Test.YtceidekfcnmeaaaSliceMath
import Derived.Deep.RegionHeld3
namespace Go.Proofs.Ytceidekfcnmeaaa
set_option maxRecDepth 20000
open Go.RowKit

theorem rd_form {B : Nat} {w : World} {v : Value} {xs : List Int} (h : Rd B w v (ints xs)) {n : Nat} (hn : xs.length = n) (h0 : 1 ≤ n) : ∃ g off cap, v = .slice (some ⟨g, off, none⟩) n cap ∧ ∀ j u, (ints xs)[j]? = some u → w.cell? ((⟨g, off, none⟩ : Addr).add j) = some u := by
  obtain ⟨a, cap, rfl, -⟩ := ints_form h
  rw [hn] at h ⊢
  obtain ⟨x, hx⟩ : ∃ x, xs[0]? = some x := ⟨_, List.getElem?_eq_getElem (by omega)⟩
  obtain ⟨g, off, rfl, -, -⟩ := h.cellAt hx
  refine ⟨g, off, cap, rfl, fun j u hu => ?_⟩
  have hj : j < xs.length := by
    have := (List.getElem?_eq_some_iff.1 hu).1
    simpa [ints] using this
  obtain ⟨b2, o2, e, -, h2⟩ := h.cellAt (List.getElem?_eq_getElem hj)
  injection e with e
  injection e with e1 e2
  subst e1 e2
  have e : ((⟨g, off, none⟩ : Addr).add j) = ⟨g, off + j, none⟩ := by unfold Addr.add; split <;> simp_all
  rw [e, h2]
  rw [← hu]
  simp [ints, hj]

set_option maxHeartbeats 6400000 in
theorem filled_view3 {B K : Nat} {c1 c2 c3 : Value} {L D X : List Int} {N wt m mx cl cd cx : Nat} {al ad ax : Option Addr} {F : Nat → List Int} {w : World} (h : RdT B w (.slice al m cl) (.slice ad m cd) (.slice ax mx cx) L D X) (hB : B ≤ w.heap.size) (hn : LenT L D X) (hI : allI L) (hs : sizeI L D = (N : Int)) (hm : m = L.length) (hm2 : m = D.length) (hm12 : m ≤ 12) (hN : N ≤ 4096) (hw1 : 1 ≤ wt) (hw2 : wt ≤ 6) (hK : ∀ (args : Array Value) (w : World), (callFunc K args).run Try.prog w = .ok (.enter K args) w) (hl : ∀ i, i < N → (F i).length = wt) (hG : ∀ (j : Nat) (W : World), j < N → Below w.heap.size w W → Calls Try.prog K #[.int .i64 j, c1, c2, c3] W (fun e w' => ∃ v, e = .returned v ∧ Rd w'.heap.size w' v (ints (F j)) ∧ Below W.heap.size W w')) :
    Calls Try.prog 27 #[tenV (.slice al m cl) (.slice ad m cd) (.slice ax mx cx), .func (.func K) #[] #[c1, c2, c3]] w (NewTen w L D (gatherL F N)) := by
  have HT := Lib.hid h
  have HB := Lib.hid hB
  have HG := Lib.hid hG
  have HL := Lib.hid hl
  have HM := Lib.hid (And.intro hm hm2)
  obtain ⟨i0, hi, hz0, hz1, hz2⟩ := info_parts infoInt
  have J0 := Lib.hid hi
  have J1 := Lib.hid hz0
  have J2 := Lib.hid hz1
  have J3 := Lib.hid hz2
  have S0 : Hid (Rs w ((w.alloc (.cells #[.slice al m cl, .slice ad m cd, .slice ax mx cx] 28)).alloc (.cells #[nilV, nilV, nilV] 28)) [(w.heap.size + 1, nilV, nilV, nilV), (w.heap.size, .slice al m cl, .slice ad m cd, .slice ax mx cx)] []) := by
    have h := ((Rs.start w).box (.slice al m cl) (.slice ad m cd) (.slice ax mx cx) 28).box nilV nilV nilV 28
    simp only [World.size_alloc] at h
    exact h
  have HSZ := Lib.hid (size_impl (HT.out.below S0.out.bel hB) (Nat.le_trans hB S0.out.bel.size) hn hI)
  rw [hs] at HSZ
  have HI1 := Lib.hid (fun (w1 : World) (hb : Below w.heap.size w w1) => clone_any (HT.out.below hb HB.out).l (Nat.le_trans HB.out hb.size) (by omega))
  have HI2 := Lib.hid (fun (w1 : World) (hb : Below w.heap.size w w1) => clone_any (HT.out.below hb HB.out).d (Nat.le_trans HB.out hb.size) (by omega))
  have HGA : Hid (∀ j, j ≤ N → (gatherL F j).length = j * wt) := Lib.hid (fun j hj => gather_len j (fun i hi => HL.out i (by omega)))
  have HW := Lib.hid (And.intro hw1 hw2)
  clear h hB hn hI hs hm hm2 hl hG hi hz0 hz1 hz2 hw1 hw2
  go_enter Try.func27, Try.ntmps27
  go_wp2_with fail
  refine HSZ.out.mono ?_
  rintro e w2 ⟨rfl, hb⟩
  have S2 := Lib.hid (S0.out.step hb)
  have hwl : w.heap.size + 1 < w2.heap.size := by have := (S2.out.bx (w.heap.size + 1, nilV, nilV, nilV) (by simp)).lt; exact this
  clear hb HSZ S0
  go_wp2
  go_loopw [5, 9] (fun u i wr => ∃ (c n cg : Nat) (ag : Option Addr), c ≤ N ∧ i = .int .i64 c ∧ u = .slice ag n cg ∧ n ≤ 24576 ∧ Hid (n = c * wt) ∧ Hid (Rs w2 wr [] [(.slice ag n cg, gatherL F c)])) (fun _ i _ => N - (intOf i).toNat)
  case atStart => exact ⟨0, 0, 0, none, by omega, rfl, rfl, by omega, Lib.hid (by simp), Lib.hid (Rs.start w2).nil⟩
  case round =>
    obtain ⟨c, n, cg, ag, hc, rfl, rfl, hnn, HNN, HR⟩ := hrel
    have SW := Lib.hid (S2.out.step HR.out.bel)
    by_cases hlt : c < N
    · have HLJ := Lib.hid (HL.out c hlt)
      have HPL : Hid ((gatherL F c).length = n) := Lib.hid ((HGA.out c hc).trans HNN.out.symm)
      have HSU : Hid (gatherL F c ++ F c = gatherL F (c + 1)) := Lib.hid (gather_succ _ _).symm
      have NB : Hid (n + wt = (c + 1) * wt ∧ n + wt ≤ 24576) := Lib.hid (by
        have h : n + wt = (c + 1) * wt := by rw [HNN.out, Nat.add_mul, Nat.one_mul]
        exact ⟨h, by rw [h]; exact Nat.le_trans (Nat.mul_le_mul (show c + 1 ≤ 4096 by omega) HW.out.2) (by omega)⟩)
      have HF := Lib.hid (HG.out c wr hlt SW.out.bel)
      go_wp2_with fail
      refine HF.out.mono ?_
      rintro e w7 ⟨vz, rfl, ho, hb⟩
      obtain ⟨gz, oz, cz, rfl, hnews⟩ := rd_form ho HLJ.out HW.out.1
      have HNW := Lib.hid hnews
      have R8 := Lib.hid (HR.out.step hb)
      have O8 := Lib.hid (R8.out.row (v := .slice ag n cg) (xs := gatherL F c) (by simp) HPL.out)
      clear hb ho HR HF hnews SW
      go_wp2_with (at_builtin; go_must (refine wpList_append_lies _ rfl _ _ 26 rfl w2.heap.size 3 i0 (.int .i64 0) 1 8 Try.underlying26 J0.out J1.out J2.out J3.out rfl (by decide) _ n (ints (gatherL F c)) rfl O8.out ⟨gz, oz, none⟩ wt cz (ints (F c)) rfl ?c1 HNW.out (one_cells _) ?c2 ?c3 ?c4 ?c5 _ rfl ?_))
      case c1 => rw [ints_len, HLJ.out, Nat.mul_one]
      case c2 => exact HW.out.1
      case c3 => unfold maxLen; have := NB.out.2; omega
      case c4 => have := NB.out.2; omega
      case c5 => exact R8.out.bel.size
      intro g1 cap1 w8 hown hgrow hl1 _
      rw [← ints_append] at hown
      have happ := R8.out.app hown (by rw [List.length_append, HPL.out, HLJ.out]) hgrow hl1
      rw [HSU.out] at happ
      have R9 := Lib.hid happ
      clear hown hgrow hl1 happ O8 R8 HNW
      go_wp2
      go_roundw
      case rel => exact ⟨c + 1, n + wt, cap1, some ⟨g1, 0, none⟩, by omega, by go_num, rfl, NB.out.2, NB.out.1, R9⟩
      case measure => simp [intOf]; omega
    · obtain rfl : c = N := by omega
      have R3 := Lib.hid HR.out.drew
      have S3 := Lib.hid SW.out.drew
      obtain ⟨⟨s0, s1, s2⟩, -⟩ := S3.out.at (r := w.heap.size) (a := .slice al m cl) (b := .slice ad m cd) (c := .slice ax mx cx) (by simp)
      have AR1 := Lib.hid True.intro
      have AR2 := Lib.hid True.intro
      clear HR SW S2
      go_wp2
      go_region_held3 (fun w' => w'.cell? ⟨w.heap.size, 0, none⟩ = some (.slice al m cl) ∧ w'.cell? ⟨w.heap.size, 1, none⟩ = some (.slice ad m cd) ∧ w'.cell? ⟨w.heap.size, 2, none⟩ = some (.slice ax mx cx)) (first | exact ⟨s0, s1, s2⟩ | with_reducible exact set3_keep (Nat.ne_of_lt (Nat.lt_succ_self _)) s0 s1 s2) (first
        | (go_at_call 46; have AR := AR1; clear AR AR1; refine (HI1.out _ S3.out.bel).mono ?_; rintro e w4 ⟨u1, rfl, ho, hb⟩; obtain ⟨a1, k1, rfl, -⟩ := ints_form ho.rd; have R4 := Lib.hid (R3.out.new hb ho); have S4 := Lib.hid (S3.out.step hb); clear ho hb s0 s1 s2; obtain ⟨⟨s0, s1, s2⟩, -⟩ := S4.out.at (r := w.heap.size) (a := .slice al m cl) (b := .slice ad m cd) (c := .slice ax mx cx) (by simp))
        | (go_at_call 46; have AR := AR2; clear AR AR2; refine (HI2.out _ S4.out.bel).mono ?_; rintro e w5 ⟨u2, rfl, ho, hb⟩; obtain ⟨a2, k2, rfl, -⟩ := ints_form ho.rd; have R5 := Lib.hid (R4.out.new hb ho); have S5 := Lib.hid (S4.out.step hb); clear ho hb s0 s1 s2; obtain ⟨⟨s0, s1, s2⟩, -⟩ := S5.out.at (r := w.heap.size) (a := .slice al m cl) (b := .slice ad m cd) (c := .slice ax mx cx) (by simp); obtain ⟨⟨t0, t1, t2⟩, f0, f1, f2⟩ := S5.out.at (r := w.heap.size + 1) (a := nilV) (b := nilV) (c := nilV) (by simp)))
      clear s0 s1 s2
      go_wp2
      refine bodyPost_ret (v := tenV (.slice a1 L.length k1) (.slice a2 D.length k2) (.slice ag n cg)) (by simp [results, Try.results27, go_sem, t0, t1, t2]) rfl ?_
      have h1 := R5.out.perm (rows' := [(.slice a1 L.length k1, L), (.slice a2 D.length k2, D), (.slice ag n cg, gatherL F c)]) (List.Perm.swap _ _ _)
      have h2 := (h1.ownG.set3 (r := w.heap.size + 1) hwl (.slice a1 L.length k1) (.slice a2 D.length k2) (.slice ag n cg))
      refine ⟨_, _, _, rfl, OwnG.wide h2 (by omega) (by simp) (Nat.le_refl _), ?_⟩
      exact (((S5.out.bel.setCell (p := ⟨w.heap.size + 1, 0, none⟩) (by show w.heap.size ≤ w.heap.size + 1; omega) _).setCell (p := ⟨w.heap.size + 1, 1, none⟩) (by show w.heap.size ≤ w.heap.size + 1; omega) _).setCell (p := ⟨w.heap.size + 1, 2, none⟩) (by show w.heap.size ≤ w.heap.size + 1; omega) _)
end Go.Proofs.Ytceidekfcnmeaaa
namespace Go.Proofs.Ytceidekfcnmeaaa
set_option maxRecDepth 20000
open Go.RowKit

set_option maxHeartbeats 800000 in
theorem stack_view {bl bs br g o n ca cp j : Nat} {pl : Option Addr} {k p q : Int} {a1 a2 a3 : Option Addr} {q1 q2 q3 c1 c2 c3 : Nat} {w : World} {R : Ending → World → Prop}
    (hn : 1 ≤ n) (hj : j ≤ 4096)
    (hl : w.cell? ⟨bl, 0, none⟩ = some (.slice (some ⟨g, o, none⟩) n ca)) (hs : w.cell? ⟨bs, 0, none⟩ = some (.slice pl n cp))
    (hr : w.cell? ⟨br, 0, none⟩ = some (.int .i64 k) ∧ w.cell? ⟨br, 1, none⟩ = some (.int .i64 p) ∧ w.cell? ⟨br, 2, none⟩ = some (.int .i64 q))
    (hc : w.cell? ⟨g, o + j % n * 3, none⟩ = some (.slice a1 q1 c1) ∧ w.cell? ⟨g, o + j % n * 3 + 1, none⟩ = some (.slice a2 q2 c2) ∧ w.cell? ⟨g, o + j % n * 3 + 2, none⟩ = some (.slice a3 q3 c3))
    (hE : Calls Try.prog 29 #[tenV (.slice a1 q1 c1) (.slice a2 q2 c2) (.slice a3 q3 c3), ringV k p q, .int .i64 ((j / n : Nat) : Int)] w.drew R)
    (hR : ∀ e W, R e W → (∃ v, e = .returned v) ∧ Below w.heap.size w W) :
    Calls Try.prog 28 #[.int .i64 j, .pointer (some ⟨bl, 0, none⟩), .pointer (some ⟨bs, 0, none⟩), .pointer (some ⟨br, 0, none⟩)] w R := by
  have HE := Lib.hid hE
  have HR := Lib.hid hR
  have e1 : (j : Int).tmod (n : Int) = ((j % n : Nat) : Int) := (Int.ofNat_tmod j n).symm
  have e2 : (j : Int).tdiv (n : Int) = ((j / n : Nat) : Int) := (Int.ofNat_tdiv j n).symm
  have e0 : ¬ n = 0 := by omega
  have e3 : j % n < n := Nat.mod_lt _ hn
  have e4 : j / n ≤ 4096 := Nat.le_trans (Nat.div_le_self _ _) hj
  obtain ⟨r, hr0⟩ : ∃ r, r = j % n := ⟨_, rfl⟩
  obtain ⟨t, ht0⟩ : ∃ t, t = j / n := ⟨_, rfl⟩
  rw [← hr0] at e1 e3 hc
  rw [← ht0] at e2 e4 HE
  have e5 : IntKind.i64.wrap (t : Int) = (t : Int) := IntWalk.i64_in _ (by omega)
  obtain ⟨r0, r1, r2⟩ := hr
  obtain ⟨s0, s1, s2⟩ := hc
  clear hE hR hr0 ht0
  go_enter Try.func28, Try.ntmps28
  go_wp2
  refine wp_region_held_drew (S := (fun w' => w'.cell? ⟨bl, 0, none⟩ = some (.slice (some ⟨g, o, none⟩) n ca) ∧ w'.cell? ⟨bs, 0, none⟩ = some (.slice pl n cp) ∧ (w'.cell? ⟨br, 0, none⟩ = some (.int .i64 k) ∧ w'.cell? ⟨br, 1, none⟩ = some (.int .i64 p) ∧ w'.cell? ⟨br, 2, none⟩ = some (.int .i64 q)) ∧ (w'.cell? ⟨g, o + r * 3, none⟩ = some (.slice a1 q1 c1) ∧ w'.cell? ⟨g, o + r * 3 + 1, none⟩ = some (.slice a2 q2 c2) ∧ w'.cell? ⟨g, o + r * 3 + 2, none⟩ = some (.slice a3 q3 c3)))) (by kernel_rfl) (by (try dsimp only); exact ⟨hl, hs, ⟨r0, r1, r2⟩, ⟨s0, s1, s2⟩⟩) (fun hHeld => ?_)
  refine wpAnyH_take (i := 0) (v := ?_) rfl (by kernel_rfl) (by kernel_rfl) (by kernel_rfl) (fun _ _ _ h => h) (Or.inl ⟨by rfl, ?_⟩) (by assumption) ?_
  rotate_left
  · intro w hSw; (try dsimp only at hSw); go_simp <;> with_reducible rfl
  try simp only [Act.put, List.getElem_toArray, List.getElem_cons_zero, List.setIfInBounds_toArray, List.set_cons_zero, List.set_cons_succ]
  refine wpAnyH_take (i := 1) (v := ?_) rfl (by kernel_rfl) (by kernel_rfl) (by kernel_rfl) (fun _ _ _ h => h) (Or.inl ⟨by rfl, ?_⟩) (by assumption) ?_
  rotate_left
  · intro w hSw; (try dsimp only at hSw); go_simp <;> with_reducible rfl
  try simp only [Act.put, List.getElem_toArray, List.getElem_cons_succ, List.getElem_cons_zero, List.setIfInBounds_toArray, List.set_cons_zero, List.set_cons_succ]
  refine wpAnyH_take (i := 2) (v := ?_) rfl (by kernel_rfl) (by kernel_rfl) (by kernel_rfl) (fun _ _ _ h => h) (Or.inl ⟨by rfl, ?_⟩) (by assumption) ?_
  rotate_left
  · intro w hSw; (try dsimp only at hSw); go_simp <;> with_reducible rfl
  try simp only [Act.put, List.getElem_toArray, List.getElem_cons_succ, List.getElem_cons_zero, List.setIfInBounds_toArray, List.set_cons_zero, List.set_cons_succ]
  refine wpAnyH_take (i := 3) (v := ?_) rfl (by kernel_rfl) (by kernel_rfl) (by kernel_rfl) (fun _ _ _ h => h) (Or.inl ⟨by rfl, ?_⟩) (by assumption) ?_
  rotate_left
  · intro w hSw; (try dsimp only at hSw); go_simp <;> with_reducible rfl
  try simp only [Act.put, List.getElem_toArray, List.getElem_cons_succ, List.getElem_cons_zero, List.setIfInBounds_toArray, List.set_cons_zero, List.set_cons_succ]
  refine wpAnyH_take (i := 4) (v := ?_) rfl (by kernel_rfl) (by kernel_rfl) (by kernel_rfl) (fun _ _ _ h => h) (Or.inl ⟨by rfl, ?_⟩) (by assumption) ?_
  rotate_left
  · intro w hSw; (try dsimp only at hSw); go_simp <;> with_reducible rfl
  try simp only [Act.put, List.getElem_toArray, List.getElem_cons_succ, List.getElem_cons_zero, List.setIfInBounds_toArray, List.set_cons_zero, List.set_cons_succ]
  refine wpAnyH_take (i := 5) (v := ?_) rfl (by kernel_rfl) (by kernel_rfl) (by kernel_rfl) (fun _ _ _ h => h) (Or.inl ⟨by rfl, ?_⟩) (by assumption) ?_
  rotate_left
  · intro w hSw; (try dsimp only at hSw); go_simp <;> with_reducible rfl
  try simp only [Act.put, List.getElem_toArray, List.getElem_cons_succ, List.getElem_cons_zero, List.setIfInBounds_toArray, List.set_cons_zero, List.set_cons_succ]
  refine wpAnyH_take (i := 6) (v := ?_) rfl (by kernel_rfl) (by kernel_rfl) (by kernel_rfl) (fun _ _ _ h => h) (Or.inl ⟨by rfl, ?_⟩) (by assumption) ?_
  rotate_left
  · intro w hSw; (try dsimp only at hSw); go_simp <;> with_reducible rfl
  try simp only [Act.put, List.getElem_toArray, List.getElem_cons_succ, List.getElem_cons_zero, List.setIfInBounds_toArray, List.set_cons_zero, List.set_cons_succ]
  refine wpAnyH_take (i := 7) (v := ?_) rfl (by kernel_rfl) (by kernel_rfl) (by kernel_rfl) (fun _ _ _ h => h) (Or.inl ⟨by rfl, ?_⟩) (by assumption) ?_
  rotate_left
  · intro w hSw; (try dsimp only at hSw); go_simp <;> with_reducible rfl
  try simp only [Act.put, List.getElem_toArray, List.getElem_cons_succ, List.getElem_cons_zero, List.setIfInBounds_toArray, List.set_cons_zero, List.set_cons_succ]
  refine wpAnyH_take (i := 8) (v := ?_) rfl (by kernel_rfl) (by kernel_rfl) (by kernel_rfl) (fun _ _ _ h => h) (Or.inl ⟨by rfl, ?_⟩) (by assumption) ?_
  rotate_left
  · intro w hSw; (try dsimp only at hSw); go_simp <;> with_reducible rfl
  try simp only [Act.put, List.getElem_toArray, List.getElem_cons_succ, List.getElem_cons_zero, List.setIfInBounds_toArray, List.set_cons_zero, List.set_cons_succ]
  refine wpAnyH_take (i := 9) (v := ?_) rfl (by kernel_rfl) (by kernel_rfl) (by kernel_rfl) (fun _ _ _ h => h) (Or.inl ⟨by rfl, ?_⟩) (by assumption) ?_
  rotate_left
  · intro w hSw; (try dsimp only at hSw); go_simp <;> with_reducible rfl
  try simp only [Act.put, List.getElem_toArray, List.getElem_cons_succ, List.getElem_cons_zero, List.setIfInBounds_toArray, List.set_cons_zero, List.set_cons_succ]
  refine wpAnyH_take (i := 10) (v := ?_) rfl (by kernel_rfl) (by kernel_rfl) (by kernel_rfl) (fun _ _ _ h => h) (Or.inl ⟨by rfl, ?_⟩) (by assumption) ?_
  rotate_left
  · intro w hSw; (try dsimp only at hSw); go_simp <;> with_reducible rfl
  try simp only [Act.put, List.getElem_toArray, List.getElem_cons_succ, List.getElem_cons_zero, List.setIfInBounds_toArray, List.set_cons_zero, List.set_cons_succ]
  refine wpAnyH_take (i := 11) (v := ?_) rfl (by kernel_rfl) (by kernel_rfl) (by kernel_rfl) (fun _ _ _ h => h) (Or.inl ⟨by rfl, ?_⟩) (by assumption) ?_
  rotate_left
  · intro w hSw; (try dsimp only at hSw); go_simp <;> with_reducible rfl
  try simp only [Act.put, List.getElem_toArray, List.getElem_cons_succ, List.getElem_cons_zero, List.setIfInBounds_toArray, List.set_cons_zero, List.set_cons_succ]
  refine wpAnyH_ready (rs := [12]) (by kernel_rfl) (by simp) ?_
  refine AllReadyH.cons rfl (fun K hK => ?_) AllReadyH.nil
  go_simp
  (go_at_call 29; refine HE.out.mono ?_; intro e WX hRR; obtain ⟨⟨v, rfl⟩, hb⟩ := HR.out e WX hRR; replace hl := (hb.cell (World.block_lt_of_cell? _ _ hl)).trans hl; replace hs := (hb.cell (World.block_lt_of_cell? _ _ hs)).trans hs; replace r0 := (hb.cell (World.block_lt_of_cell? _ _ r0)).trans r0; replace r1 := (hb.cell (World.block_lt_of_cell? _ _ r1)).trans r1; replace r2 := (hb.cell (World.block_lt_of_cell? _ _ r2)).trans r2; replace s0 := (hb.cell (World.block_lt_of_cell? _ _ s0)).trans s0; replace s1 := (hb.cell (World.block_lt_of_cell? _ _ s1)).trans s1; replace s2 := (hb.cell (World.block_lt_of_cell? _ _ s2)).trans s2; clear hb; change K _ _)
  skip
  refine hK.out _ _ (by (try dsimp only); exact ⟨hl, hs, ⟨r0, r1, r2⟩, ⟨s0, s1, s2⟩⟩) (fun hHeld => ?_)
  clear hK K
  try simp only [Act.put, List.getElem_toArray, List.getElem_cons_succ, List.getElem_cons_zero, List.setIfInBounds_toArray, List.set_cons_zero, List.set_cons_succ]
  refine wpAnyH_take (i := 13) (v := ?_) rfl (by kernel_rfl) (by kernel_rfl) (by kernel_rfl) (fun _ _ _ h => h) (Or.inl ⟨by rfl, ?_⟩) (by assumption) ?_
  rotate_left
  · intro w hSw; (try dsimp only at hSw); go_simp <;> with_reducible rfl
  try simp only [Act.put, List.getElem_toArray, List.getElem_cons_succ, List.getElem_cons_zero, List.setIfInBounds_toArray, List.set_cons_zero, List.set_cons_succ]
  refine wpAnyH_done (by kernel_rfl) ?_ _
  go_wp2_with fail
  exact hRR
end Go.Proofs.Ytceidekfcnmeaaa
