
/- The law FnExactSubNetwork, walked. -/
import Derived.Test.YtdheakjjnaifkaaNetAns
import Derived.Test.YtdheakjjnaifkaaSubNet
namespace Go.Proofs.Ytdheakjjnaifkaa
set_option maxRecDepth 20000
open Go.RowKit

/-- A network of the call's own, told without its order. -/
structure OwnNetP (w : World) (lo hi : Nat) (tv ov : Value) (ts : List TenE) (O : List Int) : Prop where
  t : OwnTs w lo hi tv ts
  o : Own w lo hi ov O
theorem OwnNetP.below {w w' : World} {lo hi : Nat} {tv ov : Value} {ts : List TenE} {O : List Int} (h : OwnNetP w lo hi tv ov ts O) (hb : Below w.heap.size w w') : OwnNetP w' lo hi tv ov ts O := ⟨h.t.below hb, h.o.below hb (Nat.le_refl _)⟩
theorem OwnNetP.kept {w w' : World} {lo hi l h' : Nat} {tv ov : Value} {ts : List TenE} {O : List Int} (h : OwnNetP w lo hi tv ov ts O) (hk : KeptOut w w' l h') (hd : hi ≤ l ∨ h' ≤ lo) : OwnNetP w' lo hi tv ov ts O := ⟨h.t.kept hk hd, ((OwnG.one h.o).kept hk hd).row⟩
theorem OwnNetP.tens {w : World} {lo hi : Nat} {tv ov : Value} {ts : List TenE} {O : List Int} (h : OwnNetP w lo hi tv ov ts O) : RdTs w.heap.size w tv ts := h.t.rd.mono h.t.le
theorem OwnNetP.opens {w : World} {lo hi : Nat} {tv ov : Value} {ts : List TenE} {O : List Int} (h : OwnNetP w lo hi tv ov ts O) : Rd w.heap.size w ov (ints O) := h.o.rd.mono h.o.2.2
theorem totT_bound {B : Nat} : ∀ {T : List TenE}, (∀ t ∈ T, wtT t ≤ B) → totT T ≤ T.length * B := by
  intro T
  induction T with
  | nil => intro _; simp [totT]
  | cons t r ih =>
    intro h
    have h1 := ih fun u hu => h u (List.mem_cons_of_mem _ hu)
    have h2 := h t List.mem_cons_self
    have e : totT (t :: r) = wtT t + totT r := by simp [totT]
    rw [e, List.length_cons, Nat.add_mul]
    omega
theorem St.apart2 {w0 w : World} {S : List (Nat × Nat × Value)} {R : List (Value × List Int)} {O : List Grp} (h : St w0 w S R O) (i j : Nat) {l1 h1 l2 h2 : Nat} {r1 r2 : List (Value × List Int)} (hi : O[i]? = some (l1, h1, r1)) (hj : O[j]? = some (l2, h2, r2)) (ne : i ≠ j) : h1 ≤ l2 ∨ h2 ≤ l1 := by
  obtain ⟨hil, ei⟩ := List.getElem?_eq_some_iff.1 hi
  obtain ⟨hjl, ej⟩ := List.getElem?_eq_some_iff.1 hj
  have hp := List.pairwise_iff_getElem.1 h.dis
  rcases Nat.lt_or_ge i j with hlt | hge
  · have := hp i j hil hjl hlt
    rw [ei, ej] at this
    exact this.symm
  · have := hp j i hjl hil (by omega)
    rw [ei, ej] at this
    exact this
/-- What both answer, told once. -/
theorem sub_pure (k p q : Int) (ts : List TenE) (O l : List Int) (ht : totT ts ≤ 1048576) : ∃ (kk pp qq : Int) (T : List TenE) (OO : List Int) (y : Bool),
    (∀ w e w', SubR w k p q ts O l e w' → ∃ tv ov, e = .returned (.tuple #[netV kk pp qq tv ov, .bool y]) ∧ OwnNetR w' w.heap.size w'.heap.size tv ov T OO ∧ Below w.heap.size w w') ∧
    (∀ w e w', SubQ w k p q ts O l e w' → ∃ tv ov, e = .returned (.tuple #[netV kk pp qq tv ov, .bool y]) ∧ OwnNetP w' w.heap.size w'.heap.size tv ov T OO ∧ Below w.heap.size w w') ∧
    T.length ≤ 12 ∧ 1 + totT T + OO.length ≤ 16777216 ∧ LenN T OO := by
  by_cases h : SubOk k p q ts O l
  · have hl : (pickT ts l).length ≤ 12 := by
      unfold pickT
      rw [List.length_map]
      have := okSub_len h.2.1
      have := h.1.2.1
      omega
    have hw : ∀ t ∈ pickT ts l, wtT t ≤ 1048576 := fun t ht' => Nat.le_trans (wt_le (pick_mem h.2.1 t ht')) ht
    have ho := netOk_opens (O := O) h.1 h.2.1
    rw [opS_is h.1.2.2.1.ax h.1.2.1 h.2.1] at ho
    refine ⟨k, p, q, pickT ts l, openL ts O (setL l), true, fun w e w' hr => ?_, fun w e w' hr => ?_, hl, ?_, by omega, fun t ht' => ?_, by omega⟩
    · rcases hr with ⟨-, tv, ov, he, h1, h2⟩ | ⟨hn, -⟩
      · exact ⟨tv, ov, he, h1, h2⟩
      · exact absurd h hn
    · rcases hr with ⟨-, tv, ov, he, h1, h3, h2⟩ | ⟨hn, -⟩
      · exact ⟨tv, ov, he, ⟨h1, h3⟩, h2⟩
      · exact absurd h hn
    · have h1 := totT_bound hw
      have h2 : (pickT ts l).length * 1048576 ≤ 12 * 1048576 := Nat.mul_le_mul_right _ hl
      omega
    · have h1 := hw t ht'
      unfold wtT at h1
      exact ⟨by omega, by omega, by omega⟩
  · refine ⟨0, 0, 0, [], [], false, fun w e w' hr => ?_, fun w e w' hr => ?_, by simp, by simp [totT], by simp, fun t ht' => (by cases ht'), by simp⟩
    · rcases hr with ⟨hn, -⟩ | ⟨-, he, hb⟩
      · exact absurd hn h
      · exact ⟨nilV, nilV, he, OwnNetR.nil _ _ hb.size, hb⟩
    · rcases hr with ⟨hn, -⟩ | ⟨-, he, hb⟩
      · exact absurd hn h
      · refine ⟨nilV, nilV, he, ⟨?_, Own.nil _ _⟩, hb⟩
        obtain ⟨m, h1, h2, h3, h4⟩ := OwnNetR.nil w' w.heap.size hb.size
        exact h4.wide h1 (Nat.le_refl _) (Nat.le_refl _)
set_option maxHeartbeats 16000000 in
theorem law_sub_network {k p q : Int} {tv ov : Value} {ts : List TenE} {O : List Int} (w : World) {vV : Value} {V : List Int} (hV : Rd w.heap.size w vV (ints V)) (lV : V.length ≤ 17592186044416) (_iV : allI V) (ha : RdTs w.heap.size w tv ts) (hoo : Rd w.heap.size w ov (ints O)) (hn : LenN ts O) (hI : ∀ t ∈ ts, allI t.1) (hJ : allI O) :
    Calls Try.prog 11 #[netV k p q tv ov, vV] w fun e w' => e = .returned (.bool true) ∧ Below w.heap.size w w' := by
  obtain ⟨a, ca, rfl⟩ := ha.form
  obtain ⟨ao, co, rfl, -⟩ := ints_form hoo
  obtain ⟨aV, cV, rfl, -⟩ := ints_form hV
  have HLN := Lib.hid hn
  have HII := Lib.hid hI
  have HJJ := Lib.hid hJ
  have HV := Lib.hid hV
  have E0 := Lib.hid ((St.start w (R := [(.slice aV V.length cV, V)]) (fun r hr => by simp only [List.mem_cons, List.not_mem_nil, or_false] at hr; subst hr; exact hV)).box5 (.int .i64 k) (.int .i64 p) (.int .i64 q) (.slice a ts.length ca) (.slice ao O.length co) 27)
  have HSZ := Lib.hid (sz_network (k := k) (p := p) (q := q) 1048576 (ha.below E0.out.bel (Nat.le_refl _)) (hoo.below E0.out.bel (Nat.le_refl _)) E0.out.bel.size (by omega) (by omega) hn)
  clear hn hI hJ
  by_cases hbig : 1048576 < V.length
  · have hd : decide ((1048576 : Int) < (V.length : Int)) = true := by simp; omega
    have hd2 : (1048576 : Int) < (V.length : Int) := by omega
    go_enter Try.func11, Try.ntmps11
    go_wp2
    go_ret
    exact ⟨rfl, E0.out.bel⟩
  have hd : decide ((1048576 : Int) < (V.length : Int)) = false := by simp; omega
  have hd2 : ¬ (1048576 : Int) < (V.length : Int) := by omega
  go_enter Try.func11, Try.ntmps11
  obtain ⟨c00, c01, c02, c03, c04, -⟩ := E0.out.cells
  go_wp2_with fail
  refine HSZ.out.mono ?_
  clear HSZ c00 c01 c02 c03 c04
  rintro e w0 ⟨z, rfl, hb, hz1, hz2, hz3⟩
  replace E0 := Lib.hid (E0.out.step hb)
  clear hb
  by_cases hz : z < 0
  · go_wp2
    go_ret
    exact ⟨rfl, E0.out.bel⟩
  have hq := hz3 (by omega)
  have HB : Hid (ts.length ≤ 1048576 ∧ totT ts ≤ 1048576 ∧ O.length ≤ 1048576 ∧ V.length ≤ 1048576) := Lib.hid ⟨by omega, by omega, by omega, by omega⟩
  have HLT : Hid (LenTs ts) := Lib.hid ⟨by omega, fun t ht => ⟨by have := HLN.out.2.1 t ht; omega, by have := HLN.out.2.1 t ht; omega, by have := HLN.out.2.1 t ht; omega⟩⟩
  have HCC : Hid (∀ t ∈ ts, t.1.length ≤ 1099511627776 ∧ t.2.1.length ≤ 1099511627776 ∧ t.2.2.length ≤ 1099511627776) := Lib.hid (fun t ht => by
    have h1 := wt_le ht
    have h2 := HB.out.2.1
    unfold wtT at h1
    exact ⟨by omega, by omega, by omega⟩)
  obtain ⟨kk, pp, qq, T, OO, y, hp1, hp2, hpl⟩ := sub_pure k p q ts O V HB.out.2.1
  have HP1 := Lib.hid hp1
  have HP2 := Lib.hid hp2
  have HPL := Lib.hid hpl
  have hyy : (y != y) = false := by cases y <;> rfl
  clear hz1 hz2 hz3 hq hp1 hp2 hpl
  obtain ⟨c00, c01, c02, c03, c04, -⟩ := E0.out.cells
  go_wp2_with fail
  refine (to_network (ha.below E0.out.bel (Nat.le_refl _)) (hoo.below E0.out.bel (Nat.le_refl _)) E0.out.bel.size E0.out.bel.size HLN.out HB.out.1).mono ?_
  clear c00 c01 c02 c03 c04
  rintro e w1 ⟨vt, vo, rfl, hq, hb⟩
  have X0 := Lib.hid hq
  obtain ⟨at0, ct0, rfl⟩ := X0.out.tens.form
  obtain ⟨ao0, do0, rfl, -⟩ := ints_form X0.out.opens
  have E1 := Lib.hid (E0.out.grp hb (noRows _ _ _))
  clear hq hb
  obtain ⟨c00, c01, c02, c03, c04, -⟩ := E1.out.cells
  go_wp2_with fail
  refine (to_row (E1.out.rdAt 0 rfl) E1.out.bel.size (by have := HB.out.2.2.2; omega)).mono ?_
  clear c00 c01 c02 c03 c04
  rintro e w2 ⟨vv, rfl, hq, hb⟩
  obtain ⟨ai1, ci1, rfl, -⟩ := ints_form hq.rd
  have E2 := Lib.hid (E1.out.grp hb (OwnG.one hq))
  replace X0 := Lib.hid (X0.out.below hb)
  clear hq hb
  obtain ⟨c00, c01, c02, c03, c04, -⟩ := E2.out.cells
  go_wp2_with fail
  refine ((sub_network_spec (k := k) (p := p) (q := q) (X0.out.tens) (X0.out.cap _ _ _ rfl) (X0.out.opens) rfl HLT.out HCC.out rfl HB.out.2.2.1 (E2.out.rowAt 0 0 rfl rfl) rfl HB.out.2.2.2).mono (fun e w' h => HP2.out _ _ _ h)).mono ?_
  clear c00 c01 c02 c03 c04
  rintro e w3 ⟨vt, vo, rfl, hq, hb⟩
  have Sa := Lib.hid hq
  obtain ⟨asa, csa, rfl⟩ := Sa.out.tens.form
  obtain ⟨apa, cpa, rfl, -⟩ := ints_form Sa.out.opens
  have E3 := Lib.hid (E2.out.grp hb (noRows _ _ _))
  replace X0 := Lib.hid (X0.out.below hb)
  clear hq hb
  clear X0
  have E4 := Lib.hid (E3.out.box5 (.int .i64 kk) (.int .i64 pp) (.int .i64 qq) (.slice asa T.length csa) (.slice apa OO.length cpa) 33)
  replace Sa := Lib.hid (Sa.out.below ((Below.refl _ _).alloc (Nat.le_refl _) (.cells #[.int .i64 kk, .int .i64 pp, .int .i64 qq, .slice asa T.length csa, .slice apa OO.length cpa] 33)))
  obtain ⟨c10, c11, c12, c13, c14, c00, c01, c02, c03, c04, -⟩ := E4.out.cells
  go_wp2_with fail
  refine (to_network (ha.below E4.out.bel (Nat.le_refl _)) (hoo.below E4.out.bel (Nat.le_refl _)) E4.out.bel.size E4.out.bel.size HLN.out HB.out.1).mono ?_
  clear c10 c11 c12 c13 c14 c00 c01 c02 c03 c04
  rintro e w4 ⟨vt, vo, rfl, hq, hb⟩
  have X2 := Lib.hid hq
  obtain ⟨at2, ct2, rfl⟩ := X2.out.tens.form
  obtain ⟨ao2, do2, rfl, -⟩ := ints_form X2.out.opens
  have E5 := Lib.hid (E4.out.grp hb (noRows _ _ _))
  replace Sa := Lib.hid (Sa.out.below hb)
  clear hq hb
  have E6 := Lib.hid (E5.out.box5 (.int .i64 k) (.int .i64 p) (.int .i64 q) (.slice at2 ts.length ct2) (.slice ao2 O.length do2) 33)
  replace X2 := Lib.hid (X2.out.below ((Below.refl _ _).alloc (Nat.le_refl _) (.cells #[.int .i64 k, .int .i64 p, .int .i64 q, .slice at2 ts.length ct2, .slice ao2 O.length do2] 33)))
  replace Sa := Lib.hid (Sa.out.below ((Below.refl _ _).alloc (Nat.le_refl _) (.cells #[.int .i64 k, .int .i64 p, .int .i64 q, .slice at2 ts.length ct2, .slice ao2 O.length do2] 33)))
  obtain ⟨c20, c21, c22, c23, c24, c10, c11, c12, c13, c14, c00, c01, c02, c03, c04, -⟩ := E6.out.cells
  go_wp2_with fail
  refine (to_row (E6.out.rdAt 0 rfl) E6.out.bel.size (by have := HB.out.2.2.2; omega)).mono ?_
  clear c20 c21 c22 c23 c24 c10 c11 c12 c13 c14 c00 c01 c02 c03 c04
  rintro e w5 ⟨vv, rfl, hq, hb⟩
  obtain ⟨ai3, ci3, rfl, -⟩ := ints_form hq.rd
  have E7 := Lib.hid (E6.out.grp hb (OwnG.one hq))
  replace X2 := Lib.hid (X2.out.below hb)
  replace Sa := Lib.hid (Sa.out.below hb)
  clear hq hb
  obtain ⟨c20, c21, c22, c23, c24, c10, c11, c12, c13, c14, c00, c01, c02, c03, c04, -⟩ := E7.out.cells
  go_wp2_with fail
  refine ((sub_full (k := k) (p := p) (q := q) (X2.out.tens) (X2.out.opens) (Nat.le_refl _) rfl HLT.out HII.out HCC.out rfl HB.out.2.2.1 HJJ.out (E7.out.rowAt 0 0 rfl rfl) rfl HB.out.2.2.2).mono (fun e w' h => HP1.out _ _ _ h)).mono ?_
  clear c20 c21 c22 c23 c24 c10 c11 c12 c13 c14 c00 c01 c02 c03 c04
  rintro e w6 ⟨vt, vo, rfl, hq, hb⟩
  have Sg := Lib.hid hq
  obtain ⟨asg, csg, rfl⟩ := Sg.out.tens.form
  obtain ⟨apg, cpg, rfl, -⟩ := ints_form Sg.out.opens
  have E8 := Lib.hid (E7.out.grp hb (noRows _ _ _))
  replace X2 := Lib.hid (X2.out.below hb)
  replace Sa := Lib.hid (Sa.out.below hb)
  clear hq hb
  have E9 := Lib.hid (E8.out.box5 (.int .i64 kk) (.int .i64 pp) (.int .i64 qq) (.slice asg T.length csg) (.slice apg OO.length cpg) 33)
  replace X2 := Lib.hid (X2.out.below ((Below.refl _ _).alloc (Nat.le_refl _) (.cells #[.int .i64 kk, .int .i64 pp, .int .i64 qq, .slice asg T.length csg, .slice apg OO.length cpg] 33)))
  replace Sa := Lib.hid (Sa.out.below ((Below.refl _ _).alloc (Nat.le_refl _) (.cells #[.int .i64 kk, .int .i64 pp, .int .i64 qq, .slice asg T.length csg, .slice apg OO.length cpg] 33)))
  replace Sg := Lib.hid (Sg.out.below ((Below.refl _ _).alloc (Nat.le_refl _) (.cells #[.int .i64 kk, .int .i64 pp, .int .i64 qq, .slice asg T.length csg, .slice apg OO.length cpg] 33)))
  obtain ⟨c30, c31, c32, c33, c34, c20, c21, c22, c23, c24, c10, c11, c12, c13, c14, c00, c01, c02, c03, c04, -⟩ := E9.out.cells
  go_wp2_with fail
  refine (eq_network Sg.out.tens Sg.out.opens Sa.out.tens Sa.out.opens (Nat.le_refl _) (Nat.le_refl _) HPL.out.2.2).mono ?_
  clear c30 c31 c32 c33 c34 c20 c21 c22 c23 c24 c10 c11 c12 c13 c14 c00 c01 c02 c03 c04
  rintro e w7 ⟨rfl, hb⟩
  have E10 := Lib.hid (E9.out.step hb)
  replace X2 := Lib.hid (X2.out.below hb)
  replace Sa := Lib.hid (Sa.out.below hb)
  replace Sg := Lib.hid (Sg.out.below hb)
  clear hb
  have E10d := Lib.hid E10.out.drew
  have X2d := Lib.hid (X2.out.below (Below.drew (Below.refl _ _)))
  have Sad := Lib.hid (Sa.out.below (Below.drew (Below.refl _ _)))
  have Sgd := Lib.hid (Sg.out.below (Below.drew (Below.refl _ _)))
  obtain ⟨c30, c31, c32, c33, c34, c20, c21, c22, c23, c24, c10, c11, c12, c13, c14, c00, c01, c02, c03, c04, -⟩ := E10.out.cells
  go_wp2
  have tk0 : True := trivial
  have tk1 : True := trivial
  go_region_held3 (fun w' => w'.cell? ⟨w6.heap.size, 0, none⟩ = some (.int .i64 kk) ∧ w'.cell? ⟨w6.heap.size, 1, none⟩ = some (.int .i64 pp) ∧ w'.cell? ⟨w6.heap.size, 2, none⟩ = some (.int .i64 qq) ∧ w'.cell? ⟨w6.heap.size, 3, none⟩ = some (.slice asg T.length csg) ∧ w'.cell? ⟨w6.heap.size, 4, none⟩ = some (.slice apg OO.length cpg) ∧ w'.cell? ⟨w4.heap.size, 0, none⟩ = some (.int .i64 k) ∧ w'.cell? ⟨w4.heap.size, 1, none⟩ = some (.int .i64 p) ∧ w'.cell? ⟨w4.heap.size, 2, none⟩ = some (.int .i64 q) ∧ w'.cell? ⟨w4.heap.size, 3, none⟩ = some (.slice at2 ts.length ct2) ∧ w'.cell? ⟨w4.heap.size, 4, none⟩ = some (.slice ao2 O.length do2) ∧ w'.cell? ⟨w3.heap.size, 0, none⟩ = some (.int .i64 kk) ∧ w'.cell? ⟨w3.heap.size, 1, none⟩ = some (.int .i64 pp) ∧ w'.cell? ⟨w3.heap.size, 2, none⟩ = some (.int .i64 qq) ∧ w'.cell? ⟨w3.heap.size, 3, none⟩ = some (.slice asa T.length csa) ∧ w'.cell? ⟨w3.heap.size, 4, none⟩ = some (.slice apa OO.length cpa) ∧ w'.cell? ⟨w.heap.size, 0, none⟩ = some (.int .i64 k) ∧ w'.cell? ⟨w.heap.size, 1, none⟩ = some (.int .i64 p) ∧ w'.cell? ⟨w.heap.size, 2, none⟩ = some (.int .i64 q) ∧ w'.cell? ⟨w.heap.size, 3, none⟩ = some (.slice a ts.length ca) ∧ w'.cell? ⟨w.heap.size, 4, none⟩ = some (.slice ao O.length co)) (first | exact ⟨c30, c31, c32, c33, c34, c20, c21, c22, c23, c24, c10, c11, c12, c13, c14, c00, c01, c02, c03, c04⟩) (first
    | (go_at_call 14; have _t := tk0; refine (to_network (ha.below E10d.out.bel (Nat.le_refl _)) (hoo.below E10d.out.bel (Nat.le_refl _)) E10d.out.bel.size E10d.out.bel.size HLN.out HB.out.1).mono ?_; rintro e w8 ⟨vt, vo, rfl, hq, hb⟩; have X4 := Lib.hid hq; obtain ⟨at4, ct4, rfl⟩ := X4.out.tens.form; obtain ⟨ao4, do4, rfl, -⟩ := ints_form X4.out.opens; have E11 := Lib.hid (E10d.out.grp hb (noRows _ _ _)); have X2e := Lib.hid (X2d.out.below hb); have Sae := Lib.hid (Sad.out.below hb); have Sge := Lib.hid (Sgd.out.below hb); clear hq hb; obtain ⟨c30, c31, c32, c33, c34, c20, c21, c22, c23, c24, c10, c11, c12, c13, c14, c00, c01, c02, c03, c04, -⟩ := E11.out.cells; clear tk0)
    | (go_at_call 16; have _t := tk1; refine (eq_network X2e.out.tens X2e.out.opens X4.out.tens X4.out.opens (Nat.le_refl _) (Nat.le_refl _) HLN.out).mono ?_; rintro e w9 ⟨rfl, hb⟩; have E12 := Lib.hid (E11.out.step hb); have X2f := Lib.hid (X2e.out.below hb); have Saf := Lib.hid (Sae.out.below hb); have Sgf := Lib.hid (Sge.out.below hb); clear hb; obtain ⟨c30, c31, c32, c33, c34, c20, c21, c22, c23, c24, c10, c11, c12, c13, c14, c00, c01, c02, c03, c04, -⟩ := E12.out.cells; clear tk1))
  clear X2 Sa Sg X2d X2e Sad Sae Sgd Sge X4
  have X2 := X2f
  clear X2f
  have Sa := Saf
  clear Saf
  have Sg := Sgf
  clear Sgf
  clear c30 c31 c32 c33 c34 c20 c21 c22 c23 c24 c10 c11 c12 c13 c14 c00 c01 c02 c03 c04
  obtain ⟨c30, c31, c32, c33, c34, c20, c21, c22, c23, c24, c10, c11, c12, c13, c14, c00, c01, c02, c03, c04, -⟩ := E12.out.cells
  go_wp2_with fail
  refine (to_row (E12.out.rdAt 0 rfl) E12.out.bel.size (by have := HB.out.2.2.2; omega)).mono ?_
  clear c30 c31 c32 c33 c34 c20 c21 c22 c23 c24 c10 c11 c12 c13 c14 c00 c01 c02 c03 c04
  rintro e w10 ⟨vv, rfl, hq, hb⟩
  obtain ⟨ai5, ci5, rfl, -⟩ := ints_form hq.rd
  have E13 := Lib.hid (E12.out.grp hb (OwnG.one hq))
  replace X2 := Lib.hid (X2.out.below hb)
  replace Sa := Lib.hid (Sa.out.below hb)
  replace Sg := Lib.hid (Sg.out.below hb)
  clear hq hb
  obtain ⟨c30, c31, c32, c33, c34, c20, c21, c22, c23, c24, c10, c11, c12, c13, c14, c00, c01, c02, c03, c04, -⟩ := E13.out.cells
  go_wp2_with fail
  refine (eq_rows (E13.out.rowAt 3 0 rfl rfl) (E13.out.rowAt 0 0 rfl rfl) rfl (by have := HB.out.2.2.2; omega)).mono ?_
  clear c30 c31 c32 c33 c34 c20 c21 c22 c23 c24 c10 c11 c12 c13 c14 c00 c01 c02 c03 c04
  rintro e w11 ⟨rfl, hb⟩
  have E14 := Lib.hid (E13.out.step hb)
  replace X2 := Lib.hid (X2.out.below hb)
  replace Sa := Lib.hid (Sa.out.below hb)
  replace Sg := Lib.hid (Sg.out.below hb)
  clear hb
  obtain ⟨c30, c31, c32, c33, c34, c20, c21, c22, c23, c24, c10, c11, c12, c13, c14, c00, c01, c02, c03, c04, -⟩ := E14.out.cells
  go_wp2_with fail
  refine (mark_network 1 rfl X2.out HB.out.1 (by have := HB.out.2.1; have := HB.out.2.2.1; omega)).mono ?_
  clear c30 c31 c32 c33 c34 c20 c21 c22 c23 c24 c10 c11 c12 c13 c14 c00 c01 c02 c03 c04
  rintro e w12 ⟨rfl, hk⟩
  have E15 := Lib.hid (E14.out.mark 4 rfl hk (noRows _ _ _))
  replace Sa := Lib.hid (Sa.out.kept hk (E14.out.apart2 5 4 rfl rfl (by decide)))
  replace Sg := Lib.hid (Sg.out.kept hk (E14.out.apart2 2 4 rfl rfl (by decide)))
  clear hk X2
  obtain ⟨c30, c31, c32, c33, c34, c20, c21, c22, c23, c24, c10, c11, c12, c13, c14, c00, c01, c02, c03, c04, -⟩ := E15.out.cells
  go_wp2_with fail
  refine (marks_row (1 + totT ts + O.length) rfl (E15.out.grpAt 3 rfl) (by have := HB.out.2.2.2; omega) (by have := HB.out.2.1; have := HB.out.2.2.1; omega)).mono ?_
  clear c30 c31 c32 c33 c34 c20 c21 c22 c23 c24 c10 c11 c12 c13 c14 c00 c01 c02 c03 c04
  rintro e w13 ⟨rfl, hq, hk⟩
  have E16 := Lib.hid (E15.out.mark 3 rfl hk hq)
  replace Sa := Lib.hid (Sa.out.kept hk (E15.out.apart2 5 3 rfl rfl (by decide)))
  replace Sg := Lib.hid (Sg.out.kept hk (E15.out.apart2 2 3 rfl rfl (by decide)))
  clear hk hq
  have qm : ¬ ((1 + totT ts + O.length + V.length : Nat) : Int) < 0 := by omega
  obtain ⟨c30, c31, c32, c33, c34, c20, c21, c22, c23, c24, c10, c11, c12, c13, c14, c00, c01, c02, c03, c04, -⟩ := E16.out.cells
  go_wp2_with fail
  refine (eq_network Sg.out.tens Sg.out.opens Sa.out.tens Sa.out.opens (Nat.le_refl _) (Nat.le_refl _) HPL.out.2.2).mono ?_
  clear c30 c31 c32 c33 c34 c20 c21 c22 c23 c24 c10 c11 c12 c13 c14 c00 c01 c02 c03 c04
  rintro e w14 ⟨rfl, hb⟩
  have E17 := Lib.hid (E16.out.step hb)
  replace Sa := Lib.hid (Sa.out.below hb)
  replace Sg := Lib.hid (Sg.out.below hb)
  clear hb
  obtain ⟨c30, c31, c32, c33, c34, c20, c21, c22, c23, c24, c10, c11, c12, c13, c14, c00, c01, c02, c03, c04, -⟩ := E17.out.cells
  go_wp2_with fail
  refine (mark_netR 1 rfl Sg.out (by have := HPL.out.1; omega) (by have := HPL.out.2.1; omega)).mono ?_
  clear c30 c31 c32 c33 c34 c20 c21 c22 c23 c24 c10 c11 c12 c13 c14 c00 c01 c02 c03 c04
  rintro e w15 ⟨rfl, hq, hk⟩
  have E18 := Lib.hid (E17.out.mark 2 rfl hk (noRows _ _ _))
  replace Sa := Lib.hid (Sa.out.kept hk (E17.out.apart2 5 2 rfl rfl (by decide)))
  replace Sg := Lib.hid hq
  clear hk hq
  obtain ⟨c30, c31, c32, c33, c34, c20, c21, c22, c23, c24, c10, c11, c12, c13, c14, c00, c01, c02, c03, c04, -⟩ := E18.out.cells
  go_wp2_with fail
  refine (held_netR 1 rfl Sg.out (by have := HPL.out.1; omega) (by have := HPL.out.2.1; omega)).mono ?_
  clear c30 c31 c32 c33 c34 c20 c21 c22 c23 c24 c10 c11 c12 c13 c14 c00 c01 c02 c03 c04
  rintro e w16 ⟨rfl, hb⟩
  have E19 := Lib.hid (E18.out.step hb)
  replace Sa := Lib.hid (Sa.out.below hb)
  replace Sg := Lib.hid (Sg.out.below hb)
  clear hb
  have qn : ¬ ((1 + totT T + OO.length : Nat) : Int) < 0 := by omega
  obtain ⟨c30, c31, c32, c33, c34, c20, c21, c22, c23, c24, c10, c11, c12, c13, c14, c00, c01, c02, c03, c04, -⟩ := E19.out.cells
  go_wp2_with fail
  refine (to_network (ha.below E19.out.bel (Nat.le_refl _)) (hoo.below E19.out.bel (Nat.le_refl _)) E19.out.bel.size E19.out.bel.size HLN.out HB.out.1).mono ?_
  clear c30 c31 c32 c33 c34 c20 c21 c22 c23 c24 c10 c11 c12 c13 c14 c00 c01 c02 c03 c04
  rintro e w17 ⟨vt, vo, rfl, hq, hb⟩
  have X6 := Lib.hid hq
  obtain ⟨at6, ct6, rfl⟩ := X6.out.tens.form
  obtain ⟨ao6, do6, rfl, -⟩ := ints_form X6.out.opens
  have E20 := Lib.hid (E19.out.grp hb (noRows _ _ _))
  replace Sa := Lib.hid (Sa.out.below hb)
  replace Sg := Lib.hid (Sg.out.below hb)
  clear hq hb
  obtain ⟨c30, c31, c32, c33, c34, c20, c21, c22, c23, c24, c10, c11, c12, c13, c14, c00, c01, c02, c03, c04, -⟩ := E20.out.cells
  go_wp2_with fail
  refine (to_row (E20.out.rdAt 0 rfl) E20.out.bel.size (by have := HB.out.2.2.2; omega)).mono ?_
  clear c30 c31 c32 c33 c34 c20 c21 c22 c23 c24 c10 c11 c12 c13 c14 c00 c01 c02 c03 c04
  rintro e w18 ⟨vv, rfl, hq, hb⟩
  obtain ⟨ai7, ci7, rfl, -⟩ := ints_form hq.rd
  have E21 := Lib.hid (E20.out.grp hb (OwnG.one hq))
  replace X6 := Lib.hid (X6.out.below hb)
  replace Sa := Lib.hid (Sa.out.below hb)
  replace Sg := Lib.hid (Sg.out.below hb)
  clear hq hb
  obtain ⟨c30, c31, c32, c33, c34, c20, c21, c22, c23, c24, c10, c11, c12, c13, c14, c00, c01, c02, c03, c04, -⟩ := E21.out.cells
  go_wp2_with fail
  refine ((sub_full (k := k) (p := p) (q := q) (X6.out.tens) (X6.out.opens) (Nat.le_refl _) rfl HLT.out HII.out HCC.out rfl HB.out.2.2.1 HJJ.out (E21.out.rowAt 0 0 rfl rfl) rfl HB.out.2.2.2).mono (fun e w' h => HP1.out _ _ _ h)).mono ?_
  clear c30 c31 c32 c33 c34 c20 c21 c22 c23 c24 c10 c11 c12 c13 c14 c00 c01 c02 c03 c04
  rintro e w19 ⟨vt, vo, rfl, hq, hb⟩
  have Sh := Lib.hid hq
  obtain ⟨ash, csh, rfl⟩ := Sh.out.tens.form
  obtain ⟨aph, cph, rfl, -⟩ := ints_form Sh.out.opens
  have E22 := Lib.hid (E21.out.grp hb (noRows _ _ _))
  replace X6 := Lib.hid (X6.out.below hb)
  replace Sa := Lib.hid (Sa.out.below hb)
  replace Sg := Lib.hid (Sg.out.below hb)
  clear hq hb
  clear X6
  have E23 := Lib.hid (E22.out.box5 (.int .i64 kk) (.int .i64 pp) (.int .i64 qq) (.slice ash T.length csh) (.slice aph OO.length cph) 33)
  replace Sa := Lib.hid (Sa.out.below ((Below.refl _ _).alloc (Nat.le_refl _) (.cells #[.int .i64 kk, .int .i64 pp, .int .i64 qq, .slice ash T.length csh, .slice aph OO.length cph] 33)))
  replace Sg := Lib.hid (Sg.out.below ((Below.refl _ _).alloc (Nat.le_refl _) (.cells #[.int .i64 kk, .int .i64 pp, .int .i64 qq, .slice ash T.length csh, .slice aph OO.length cph] 33)))
  replace Sh := Lib.hid (Sh.out.below ((Below.refl _ _).alloc (Nat.le_refl _) (.cells #[.int .i64 kk, .int .i64 pp, .int .i64 qq, .slice ash T.length csh, .slice aph OO.length cph] 33)))
  obtain ⟨c40, c41, c42, c43, c44, c30, c31, c32, c33, c34, c20, c21, c22, c23, c24, c10, c11, c12, c13, c14, c00, c01, c02, c03, c04, -⟩ := E23.out.cells
  go_wp2_with fail
  refine (eq_network Sh.out.tens Sh.out.opens Sa.out.tens Sa.out.opens (Nat.le_refl _) (Nat.le_refl _) HPL.out.2.2).mono ?_
  clear c40 c41 c42 c43 c44 c30 c31 c32 c33 c34 c20 c21 c22 c23 c24 c10 c11 c12 c13 c14 c00 c01 c02 c03 c04
  rintro e w20 ⟨rfl, hb⟩
  have E24 := Lib.hid (E23.out.step hb)
  replace Sa := Lib.hid (Sa.out.below hb)
  replace Sg := Lib.hid (Sg.out.below hb)
  replace Sh := Lib.hid (Sh.out.below hb)
  clear hb
  obtain ⟨c40, c41, c42, c43, c44, c30, c31, c32, c33, c34, c20, c21, c22, c23, c24, c10, c11, c12, c13, c14, c00, c01, c02, c03, c04, -⟩ := E24.out.cells
  go_wp2_with fail
  refine (held_netR 1 rfl Sg.out (by have := HPL.out.1; omega) (by have := HPL.out.2.1; omega)).mono ?_
  clear c40 c41 c42 c43 c44 c30 c31 c32 c33 c34 c20 c21 c22 c23 c24 c10 c11 c12 c13 c14 c00 c01 c02 c03 c04
  rintro e w21 ⟨rfl, hb⟩
  have E25 := Lib.hid (E24.out.step hb)
  replace Sa := Lib.hid (Sa.out.below hb)
  replace Sg := Lib.hid (Sg.out.below hb)
  replace Sh := Lib.hid (Sh.out.below hb)
  clear hb
  go_wp2
  go_ret
  exact ⟨rfl, E25.out.bel⟩
end Go.Proofs.Ytdheakjjnaifkaa
