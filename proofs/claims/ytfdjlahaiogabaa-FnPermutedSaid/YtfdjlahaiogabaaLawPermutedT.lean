
/- The law FnPermuted, walked. -/
import Derived.Test.YtfdjlahaiogabaaPermutedMath
import Derived.Test.YtfdjlahaiogabaaDrawn
import Derived.Test.YtfdjlahaiogabaaSameKit
import Derived.Test.YtfdjlahaiogabaaAscending
import Derived.Test.YtfdjlahaiogabaaPermImpl
import Derived.Test.YtfdjlahaiogabaaPermuted
import Derived.Test.YtfdjlahaiogabaaRelabelImpl
import Derived.Test.YtfdjlahaiogabaaSameImpl
import Derived.Deep.RegionHeld3
import Derived.Deep.DeepCutAuto
namespace Go.Proofs.Ytfdjlahaiogabaa
set_option maxRecDepth 100000
open Go.RowKit

set_option maxHeartbeats 800000 in
theorem same_true {B B' : Nat} {lv dv xv lu du xu : Value} {L D X : List Int} {w : World} (ha : RdT B w lv dv xv L D X) (hb : RdT B' w lu du xu L D X) (hB : B ≤ w.heap.size) (hB' : B' ≤ w.heap.size) (hn : LenT L D X) :
    Calls Try.prog 39 #[tenV lv dv xv, tenV lu du xu] w fun e w' => e = .returned (.bool true) ∧ Below w.heap.size w w' := by
  have hbel : Below w.heap.size w ((w.alloc (.cells #[lv, dv, xv] 28)).alloc (.cells #[lu, du, xu] 28)) := ((Below.refl _ _).alloc (Nat.le_refl _) _).alloc (by simp) _
  have HA := Lib.hid (ha.below hbel hB)
  have HU := Lib.hid (hb.below hbel hB')
  have E1 := Lib.hid (ints_same HA.out.l HU.out.l hn.l)
  have E2 := Lib.hid (ints_same HA.out.d HU.out.d hn.d)
  have E3 := Lib.hid (ints_same HA.out.x HU.out.x hn.x)
  have HBL := Lib.hid hbel
  obtain ⟨al, cl, rfl, -⟩ := ints_form ha.l
  obtain ⟨ad, cd, rfl, -⟩ := ints_form ha.d
  obtain ⟨ax, cx, rfl, -⟩ := ints_form ha.x
  obtain ⟨bl, kl, rfl, -⟩ := ints_form hb.l
  obtain ⟨bd, kd, rfl, -⟩ := ints_form hb.d
  obtain ⟨bx, kx, rfl, -⟩ := ints_form hb.x
  clear ha hb hB hB' hn hbel HA HU
  go_enter Try.func39, Try.ntmps39
  go_wp2_with fail
  refine E1.out.mono ?_
  rintro e w1 ⟨rfl, rfl⟩
  go_wp2_with fail
  refine E2.out.mono ?_
  rintro e w1 ⟨rfl, rfl⟩
  go_wp2_with fail
  refine E3.out.mono ?_
  rintro e w1 ⟨rfl, rfl⟩
  go_wp2
  go_ret
  exact ⟨rfl, HBL.out⟩

set_option maxHeartbeats 64000000 in
theorem law_permuted_small (a : Option Addr) (n c : Nat) (bs : List UInt8) (w : World) (hn : bs.length = n) (hs : n ≤ 1048576) (hr : Rd w.heap.size w (.slice a n c) (bytes8 bs))  :
    Calls Try.prog 6 #[.slice a n c] w fun e w' => e = .returned (.bool true) ∧ Below w.heap.size w w' := by
  have HR := Lib.hid hr
  have HN := Lib.hid (show bs.length ≤ 1048576 by omega)
  clear hr hn
  go_enter Try.func6, Try.ntmps6
  go_wp2_with fail
  refine (make_ring 0 (by omega) HR.out HN.out).mono ?_
  rintro e w1 ⟨k, p, q, rfl, hk, hb⟩
  have HK := Lib.hid hk
  have R1 := Lib.hid (((Rs.start w).step hb).box (.int .i64 k) (.int .i64 p) (.int .i64 q) 31)
  clear hk hb
  go_wp2_with fail
  refine (make_ten 10 (by omega) HK.out ((HR.out.below R1.out.bel (Nat.le_refl _)).mono R1.out.bel.size) HN.out).mono ?_
  rintro e w2 ⟨lv, dv, xv, L, D, X, rfl, hv, ht, ho, hb⟩
  have R2 := Lib.hid (R1.out.new3 hb ho)
  obtain ⟨al, cl, rfl, -⟩ := ints_form ho.rows.1.rd
  obtain ⟨ad, cd, rfl, -⟩ := ints_form ho.rows.2.1.rd
  obtain ⟨ax, cx, rfl, -⟩ := ints_form ho.rows.2.2.rd
  have HV := Lib.hid hv
  have HT := Lib.hid ht
  have HIL := Lib.hid (show allI L from fun z hz => by have := hv.rg z hz; exact ⟨by omega, by omega⟩)
  have HIO := Lib.hid (show allI (others L) from fun z hz => by
    obtain ⟨y, hy, rfl⟩ := List.mem_map.1 hz
    have := hv.rg y hy
    exact ⟨by omega, by omega⟩)
  have HLL : Hid (L.length ≤ 12 ∧ D.length ≤ 12 ∧ X.length ≤ 24576) := Lib.hid (by
    have h := rel_lens (rel_ok ht hv).1
    exact h)
  have HLT : Hid (LenT L D X) := Lib.hid ⟨by have := HLL.out.1; omega, by have := HLL.out.2.1; omega, by have := HLL.out.2.2; omega⟩
  have RP := Lib.hid (R2.out.box (.slice al L.length cl) (.slice ad D.length cd) (.slice ax X.length cx) 28)
  clear hv ht ho hb R1 R2
  go_upto_region 5 with fail
  go_cut [5, 6] (fun sv ov wx => ∃ (b : Nat) (A : List Int) (g1 g2 g3 : Option Addr) (j1 j2 j3 : Nat), ov = .bool true ∧ sv = .pointer (some ⟨b, 0, none⟩) ∧ Hid (A.Perm L) ∧ Hid (Rs w wx [(b, .slice g1 A.length j1, .slice g2 (dimsVia L D A).length j2, .slice g3 (permDataL k q L D X A).length j3), (w2.heap.size, .slice al L.length cl, .slice ad D.length cd, .slice ax X.length cx), (w1.heap.size, .int .i64 k, .int .i64 p, .int .i64 q)] [(.slice g1 A.length j1, A), (.slice g2 (dimsVia L D A).length j2, dimsVia L D A), (.slice g3 (permDataL k q L D X A).length j3, permDataL k q L D X A), (.slice al L.length cl, L), (.slice ad D.length cd, D), (.slice ax X.length cx, X)]))
  case first =>
    have RX := Lib.hid RP.out.drew
    obtain ⟨⟨r0, r1, r2⟩, -⟩ := RX.out.at (r := w1.heap.size) (a := .int .i64 k) (b := .int .i64 p) (c := .int .i64 q) (by simp)
    obtain ⟨⟨t0, t1, t2⟩, -⟩ := RX.out.at (r := w2.heap.size) (a := .slice al L.length cl) (b := .slice ad D.length cd) (c := .slice ax X.length cx) (by simp)
    refine wp_region_held_drew (S := fun w' => (w'.cell? ⟨w1.heap.size, 0, none⟩ = some (.int .i64 k) ∧ w'.cell? ⟨w1.heap.size, 1, none⟩ = some (.int .i64 p) ∧ w'.cell? ⟨w1.heap.size, 2, none⟩ = some (.int .i64 q)) ∧ (w'.cell? ⟨w2.heap.size, 0, none⟩ = some (.slice al L.length cl) ∧ w'.cell? ⟨w2.heap.size, 1, none⟩ = some (.slice ad D.length cd) ∧ w'.cell? ⟨w2.heap.size, 2, none⟩ = some (.slice ax X.length cx))) (by kernel_rfl) (by (try dsimp only); exact ⟨⟨r0, r1, r2⟩, ⟨t0, t1, t2⟩⟩) (fun hHeld => ?_)
    refine wpAnyH_take (i := 0) (v := ?_) rfl (by kernel_rfl) (by kernel_rfl) (by kernel_rfl) (fun _ _ _ h => h) (Or.inl ⟨by rfl, ?_⟩) (by assumption) ?_
    rotate_left
    · intro w hSw; (try dsimp only at hSw); go_simp <;> with_reducible rfl
    try simp only [Act.put, List.getElem_toArray, List.getElem_cons_zero, List.setIfInBounds_toArray, List.set_cons_zero, List.set_cons_succ]
    refine wpAnyH_take (i := 1) (v := ?_) rfl (by kernel_rfl) (by kernel_rfl) (by kernel_rfl) (fun _ _ _ h => h) (Or.inl ⟨by rfl, ?_⟩) (by assumption) ?_
    rotate_left
    · intro w hSw; (try dsimp only at hSw); go_simp <;> with_reducible rfl
    try simp only [Act.put, List.getElem_toArray, List.getElem_cons_succ, List.getElem_cons_zero, List.setIfInBounds_toArray, List.set_cons_zero, List.set_cons_succ]
    refine wpAnyH_take (i := 2) (v := ?_) rfl (by kernel_rfl) (by kernel_rfl) (by kernel_rfl) (fun _ _ _ h => h) (Or.inl ⟨by rfl, ?_⟩) (by assumption) ?_
    rotate_left
    · intro w hSw; (try dsimp only at hSw); go_simp <;> with_reducible rfl
    try simp only [Act.put, List.getElem_toArray, List.getElem_cons_succ, List.getElem_cons_zero, List.setIfInBounds_toArray, List.set_cons_zero, List.set_cons_succ]
    refine wpAnyH_take (i := 3) (v := ?_) rfl (by kernel_rfl) (by kernel_rfl) (by kernel_rfl) (fun _ _ _ h => h) (Or.inl ⟨by rfl, ?_⟩) (by assumption) ?_
    rotate_left
    · intro w hSw; (try dsimp only at hSw); go_simp <;> with_reducible rfl
    try simp only [Act.put, List.getElem_toArray, List.getElem_cons_succ, List.getElem_cons_zero, List.setIfInBounds_toArray, List.set_cons_zero, List.set_cons_succ]
    refine wpAnyH_take (i := 4) (v := ?_) rfl (by kernel_rfl) (by kernel_rfl) (by kernel_rfl) (fun _ _ _ h => h) (Or.inl ⟨by rfl, ?_⟩) (by assumption) ?_
    rotate_left
    · intro w hSw; (try dsimp only at hSw); go_simp <;> with_reducible rfl
    try simp only [Act.put, List.getElem_toArray, List.getElem_cons_succ, List.getElem_cons_zero, List.setIfInBounds_toArray, List.set_cons_zero, List.set_cons_succ]
    refine wpAnyH_ready (rs := [5, 10]) (by kernel_rfl) (by simp) ?_
    refine AllReadyH.cons rfl (fun K hK => ?_) (AllReadyH.cons rfl (fun K hK => ?_) AllReadyH.nil)
    · go_simp
      go_at_call 37
      refine (make_list 60 (by omega) ((HR.out.below RX.out.bel (Nat.le_refl _)).mono RX.out.bel.size) HN.out (RX.out.rd (v := .slice al L.length cl) (xs := L) (by simp)) (by have := HLL.out.1; omega)).mono ?_
      rintro e w3 ⟨u, A, rfl, hp, ho, hb⟩
      replace RX := Lib.hid (RX.out.new hb ho)
      have HP := Lib.hid hp
      obtain ⟨ag, cg, rfl, -⟩ := ints_form ho.rd
      have HPM := Lib.hid (perm_ok HT.out hp)
      clear hp ho hb r0 r1 r2 t0 t1 t2
      obtain ⟨⟨r0, r1, r2⟩, -⟩ := RX.out.at (r := w1.heap.size) (a := .int .i64 k) (b := .int .i64 p) (c := .int .i64 q) (by simp)
      obtain ⟨⟨t0, t1, t2⟩, -⟩ := RX.out.at (r := w2.heap.size) (a := .slice al L.length cl) (b := .slice ad D.length cd) (c := .slice ax X.length cx) (by simp)
      go_wp2_with fail
      refine hK.out _ _ (by (try dsimp only); exact ⟨⟨r0, r1, r2⟩, ⟨t0, t1, t2⟩⟩) (fun hHeld => ?_)
      clear hK K
      try simp only [Act.put, List.getElem_toArray, List.getElem_cons_succ, List.getElem_cons_zero, List.setIfInBounds_toArray, List.set_cons_zero, List.set_cons_succ]
      refine wpAnyH_ready (rs := [6, 10]) (by kernel_rfl) (by simp) ?_
      refine AllReadyH.cons rfl (fun K hK => ?_) (AllReadyH.cons rfl (fun K hK => ?_) AllReadyH.nil)
      · go_simp
        go_at_call 36
        have hq := permute_tensor_impl (k := k) (p := p) (q := q) ⟨RX.out.rd (v := .slice al L.length cl) (xs := L) (by simp), RX.out.rd (v := .slice ad D.length cd) (xs := D) (by simp), RX.out.rd (v := .slice ax X.length cx) (xs := X) (by simp)⟩ (RX.out.rd (v := .slice ag A.length cg) (xs := A) (by simp)) (Nat.le_refl _) HLT.out (by rw [HP.out.length_eq]; have := HLL.out.1; omega) HIL.out
        rw [HPM.out.1] at hq
        simp only [if_true] at hq
        refine hq.mono ?_
        clear hq
        rintro e w4 ⟨u1, u2, u3, rfl, ho, hb⟩
        replace RX := Lib.hid ((RX.out.new3 hb ho).sub (rows' := _ :: _ :: _ :: _) (List.Sublist.cons_cons _ (List.Sublist.cons_cons _ (List.Sublist.cons_cons _ (List.Sublist.cons _ (List.Sublist.refl _))))))
        obtain ⟨g1, j1, rfl, -⟩ := ints_form ho.rows.1.rd
        obtain ⟨g2, j2, rfl, -⟩ := ints_form ho.rows.2.1.rd
        obtain ⟨g3, j3, rfl, -⟩ := ints_form ho.rows.2.2.rd
        clear ho hb r0 r1 r2 t0 t1 t2
        obtain ⟨⟨r0, r1, r2⟩, -⟩ := RX.out.at (r := w1.heap.size) (a := .int .i64 k) (b := .int .i64 p) (c := .int .i64 q) (by simp)
        obtain ⟨⟨t0, t1, t2⟩, -⟩ := RX.out.at (r := w2.heap.size) (a := .slice al L.length cl) (b := .slice ad D.length cd) (c := .slice ax X.length cx) (by simp)
        go_wp2_with fail
        refine hK.out _ _ (by (try dsimp only); exact ⟨⟨r0, r1, r2⟩, ⟨t0, t1, t2⟩⟩) (fun hHeld => ?_)
        clear hK K
        try simp only [Act.put, List.getElem_toArray, List.getElem_cons_succ, List.getElem_cons_zero, List.setIfInBounds_toArray, List.set_cons_zero, List.set_cons_succ]
        refine wpAnyH_take (i := 7) (v := ?_) rfl (by kernel_rfl) (by kernel_rfl) (by kernel_rfl) (fun _ _ _ h => h) (Or.inl ⟨by rfl, ?_⟩) (by assumption) ?_
        rotate_left
        · intro w hSw; (try dsimp only at hSw); go_simp <;> with_reducible rfl
        try simp only [Act.put, List.getElem_toArray, List.getElem_cons_succ, List.getElem_cons_zero, List.setIfInBounds_toArray, List.set_cons_zero, List.set_cons_succ]
        refine wpAnyH_take (i := 8) (v := ?_) rfl (by kernel_rfl) (by kernel_rfl) (by kernel_rfl) (fun _ _ _ h => h) (Or.inl ⟨by rfl, ?_⟩) (by assumption) ?_
        rotate_left
        · intro w hSw; (try dsimp only at hSw); go_simp <;> with_reducible rfl
        try simp only [Act.put, List.getElem_toArray, List.getElem_cons_succ, List.getElem_cons_zero, List.setIfInBounds_toArray, List.set_cons_zero, List.set_cons_succ]
        refine wpAnyH_take (i := 9) (v := ?_) rfl (by kernel_rfl) (by kernel_rfl) (by kernel_rfl) (fun _ _ _ h => h) (Or.inl ⟨by rfl, ?_⟩) (by assumption) ?_
        rotate_left
        · intro w hSw; (try dsimp only at hSw); go_simp <;> with_reducible rfl
        try simp only [Act.put, List.getElem_toArray, List.getElem_cons_succ, List.getElem_cons_zero, List.setIfInBounds_toArray, List.set_cons_zero, List.set_cons_succ]
        refine wpAnyH_ready (rs := [10]) (by kernel_rfl) (by simp) ?_
        refine AllReadyH.cons rfl (fun K hK => ?_) AllReadyH.nil
        go_simp
        have RY := Lib.hid (RX.out.box nilV nilV nilV 28)
        try simp only [World.size_alloc] at RY
        clear r0 r1 r2 t0 t1 t2
        obtain ⟨⟨r0, r1, r2⟩, -⟩ := RY.out.at (r := w1.heap.size) (a := .int .i64 k) (b := .int .i64 p) (c := .int .i64 q) (by simp)
        obtain ⟨⟨t0, t1, t2⟩, -⟩ := RY.out.at (r := w2.heap.size) (a := .slice al L.length cl) (b := .slice ad D.length cd) (c := .slice ax X.length cx) (by simp)
        refine hK.out _ _ (by (try dsimp only); exact ⟨⟨r0, r1, r2⟩, ⟨t0, t1, t2⟩⟩) (fun hHeld => ?_)
        clear RY
        clear hK K
        try simp only [Act.put, List.getElem_toArray, List.getElem_cons_succ, List.getElem_cons_zero, List.setIfInBounds_toArray, List.set_cons_zero, List.set_cons_succ]
        refine wpAnyH_ready (rs := [11]) (by kernel_rfl) (by simp) ?_
        refine AllReadyH.cons rfl (fun K hK => ?_) AllReadyH.nil
        go_simp
        replace RX := Lib.hid (RX.out.box (.slice g1 A.length j1) (.slice g2 (dimsVia L D A).length j2) (.slice g3 (permDataL k q L D X A).length j3) 28)
        clear r0 r1 r2 t0 t1 t2
        obtain ⟨⟨r0, r1, r2⟩, -⟩ := RX.out.at (r := w1.heap.size) (a := .int .i64 k) (b := .int .i64 p) (c := .int .i64 q) (by simp)
        obtain ⟨⟨t0, t1, t2⟩, -⟩ := RX.out.at (r := w2.heap.size) (a := .slice al L.length cl) (b := .slice ad D.length cd) (c := .slice ax X.length cx) (by simp)
        refine hK.out _ _ (by (try dsimp only); exact ⟨⟨r0, r1, r2⟩, ⟨t0, t1, t2⟩⟩) (fun hHeld => ?_)
        clear hK K
        try simp only [Act.put, List.getElem_toArray, List.getElem_cons_succ, List.getElem_cons_zero, List.setIfInBounds_toArray, List.set_cons_zero, List.set_cons_succ]
        refine wpAnyH_take (i := 12) (v := ?_) rfl (by kernel_rfl) (by kernel_rfl) (by kernel_rfl) (fun _ _ _ h => h) (Or.inl ⟨by rfl, ?_⟩) (by assumption) ?_
        rotate_left
        · intro w hSw; (try dsimp only at hSw); go_simp <;> with_reducible rfl
        try simp only [Act.put, List.getElem_toArray, List.getElem_cons_succ, List.getElem_cons_zero, List.setIfInBounds_toArray, List.set_cons_zero, List.set_cons_succ]
        refine wpAnyH_done (by kernel_rfl) ?_ _
        go_wp2_with fail
        go_meet
        exact ⟨_, A, _, _, _, _, _, _, rfl, rfl, HP, RX⟩
      · go_simp
        have RY := Lib.hid (RX.out.box nilV nilV nilV 28)
        try simp only [World.size_alloc] at RY
        clear r0 r1 r2 t0 t1 t2
        obtain ⟨⟨r0, r1, r2⟩, -⟩ := RY.out.at (r := w1.heap.size) (a := .int .i64 k) (b := .int .i64 p) (c := .int .i64 q) (by simp)
        obtain ⟨⟨t0, t1, t2⟩, -⟩ := RY.out.at (r := w2.heap.size) (a := .slice al L.length cl) (b := .slice ad D.length cd) (c := .slice ax X.length cx) (by simp)
        refine hK.out _ _ (by (try dsimp only); exact ⟨⟨r0, r1, r2⟩, ⟨t0, t1, t2⟩⟩) (fun hHeld => ?_)
        clear RX
        have RX := RY
        clear RY
        clear hK K
        try simp only [Act.put, List.getElem_toArray, List.getElem_cons_succ, List.getElem_cons_zero, List.setIfInBounds_toArray, List.set_cons_zero, List.set_cons_succ]
        refine wpAnyH_ready (rs := [6]) (by kernel_rfl) (by simp) ?_
        refine AllReadyH.cons rfl (fun K hK => ?_) AllReadyH.nil
        go_simp
        go_at_call 36
        have hq := permute_tensor_impl (k := k) (p := p) (q := q) ⟨RX.out.rd (v := .slice al L.length cl) (xs := L) (by simp), RX.out.rd (v := .slice ad D.length cd) (xs := D) (by simp), RX.out.rd (v := .slice ax X.length cx) (xs := X) (by simp)⟩ (RX.out.rd (v := .slice ag A.length cg) (xs := A) (by simp)) (Nat.le_refl _) HLT.out (by rw [HP.out.length_eq]; have := HLL.out.1; omega) HIL.out
        rw [HPM.out.1] at hq
        simp only [if_true] at hq
        refine hq.mono ?_
        clear hq
        rintro e w4 ⟨u1, u2, u3, rfl, ho, hb⟩
        replace RX := Lib.hid ((RX.out.new3 hb ho).sub (rows' := _ :: _ :: _ :: _) (List.Sublist.cons_cons _ (List.Sublist.cons_cons _ (List.Sublist.cons_cons _ (List.Sublist.cons _ (List.Sublist.refl _))))))
        obtain ⟨g1, j1, rfl, -⟩ := ints_form ho.rows.1.rd
        obtain ⟨g2, j2, rfl, -⟩ := ints_form ho.rows.2.1.rd
        obtain ⟨g3, j3, rfl, -⟩ := ints_form ho.rows.2.2.rd
        clear ho hb r0 r1 r2 t0 t1 t2
        obtain ⟨⟨r0, r1, r2⟩, -⟩ := RX.out.at (r := w1.heap.size) (a := .int .i64 k) (b := .int .i64 p) (c := .int .i64 q) (by simp)
        obtain ⟨⟨t0, t1, t2⟩, -⟩ := RX.out.at (r := w2.heap.size) (a := .slice al L.length cl) (b := .slice ad D.length cd) (c := .slice ax X.length cx) (by simp)
        go_wp2_with fail
        refine hK.out _ _ (by (try dsimp only); exact ⟨⟨r0, r1, r2⟩, ⟨t0, t1, t2⟩⟩) (fun hHeld => ?_)
        clear hK K
        try simp only [Act.put, List.getElem_toArray, List.getElem_cons_succ, List.getElem_cons_zero, List.setIfInBounds_toArray, List.set_cons_zero, List.set_cons_succ]
        try (obtain ⟨⟨z0, z1, z2⟩, q0, q1, q2⟩ := RX.out.at (List.mem_cons_self))
        refine wpAnyH_take (i := 7) (v := ?_) rfl (by kernel_rfl) (by kernel_rfl) (by kernel_rfl) (fun _ _ _ h => h) (Or.inl ⟨by rfl, ?_⟩) (by assumption) ?_
        rotate_left
        · intro w hSw; (try dsimp only at hSw); go_simp <;> with_reducible rfl
        try simp only [Act.put, List.getElem_toArray, List.getElem_cons_succ, List.getElem_cons_zero, List.setIfInBounds_toArray, List.set_cons_zero, List.set_cons_succ]
        refine wpAnyH_take (i := 8) (v := ?_) rfl (by kernel_rfl) (by kernel_rfl) (by kernel_rfl) (fun _ _ _ h => h) (Or.inl ⟨by rfl, ?_⟩) (by assumption) ?_
        rotate_left
        · intro w hSw; (try dsimp only at hSw); go_simp <;> with_reducible rfl
        try simp only [Act.put, List.getElem_toArray, List.getElem_cons_succ, List.getElem_cons_zero, List.setIfInBounds_toArray, List.set_cons_zero, List.set_cons_succ]
        refine wpAnyH_take (i := 9) (v := ?_) rfl (by kernel_rfl) (by kernel_rfl) (by kernel_rfl) (fun _ _ _ h => h) (Or.inl ⟨by rfl, ?_⟩) (by assumption) ?_
        rotate_left
        · intro w hSw; (try dsimp only at hSw); go_simp <;> with_reducible rfl
        try simp only [Act.put, List.getElem_toArray, List.getElem_cons_succ, List.getElem_cons_zero, List.setIfInBounds_toArray, List.set_cons_zero, List.set_cons_succ]
        refine wpAnyH_ready (rs := [11]) (by kernel_rfl) (by simp) ?_
        refine AllReadyH.cons rfl (fun K hK => ?_) AllReadyH.nil
        go_simp
        replace RX := Lib.hid (RX.out.set3 (.slice g1 A.length j1) (.slice g2 (dimsVia L D A).length j2) (.slice g3 (permDataL k q L D X A).length j3))
        clear r0 r1 r2 t0 t1 t2
        obtain ⟨⟨r0, r1, r2⟩, -⟩ := RX.out.at (r := w1.heap.size) (a := .int .i64 k) (b := .int .i64 p) (c := .int .i64 q) (by simp)
        obtain ⟨⟨t0, t1, t2⟩, -⟩ := RX.out.at (r := w2.heap.size) (a := .slice al L.length cl) (b := .slice ad D.length cd) (c := .slice ax X.length cx) (by simp)
        refine hK.out _ _ (by (try dsimp only); exact ⟨⟨r0, r1, r2⟩, ⟨t0, t1, t2⟩⟩) (fun hHeld => ?_)
        clear hK K
        try simp only [Act.put, List.getElem_toArray, List.getElem_cons_succ, List.getElem_cons_zero, List.setIfInBounds_toArray, List.set_cons_zero, List.set_cons_succ]
        try (obtain ⟨⟨z0, z1, z2⟩, q0, q1, q2⟩ := RX.out.at (List.mem_cons_self))
        refine wpAnyH_take (i := 12) (v := ?_) rfl (by kernel_rfl) (by kernel_rfl) (by kernel_rfl) (fun _ _ _ h => h) (Or.inl ⟨by rfl, ?_⟩) (by assumption) ?_
        rotate_left
        · intro w hSw; (try dsimp only at hSw); go_simp <;> with_reducible rfl
        try simp only [Act.put, List.getElem_toArray, List.getElem_cons_succ, List.getElem_cons_zero, List.setIfInBounds_toArray, List.set_cons_zero, List.set_cons_succ]
        refine wpAnyH_done (by kernel_rfl) ?_ _
        go_wp2_with fail
        go_meet
        exact ⟨_, A, _, _, _, _, _, _, rfl, rfl, HP, RX⟩
    · go_simp
      have RY := Lib.hid ((RP.out.box nilV nilV nilV 28).drew)
      try simp only [World.size_alloc] at RY
      clear r0 r1 r2 t0 t1 t2
      obtain ⟨⟨r0, r1, r2⟩, -⟩ := RY.out.at (r := w1.heap.size) (a := .int .i64 k) (b := .int .i64 p) (c := .int .i64 q) (by simp)
      obtain ⟨⟨t0, t1, t2⟩, -⟩ := RY.out.at (r := w2.heap.size) (a := .slice al L.length cl) (b := .slice ad D.length cd) (c := .slice ax X.length cx) (by simp)
      refine hK.out _ _ (by (try dsimp only); exact ⟨⟨r0, r1, r2⟩, ⟨t0, t1, t2⟩⟩) (fun hHeld => ?_)
      clear RX
      have RX := RY
      clear RY
      clear hK K
      try simp only [Act.put, List.getElem_toArray, List.getElem_cons_succ, List.getElem_cons_zero, List.setIfInBounds_toArray, List.set_cons_zero, List.set_cons_succ]
      refine wpAnyH_ready (rs := [5]) (by kernel_rfl) (by simp) ?_
      refine AllReadyH.cons rfl (fun K hK => ?_) AllReadyH.nil
      go_simp
      go_at_call 37
      refine (make_list 60 (by omega) ((HR.out.below RX.out.bel (Nat.le_refl _)).mono RX.out.bel.size) HN.out (RX.out.rd (v := .slice al L.length cl) (xs := L) (by simp)) (by have := HLL.out.1; omega)).mono ?_
      rintro e w3 ⟨u, A, rfl, hp, ho, hb⟩
      replace RX := Lib.hid (RX.out.new hb ho)
      have HP := Lib.hid hp
      obtain ⟨ag, cg, rfl, -⟩ := ints_form ho.rd
      have HPM := Lib.hid (perm_ok HT.out hp)
      clear hp ho hb r0 r1 r2 t0 t1 t2
      obtain ⟨⟨r0, r1, r2⟩, -⟩ := RX.out.at (r := w1.heap.size) (a := .int .i64 k) (b := .int .i64 p) (c := .int .i64 q) (by simp)
      obtain ⟨⟨t0, t1, t2⟩, -⟩ := RX.out.at (r := w2.heap.size) (a := .slice al L.length cl) (b := .slice ad D.length cd) (c := .slice ax X.length cx) (by simp)
      go_wp2_with fail
      refine hK.out _ _ (by (try dsimp only); exact ⟨⟨r0, r1, r2⟩, ⟨t0, t1, t2⟩⟩) (fun hHeld => ?_)
      clear hK K
      try simp only [Act.put, List.getElem_toArray, List.getElem_cons_succ, List.getElem_cons_zero, List.setIfInBounds_toArray, List.set_cons_zero, List.set_cons_succ]
      refine wpAnyH_ready (rs := [6]) (by kernel_rfl) (by simp) ?_
      refine AllReadyH.cons rfl (fun K hK => ?_) AllReadyH.nil
      go_simp
      go_at_call 36
      have hq := permute_tensor_impl (k := k) (p := p) (q := q) ⟨RX.out.rd (v := .slice al L.length cl) (xs := L) (by simp), RX.out.rd (v := .slice ad D.length cd) (xs := D) (by simp), RX.out.rd (v := .slice ax X.length cx) (xs := X) (by simp)⟩ (RX.out.rd (v := .slice ag A.length cg) (xs := A) (by simp)) (Nat.le_refl _) HLT.out (by rw [HP.out.length_eq]; have := HLL.out.1; omega) HIL.out
      rw [HPM.out.1] at hq
      simp only [if_true] at hq
      refine hq.mono ?_
      clear hq
      rintro e w4 ⟨u1, u2, u3, rfl, ho, hb⟩
      replace RX := Lib.hid ((RX.out.new3 hb ho).sub (rows' := _ :: _ :: _ :: _) (List.Sublist.cons_cons _ (List.Sublist.cons_cons _ (List.Sublist.cons_cons _ (List.Sublist.cons _ (List.Sublist.refl _))))))
      obtain ⟨g1, j1, rfl, -⟩ := ints_form ho.rows.1.rd
      obtain ⟨g2, j2, rfl, -⟩ := ints_form ho.rows.2.1.rd
      obtain ⟨g3, j3, rfl, -⟩ := ints_form ho.rows.2.2.rd
      clear ho hb r0 r1 r2 t0 t1 t2
      obtain ⟨⟨r0, r1, r2⟩, -⟩ := RX.out.at (r := w1.heap.size) (a := .int .i64 k) (b := .int .i64 p) (c := .int .i64 q) (by simp)
      obtain ⟨⟨t0, t1, t2⟩, -⟩ := RX.out.at (r := w2.heap.size) (a := .slice al L.length cl) (b := .slice ad D.length cd) (c := .slice ax X.length cx) (by simp)
      go_wp2_with fail
      refine hK.out _ _ (by (try dsimp only); exact ⟨⟨r0, r1, r2⟩, ⟨t0, t1, t2⟩⟩) (fun hHeld => ?_)
      clear hK K
      try simp only [Act.put, List.getElem_toArray, List.getElem_cons_succ, List.getElem_cons_zero, List.setIfInBounds_toArray, List.set_cons_zero, List.set_cons_succ]
      try (obtain ⟨⟨z0, z1, z2⟩, q0, q1, q2⟩ := RX.out.at (List.mem_cons_self))
      refine wpAnyH_take (i := 7) (v := ?_) rfl (by kernel_rfl) (by kernel_rfl) (by kernel_rfl) (fun _ _ _ h => h) (Or.inl ⟨by rfl, ?_⟩) (by assumption) ?_
      rotate_left
      · intro w hSw; (try dsimp only at hSw); go_simp <;> with_reducible rfl
      try simp only [Act.put, List.getElem_toArray, List.getElem_cons_succ, List.getElem_cons_zero, List.setIfInBounds_toArray, List.set_cons_zero, List.set_cons_succ]
      refine wpAnyH_take (i := 8) (v := ?_) rfl (by kernel_rfl) (by kernel_rfl) (by kernel_rfl) (fun _ _ _ h => h) (Or.inl ⟨by rfl, ?_⟩) (by assumption) ?_
      rotate_left
      · intro w hSw; (try dsimp only at hSw); go_simp <;> with_reducible rfl
      try simp only [Act.put, List.getElem_toArray, List.getElem_cons_succ, List.getElem_cons_zero, List.setIfInBounds_toArray, List.set_cons_zero, List.set_cons_succ]
      refine wpAnyH_take (i := 9) (v := ?_) rfl (by kernel_rfl) (by kernel_rfl) (by kernel_rfl) (fun _ _ _ h => h) (Or.inl ⟨by rfl, ?_⟩) (by assumption) ?_
      rotate_left
      · intro w hSw; (try dsimp only at hSw); go_simp <;> with_reducible rfl
      try simp only [Act.put, List.getElem_toArray, List.getElem_cons_succ, List.getElem_cons_zero, List.setIfInBounds_toArray, List.set_cons_zero, List.set_cons_succ]
      refine wpAnyH_ready (rs := [11]) (by kernel_rfl) (by simp) ?_
      refine AllReadyH.cons rfl (fun K hK => ?_) AllReadyH.nil
      go_simp
      replace RX := Lib.hid (RX.out.set3 (.slice g1 A.length j1) (.slice g2 (dimsVia L D A).length j2) (.slice g3 (permDataL k q L D X A).length j3))
      clear r0 r1 r2 t0 t1 t2
      obtain ⟨⟨r0, r1, r2⟩, -⟩ := RX.out.at (r := w1.heap.size) (a := .int .i64 k) (b := .int .i64 p) (c := .int .i64 q) (by simp)
      obtain ⟨⟨t0, t1, t2⟩, -⟩ := RX.out.at (r := w2.heap.size) (a := .slice al L.length cl) (b := .slice ad D.length cd) (c := .slice ax X.length cx) (by simp)
      refine hK.out _ _ (by (try dsimp only); exact ⟨⟨r0, r1, r2⟩, ⟨t0, t1, t2⟩⟩) (fun hHeld => ?_)
      clear hK K
      try simp only [Act.put, List.getElem_toArray, List.getElem_cons_succ, List.getElem_cons_zero, List.setIfInBounds_toArray, List.set_cons_zero, List.set_cons_succ]
      try (obtain ⟨⟨z0, z1, z2⟩, q0, q1, q2⟩ := RX.out.at (List.mem_cons_self))
      refine wpAnyH_take (i := 12) (v := ?_) rfl (by kernel_rfl) (by kernel_rfl) (by kernel_rfl) (fun _ _ _ h => h) (Or.inl ⟨by rfl, ?_⟩) (by assumption) ?_
      rotate_left
      · intro w hSw; (try dsimp only at hSw); go_simp <;> with_reducible rfl
      try simp only [Act.put, List.getElem_toArray, List.getElem_cons_succ, List.getElem_cons_zero, List.setIfInBounds_toArray, List.set_cons_zero, List.set_cons_succ]
      refine wpAnyH_done (by kernel_rfl) ?_ _
      go_wp2_with fail
      go_meet
      exact ⟨_, A, _, _, _, _, _, _, rfl, rfl, HP, RX⟩
  obtain ⟨b5, A, g1, g2, g3, j1, j2, j3, rfl, rfl, HP, RU⟩ := hcut
  have HPM := Lib.hid (perm_ok HT.out HP.out)
  have HPS := Lib.hid (perm_perm HT.out HP.out (List.Perm.refl L))
  have HPK := Lib.hid (perm_back HT.out)
  have HRL := Lib.hid (rel_ok HT.out HV.out)
  have HSM := Lib.hid (same_perm HT.out HP.out)
  have HAL : Hid (A.length = L.length) := Lib.hid HP.out.length_eq
  have HLU := Lib.hid (perm_lens2 HPM.out.1)
  have HLTU : Hid (LenT A (dimsVia L D A) (permDataL k q L D X A)) := Lib.hid ⟨by have := HLU.out.1; omega, by have := HLU.out.2.1; omega, by have := HLU.out.2.2; omega⟩
  have HU2 := Lib.hid (perm_ok HPM.out.2.1 HP.out.symm)
  have HIA := Lib.hid (show allI A from fun z hz => HIL.out z (HP.out.subset hz))
  have RX := RU
  clear RU RP
  obtain ⟨⟨r0, r1, r2⟩, -⟩ := RX.out.at (r := w1.heap.size) (a := .int .i64 k) (b := .int .i64 p) (c := .int .i64 q) (by simp)
  obtain ⟨⟨t0, t1, t2⟩, -⟩ := RX.out.at (r := w2.heap.size) (a := .slice al L.length cl) (b := .slice ad D.length cd) (c := .slice ax X.length cx) (by simp)
  obtain ⟨⟨u0, u1, u2⟩, -⟩ := RX.out.at (r := b5) (a := .slice g1 A.length j1) (b := .slice g2 (dimsVia L D A).length j2) (c := .slice g3 (permDataL k q L D X A).length j3) (by simp)
  have hq := permute_tensor_impl (k := k) (p := p) (q := q) ⟨RX.out.rd (v := .slice g1 A.length j1) (xs := A) (by simp), RX.out.rd (v := .slice g2 (dimsVia L D A).length j2) (xs := dimsVia L D A) (by simp), RX.out.rd (v := .slice g3 (permDataL k q L D X A).length j3) (xs := permDataL k q L D X A) (by simp)⟩ (RX.out.rd (v := .slice al L.length cl) (xs := L) (by simp)) (Nat.le_refl _) HLTU.out (by have := HLL.out.1; omega) HIA.out
  rw [HU2.out.1] at hq
  simp only [if_true] at hq
  rw [HPS.out.1, HPS.out.2, HPK.out.1, HPK.out.2] at hq
  have HQ1 := Lib.hid hq
  clear hq
  go_wp2_with fail
  refine HQ1.out.mono ?_
  clear r0 r1 r2 t0 t1 t2 u0 u1 u2 HQ1
  rintro e w6 ⟨y1, y2, y3, rfl, ho, hb⟩
  replace RX := Lib.hid (RX.out.new3 hb ho)
  obtain ⟨h1, i1, rfl, -⟩ := ints_form ho.rows.1.rd
  obtain ⟨h2, i2, rfl, -⟩ := ints_form ho.rows.2.1.rd
  obtain ⟨h3, i3, rfl, -⟩ := ints_form ho.rows.2.2.rd
  clear ho hb
  have RY := RX.out.box (.slice h1 L.length i1) (.slice h2 D.length i2) (.slice h3 X.length i3) 28
  have RZ := RY.lit
  simp only [World.size_alloc] at RZ
  replace RX := Lib.hid RY
  have RL := Lib.hid RZ
  clear RY RZ
  obtain ⟨⟨t0, t1, t2⟩, -⟩ := RL.out.at (r := w2.heap.size) (a := .slice al L.length cl) (b := .slice ad D.length cd) (c := .slice ax X.length cx) (by simp)
  obtain ⟨i0, hi, hz0, hz1, hz2⟩ := info_parts infoInt
  have J0 := Lib.hid hi
  have J1 := Lib.hid hz0
  have J2 := Lib.hid hz1
  have J3 := Lib.hid hz2
  have hm12 : L.length ≤ 12 := HLL.out.1
  clear hi hz0 hz1 hz2
  obtain ⟨bs7, hbs7⟩ : ∃ b, b = [(w6.heap.size, Value.slice h1 L.length i1, Value.slice h2 D.length i2, Value.slice h3 X.length i3), (b5, .slice g1 A.length j1, .slice g2 (dimsVia L D A).length j2, .slice g3 (permDataL k q L D X A).length j3), (w2.heap.size, .slice al L.length cl, .slice ad D.length cd, .slice ax X.length cx), (w1.heap.size, .int .i64 k, .int .i64 p, .int .i64 q)] := ⟨_, rfl⟩
  obtain ⟨rw7, hrw7⟩ : ∃ b, b = [(Value.slice h1 L.length i1, L), (.slice h2 D.length i2, D), (.slice h3 X.length i3, X), (.slice g1 A.length j1, A), (.slice g2 (dimsVia L D A).length j2, dimsVia L D A), (.slice g3 (permDataL k q L D X A).length j3, permDataL k q L D X A), (.slice al L.length cl, L), (.slice ad D.length cd, D), (.slice ax X.length cx, X)] := ⟨_, rfl⟩
  rw [← hbs7, ← hrw7] at RL
  have HB7 := Lib.hid (And.intro hbs7 hrw7)
  clear hbs7 hrw7 RX
  skip
  go_wp2
  go_loopw [9, 46] (fun tv i wr => ∃ (j ca : Nat) (ga : Option Addr), j ≤ L.length ∧ i = .int .i64 j ∧ tv = .slice ga j ca ∧ Hid (Rs w wr bs7 ((.slice ga j ca, others (L.take j)) :: rw7))) (fun _ i _ => L.length - (intOf i).toNat)
  case atStart => exact ⟨0, 0, _, by omega, rfl, rfl, RL⟩
  case round =>
    clear RL
    obtain ⟨j, ca, ga, hj, rfl, rfl, HR7⟩ := hrel
    by_cases hlt : j < L.length
    · obtain ⟨x, X1⟩ : ∃ x, Hid (L[j]? = some x) := ⟨_, List.getElem?_eq_getElem hlt⟩
      have hxr := HV.out.rg x (List.mem_of_getElem? X1.out)
      have hx0 := hxr.1
      have hx1 : x < 6 := hxr.2
      obtain ⟨b, off, e, -, e1⟩ := Rd.cellAt (HR7.out.rd (v := .slice al L.length cl) (xs := L) (by rw [HB7.out.2]; simp)) X1.out
      have hw9 : IntKind.i64.wrap (90 - x) = 90 - x := IntWalk.i64_in _ (by omega)
      have A1 := Lib.hid (HR7.out.alloc (.cells #[.int .i64 (90 - x)] 3))
      have O1 := Lib.hid (A1.out.row (n := j) (v := .slice ga j ca) (xs := others (L.take j)) (List.mem_cons_self) (by rw [others_len, List.length_take]; omega))
      have Z1 := Lib.hid A1.out.bel.size
      clear hxr
      subst e
      go_wp2_with (at_builtin; go_must (refine wpList_append_lies _ rfl _ _ 24 rfl w.heap.size 3 i0 (.int .i64 0) 1 8 Try.underlying24 J0.out J1.out J2.out J3.out rfl (by decide) _ j (ints (others (L.take j))) rfl O1.out ⟨wr.heap.size, 0, none⟩ 1 1 [.int .i64 (90 - x)] rfl rfl (cell_one_new _ _ _) ?c2 (by decide) ?c3 ?c4 ?c5 _ rfl ?_))
      case c2 => first | rfl | (intro u hu; simp at hu; subst hu; rfl)
      case c3 => unfold maxLen; omega
      case c4 => omega
      case c5 => exact Z1.out
      intro g9 cap9 w7 hown hgrow hl9 _
      have h9 := A1.out.app1 (by rw [others_len, List.length_take]; omega) hown hgrow (by rw [World.size_alloc]; exact hl9)
      have e9 : others (L.take j) ++ [90 - x] = others (L.take (j + 1)) := by rw [← take_snoc X1.out]; simp [others]
      rw [e9] at h9
      have R9 := Lib.hid h9
      clear hown hgrow hl9 h9 e9 O1 A1 Z1
      go_wp2
      go_roundw
      case rel => exact ⟨j + 1, cap9, _, by omega, by go_num, rfl, R9⟩
      case measure => simp [intOf]; omega
    · obtain rfl : j = L.length := by omega
      have RX : Hid (Rs w wr bs7 ((.slice ga L.length ca, others L) :: rw7)) := Lib.hid (by have h := HR7.out; rwa [List.take_of_length_le (Nat.le_refl _)] at h)
      rw [HB7.out.1, HB7.out.2] at RX
      clear HR7
      skip
      obtain ⟨⟨r0, r1, r2⟩, -⟩ := RX.out.at (r := w1.heap.size) (a := .int .i64 k) (b := .int .i64 p) (c := .int .i64 q) (by simp)
      obtain ⟨⟨t0, t1, t2⟩, -⟩ := RX.out.at (r := w2.heap.size) (a := .slice al L.length cl) (b := .slice ad D.length cd) (c := .slice ax X.length cx) (by simp)
      have hq := relabel_tensor_impl (k := k) (p := p) (q := q) ⟨RX.out.rd (v := .slice al L.length cl) (xs := L) (by simp), RX.out.rd (v := .slice ad D.length cd) (xs := D) (by simp), RX.out.rd (v := .slice ax X.length cx) (xs := X) (by simp)⟩ (RX.out.rd (v := .slice al L.length cl) (xs := L) (by simp)) (RX.out.rd (v := .slice ga L.length ca) (xs := others L) (by simp)) (Nat.le_refl _) HLT.out (by have := HLL.out.1; omega) (by rw [others_len]; have := HLL.out.1; omega) HIL.out HIO.out
      rw [HRL.out.1] at hq
      simp only [if_true] at hq
      rw [HRL.out.2.1] at hq
      have HQ1 := Lib.hid hq
      clear hq
      go_wp2_with fail
      refine HQ1.out.mono ?_
      clear r0 r1 r2 t0 t1 t2 HQ1
      rintro e w8 ⟨y1, y2, y3, rfl, ho, hb⟩
      replace RX := Lib.hid (RX.out.new3 hb ho)
      obtain ⟨m1, n1, rfl, -⟩ := ints_form ho.rows.1.rd
      obtain ⟨m2, n2, rfl, -⟩ := ints_form ho.rows.2.1.rd
      obtain ⟨m3, n3, rfl, -⟩ := ints_form ho.rows.2.2.rd
      clear ho hb
      replace RX := Lib.hid (RX.out.box (.slice m1 (others L).length n1) (.slice m2 D.length n2) (.slice m3 X.length n3) 28)
      obtain ⟨⟨r0, r1, r2⟩, -⟩ := RX.out.at (r := w1.heap.size) (a := .int .i64 k) (b := .int .i64 p) (c := .int .i64 q) (by simp)
      obtain ⟨⟨t0, t1, t2⟩, -⟩ := RX.out.at (r := w2.heap.size) (a := .slice al L.length cl) (b := .slice ad D.length cd) (c := .slice ax X.length cx) (by simp)
      obtain ⟨⟨x0, x1, x2⟩, -⟩ := RX.out.at (r := w8.heap.size) (a := .slice m1 (others L).length n1) (b := .slice m2 D.length n2) (c := .slice m3 X.length n3) (by simp)
      have hq := relabel_tensor_impl (k := k) (p := p) (q := q) ⟨RX.out.rd (v := .slice m1 (others L).length n1) (xs := others L) (by simp), RX.out.rd (v := .slice m2 D.length n2) (xs := D) (by simp), RX.out.rd (v := .slice m3 X.length n3) (xs := X) (by simp)⟩ (RX.out.rd (v := .slice ga L.length ca) (xs := others L) (by simp)) (RX.out.rd (v := .slice al L.length cl) (xs := L) (by simp)) (Nat.le_refl _) ⟨by rw [others_len]; have := HLL.out.1; omega, HLT.out.d, HLT.out.x⟩ (by rw [others_len]; have := HLL.out.1; omega) (by have := HLL.out.1; omega) HIO.out HIL.out
      rw [HRL.out.2.2.1] at hq
      simp only [if_true] at hq
      rw [HRL.out.2.2.2] at hq
      have HQ1 := Lib.hid hq
      clear hq
      go_wp2_with fail
      refine HQ1.out.mono ?_
      clear r0 r1 r2 t0 t1 t2 x0 x1 x2 HQ1
      rintro e w9 ⟨y1, y2, y3, rfl, ho, hb⟩
      replace RX := Lib.hid (RX.out.new3 hb ho)
      obtain ⟨o1, p1, rfl, -⟩ := ints_form ho.rows.1.rd
      obtain ⟨o2, p2, rfl, -⟩ := ints_form ho.rows.2.1.rd
      obtain ⟨o3, p3, rfl, -⟩ := ints_form ho.rows.2.2.rd
      clear ho hb
      have RP := Lib.hid (RX.out.box (.slice o1 L.length p1) (.slice o2 D.length p2) (.slice o3 X.length p3) 28)
      clear RX
      have RX := RP
      clear RP
      obtain ⟨⟨r0, r1, r2⟩, -⟩ := RX.out.at (r := w1.heap.size) (a := .int .i64 k) (b := .int .i64 p) (c := .int .i64 q) (by simp)
      obtain ⟨⟨t0, t1, t2⟩, -⟩ := RX.out.at (r := w2.heap.size) (a := .slice al L.length cl) (b := .slice ad D.length cd) (c := .slice ax X.length cx) (by simp)
      obtain ⟨⟨u0, u1, u2⟩, -⟩ := RX.out.at (r := b5) (a := .slice g1 A.length j1) (b := .slice g2 (dimsVia L D A).length j2) (c := .slice g3 (permDataL k q L D X A).length j3) (by simp)
      obtain ⟨⟨v0, v1, v2⟩, -⟩ := RX.out.at (r := w6.heap.size) (a := .slice h1 L.length i1) (b := .slice h2 D.length i2) (c := .slice h3 X.length i3) (by simp)
      obtain ⟨⟨x0, x1, x2⟩, -⟩ := RX.out.at (r := w8.heap.size) (a := .slice m1 (others L).length n1) (b := .slice m2 D.length n2) (c := .slice m3 X.length n3) (by simp)
      obtain ⟨⟨z0, z1, z2⟩, -⟩ := RX.out.at (r := w9.heap.size) (a := .slice o1 L.length p1) (b := .slice o2 D.length p2) (c := .slice o3 X.length p3) (by simp)
      have RP := Lib.hid RX.out.drew
      go_wp2
      have TK1 : True := trivial
      have TK2 : True := trivial
      have TK3 : True := trivial
      refine wp_region_held_drew (S := fun w' => (w'.cell? ⟨w1.heap.size, 0, none⟩ = some (.int .i64 k) ∧ w'.cell? ⟨w1.heap.size, 1, none⟩ = some (.int .i64 p) ∧ w'.cell? ⟨w1.heap.size, 2, none⟩ = some (.int .i64 q)) ∧ (w'.cell? ⟨w2.heap.size, 0, none⟩ = some (.slice al L.length cl) ∧ w'.cell? ⟨w2.heap.size, 1, none⟩ = some (.slice ad D.length cd) ∧ w'.cell? ⟨w2.heap.size, 2, none⟩ = some (.slice ax X.length cx)) ∧ (w'.cell? ⟨b5, 0, none⟩ = some (.slice g1 A.length j1) ∧ w'.cell? ⟨b5, 1, none⟩ = some (.slice g2 (dimsVia L D A).length j2) ∧ w'.cell? ⟨b5, 2, none⟩ = some (.slice g3 (permDataL k q L D X A).length j3)) ∧ (w'.cell? ⟨w6.heap.size, 0, none⟩ = some (.slice h1 L.length i1) ∧ w'.cell? ⟨w6.heap.size, 1, none⟩ = some (.slice h2 D.length i2) ∧ w'.cell? ⟨w6.heap.size, 2, none⟩ = some (.slice h3 X.length i3)) ∧ (w'.cell? ⟨w8.heap.size, 0, none⟩ = some (.slice m1 (others L).length n1) ∧ w'.cell? ⟨w8.heap.size, 1, none⟩ = some (.slice m2 D.length n2) ∧ w'.cell? ⟨w8.heap.size, 2, none⟩ = some (.slice m3 X.length n3)) ∧ (w'.cell? ⟨w9.heap.size, 0, none⟩ = some (.slice o1 L.length p1) ∧ w'.cell? ⟨w9.heap.size, 1, none⟩ = some (.slice o2 D.length p2) ∧ w'.cell? ⟨w9.heap.size, 2, none⟩ = some (.slice o3 X.length p3))) (by kernel_rfl) (by (try dsimp only); exact ⟨⟨r0, r1, r2⟩, ⟨t0, t1, t2⟩, ⟨u0, u1, u2⟩, ⟨v0, v1, v2⟩, ⟨x0, x1, x2⟩, ⟨z0, z1, z2⟩⟩) (fun hHeld => ?_)
      clear RX
      have RX := RP
      clear RP
      refine wpAnyH_take (i := 0) (v := ?_) rfl (by kernel_rfl) (by kernel_rfl) (by kernel_rfl) (fun _ _ _ h => h) (Or.inl ⟨by rfl, ?_⟩) (by assumption) ?_
      rotate_left
      · intro w hSw; (try dsimp only at hSw); go_simp <;> with_reducible rfl
      try simp only [Act.put, List.getElem_toArray, List.getElem_cons_zero, List.setIfInBounds_toArray, List.set_cons_zero, List.set_cons_succ]
      refine wpAnyH_take (i := 1) (v := ?_) rfl (by kernel_rfl) (by kernel_rfl) (by kernel_rfl) (fun _ _ _ h => h) (Or.inl ⟨by rfl, ?_⟩) (by assumption) ?_
      rotate_left
      · intro w hSw; (try dsimp only at hSw); go_simp <;> with_reducible rfl
      try simp only [Act.put, List.getElem_toArray, List.getElem_cons_succ, List.getElem_cons_zero, List.setIfInBounds_toArray, List.set_cons_zero, List.set_cons_succ]
      refine wpAnyH_take (i := 2) (v := ?_) rfl (by kernel_rfl) (by kernel_rfl) (by kernel_rfl) (fun _ _ _ h => h) (Or.inl ⟨by rfl, ?_⟩) (by assumption) ?_
      rotate_left
      · intro w hSw; (try dsimp only at hSw); go_simp <;> with_reducible rfl
      try simp only [Act.put, List.getElem_toArray, List.getElem_cons_succ, List.getElem_cons_zero, List.setIfInBounds_toArray, List.set_cons_zero, List.set_cons_succ]
      refine wpAnyH_take (i := 3) (v := ?_) rfl (by kernel_rfl) (by kernel_rfl) (by kernel_rfl) (fun _ _ _ h => h) (Or.inl ⟨by rfl, ?_⟩) (by assumption) ?_
      rotate_left
      · intro w hSw; (try dsimp only at hSw); go_simp <;> with_reducible rfl
      try simp only [Act.put, List.getElem_toArray, List.getElem_cons_succ, List.getElem_cons_zero, List.setIfInBounds_toArray, List.set_cons_zero, List.set_cons_succ]
      refine wpAnyH_take (i := 4) (v := ?_) rfl (by kernel_rfl) (by kernel_rfl) (by kernel_rfl) (fun _ _ _ h => h) (Or.inl ⟨by rfl, ?_⟩) (by assumption) ?_
      rotate_left
      · intro w hSw; (try dsimp only at hSw); go_simp <;> with_reducible rfl
      try simp only [Act.put, List.getElem_toArray, List.getElem_cons_succ, List.getElem_cons_zero, List.setIfInBounds_toArray, List.set_cons_zero, List.set_cons_succ]
      refine wpAnyH_take (i := 5) (v := ?_) rfl (by kernel_rfl) (by kernel_rfl) (by kernel_rfl) (fun _ _ _ h => h) (Or.inl ⟨by rfl, ?_⟩) (by assumption) ?_
      rotate_left
      · intro w hSw; (try dsimp only at hSw); go_simp <;> with_reducible rfl
      try simp only [Act.put, List.getElem_toArray, List.getElem_cons_succ, List.getElem_cons_zero, List.setIfInBounds_toArray, List.set_cons_zero, List.set_cons_succ]
      refine wpAnyH_take (i := 6) (v := ?_) rfl (by kernel_rfl) (by kernel_rfl) (by kernel_rfl) (fun _ _ _ h => h) (Or.inl ⟨by rfl, ?_⟩) (by assumption) ?_
      rotate_left
      · intro w hSw; (try dsimp only at hSw); go_simp <;> with_reducible rfl
      try simp only [Act.put, List.getElem_toArray, List.getElem_cons_succ, List.getElem_cons_zero, List.setIfInBounds_toArray, List.set_cons_zero, List.set_cons_succ]
      refine wpAnyH_ready (rs := [7]) (by kernel_rfl) (by simp) ?_
      refine AllReadyH.cons rfl (fun K hK => ?_) AllReadyH.nil
      go_simp
      (go_at_call 39; first | (have _t := TK1; refine (same_true ⟨RX.out.rd (v := .slice h1 L.length i1) (xs := L) (by simp), RX.out.rd (v := .slice h2 D.length i2) (xs := D) (by simp), RX.out.rd (v := .slice h3 X.length i3) (xs := X) (by simp)⟩ ⟨RX.out.rd (v := .slice al L.length cl) (xs := L) (by simp), RX.out.rd (v := .slice ad D.length cd) (xs := D) (by simp), RX.out.rd (v := .slice ax X.length cx) (xs := X) (by simp)⟩ (Nat.le_refl _) (Nat.le_refl _) HLT.out).mono ?_; clear _t TK1; rintro e w10 ⟨rfl, hb⟩; replace RX := Lib.hid (RX.out.step hb); clear hb; clear r0 r1 r2 t0 t1 t2 u0 u1 u2 v0 v1 v2 x0 x1 x2 z0 z1 z2; obtain ⟨⟨r0, r1, r2⟩, -⟩ := RX.out.at (r := w1.heap.size) (a := .int .i64 k) (b := .int .i64 p) (c := .int .i64 q) (by simp); obtain ⟨⟨t0, t1, t2⟩, -⟩ := RX.out.at (r := w2.heap.size) (a := .slice al L.length cl) (b := .slice ad D.length cd) (c := .slice ax X.length cx) (by simp); obtain ⟨⟨u0, u1, u2⟩, -⟩ := RX.out.at (r := b5) (a := .slice g1 A.length j1) (b := .slice g2 (dimsVia L D A).length j2) (c := .slice g3 (permDataL k q L D X A).length j3) (by simp); obtain ⟨⟨v0, v1, v2⟩, -⟩ := RX.out.at (r := w6.heap.size) (a := .slice h1 L.length i1) (b := .slice h2 D.length i2) (c := .slice h3 X.length i3) (by simp); obtain ⟨⟨x0, x1, x2⟩, -⟩ := RX.out.at (r := w8.heap.size) (a := .slice m1 (others L).length n1) (b := .slice m2 D.length n2) (c := .slice m3 X.length n3) (by simp); obtain ⟨⟨z0, z1, z2⟩, -⟩ := RX.out.at (r := w9.heap.size) (a := .slice o1 L.length p1) (b := .slice o2 D.length p2) (c := .slice o3 X.length p3) (by simp)) | (have _t := TK2; refine (same_true ⟨RX.out.rd (v := .slice q1 (sortL L).length s1) (xs := sortL L) (by simp), RX.out.rd (v := .slice q2 (dimsVia L D (sortL L)).length s2) (xs := dimsVia L D (sortL L)) (by simp), RX.out.rd (v := .slice q3 (permDataL k q L D X (sortL L)).length s3) (xs := permDataL k q L D X (sortL L)) (by simp)⟩ ⟨RX.out.rd (v := .slice q4 (sortL L).length s4) (xs := sortL L) (by simp), RX.out.rd (v := .slice q5 (dimsVia L D (sortL L)).length s5) (xs := dimsVia L D (sortL L)) (by simp), RX.out.rd (v := .slice q6 (permDataL k q L D X (sortL L)).length s6) (xs := permDataL k q L D X (sortL L)) (by simp)⟩ (Nat.le_refl _) (Nat.le_refl _) ⟨by have := (perm_lens HT.out).1; omega, by have := (perm_lens HT.out).2.1; omega, by have := (perm_lens HT.out).2.2; omega⟩).mono ?_; clear _t TK2; rintro e w10 ⟨rfl, hb⟩; replace RX := Lib.hid (RX.out.step hb); clear hb; clear r0 r1 r2 t0 t1 t2 u0 u1 u2 v0 v1 v2 x0 x1 x2 z0 z1 z2; obtain ⟨⟨r0, r1, r2⟩, -⟩ := RX.out.at (r := w1.heap.size) (a := .int .i64 k) (b := .int .i64 p) (c := .int .i64 q) (by simp); obtain ⟨⟨t0, t1, t2⟩, -⟩ := RX.out.at (r := w2.heap.size) (a := .slice al L.length cl) (b := .slice ad D.length cd) (c := .slice ax X.length cx) (by simp); obtain ⟨⟨u0, u1, u2⟩, -⟩ := RX.out.at (r := b5) (a := .slice g1 A.length j1) (b := .slice g2 (dimsVia L D A).length j2) (c := .slice g3 (permDataL k q L D X A).length j3) (by simp); obtain ⟨⟨v0, v1, v2⟩, -⟩ := RX.out.at (r := w6.heap.size) (a := .slice h1 L.length i1) (b := .slice h2 D.length i2) (c := .slice h3 X.length i3) (by simp); obtain ⟨⟨x0, x1, x2⟩, -⟩ := RX.out.at (r := w8.heap.size) (a := .slice m1 (others L).length n1) (b := .slice m2 D.length n2) (c := .slice m3 X.length n3) (by simp); obtain ⟨⟨z0, z1, z2⟩, -⟩ := RX.out.at (r := w9.heap.size) (a := .slice o1 L.length p1) (b := .slice o2 D.length p2) (c := .slice o3 X.length p3) (by simp)) | (refine (same_true ⟨RX.out.rd (v := .slice o1 L.length p1) (xs := L) (by simp), RX.out.rd (v := .slice o2 D.length p2) (xs := D) (by simp), RX.out.rd (v := .slice o3 X.length p3) (xs := X) (by simp)⟩ ⟨RX.out.rd (v := .slice al L.length cl) (xs := L) (by simp), RX.out.rd (v := .slice ad D.length cd) (xs := D) (by simp), RX.out.rd (v := .slice ax X.length cx) (xs := X) (by simp)⟩ (Nat.le_refl _) (Nat.le_refl _) HLT.out).mono ?_; rintro e w10 ⟨rfl, hb⟩; replace RX := Lib.hid (RX.out.step hb); clear hb; clear r0 r1 r2 t0 t1 t2 u0 u1 u2 v0 v1 v2 x0 x1 x2 z0 z1 z2; obtain ⟨⟨r0, r1, r2⟩, -⟩ := RX.out.at (r := w1.heap.size) (a := .int .i64 k) (b := .int .i64 p) (c := .int .i64 q) (by simp); obtain ⟨⟨t0, t1, t2⟩, -⟩ := RX.out.at (r := w2.heap.size) (a := .slice al L.length cl) (b := .slice ad D.length cd) (c := .slice ax X.length cx) (by simp); obtain ⟨⟨u0, u1, u2⟩, -⟩ := RX.out.at (r := b5) (a := .slice g1 A.length j1) (b := .slice g2 (dimsVia L D A).length j2) (c := .slice g3 (permDataL k q L D X A).length j3) (by simp); obtain ⟨⟨v0, v1, v2⟩, -⟩ := RX.out.at (r := w6.heap.size) (a := .slice h1 L.length i1) (b := .slice h2 D.length i2) (c := .slice h3 X.length i3) (by simp); obtain ⟨⟨x0, x1, x2⟩, -⟩ := RX.out.at (r := w8.heap.size) (a := .slice m1 (others L).length n1) (b := .slice m2 D.length n2) (c := .slice m3 X.length n3) (by simp); obtain ⟨⟨z0, z1, z2⟩, -⟩ := RX.out.at (r := w9.heap.size) (a := .slice o1 L.length p1) (b := .slice o2 D.length p2) (c := .slice o3 X.length p3) (by simp)))
      go_wp2_with fail
      refine hK.out _ _ (by (try dsimp only); exact ⟨⟨r0, r1, r2⟩, ⟨t0, t1, t2⟩, ⟨u0, u1, u2⟩, ⟨v0, v1, v2⟩, ⟨x0, x1, x2⟩, ⟨z0, z1, z2⟩⟩) (fun hHeld => ?_)
      clear hK K
      try simp only [Act.put, List.getElem_toArray, List.getElem_cons_succ, List.getElem_cons_zero, List.setIfInBounds_toArray, List.set_cons_zero, List.set_cons_succ]
      refine wpAnyH_take (i := 8) (v := ?_) rfl (by kernel_rfl) (by kernel_rfl) (by kernel_rfl) (fun _ _ _ h => h) (Or.inl ⟨by rfl, ?_⟩) (by assumption) ?_
      rotate_left
      · intro w hSw; (try dsimp only at hSw); go_simp <;> with_reducible rfl
      try simp only [Act.put, List.getElem_toArray, List.getElem_cons_succ, List.getElem_cons_zero, List.setIfInBounds_toArray, List.set_cons_zero, List.set_cons_succ]
      refine wpAnyH_take (i := 9) (v := ?_) rfl (by kernel_rfl) (by kernel_rfl) (by kernel_rfl) (fun _ _ _ h => h) (Or.inl ⟨by rfl, ?_⟩) (by assumption) ?_
      rotate_left
      · intro w hSw; (try dsimp only at hSw); go_simp <;> with_reducible rfl
      try simp only [Act.put, List.getElem_toArray, List.getElem_cons_succ, List.getElem_cons_zero, List.setIfInBounds_toArray, List.set_cons_zero, List.set_cons_succ]
      refine wpAnyH_take (i := 10) (v := ?_) rfl (by kernel_rfl) (by kernel_rfl) (by kernel_rfl) (fun _ _ _ h => h) (Or.inl ⟨by rfl, ?_⟩) (by assumption) ?_
      rotate_left
      · intro w hSw; (try dsimp only at hSw); go_simp <;> with_reducible rfl
      try simp only [Act.put, List.getElem_toArray, List.getElem_cons_succ, List.getElem_cons_zero, List.setIfInBounds_toArray, List.set_cons_zero, List.set_cons_succ]
      refine wpAnyH_take (i := 11) (v := ?_) rfl (by kernel_rfl) (by kernel_rfl) (by kernel_rfl) (fun _ _ _ h => h) (Or.inl ⟨by rfl, ?_⟩) (by assumption) ?_
      rotate_left
      · intro w hSw; (try dsimp only at hSw); go_simp <;> with_reducible rfl
      try simp only [Act.put, List.getElem_toArray, List.getElem_cons_succ, List.getElem_cons_zero, List.setIfInBounds_toArray, List.set_cons_zero, List.set_cons_succ]
      refine wpAnyH_take (i := 12) (v := ?_) rfl (by kernel_rfl) (by kernel_rfl) (by kernel_rfl) (fun _ _ _ h => h) (Or.inl ⟨by rfl, ?_⟩) (by assumption) ?_
      rotate_left
      · intro w hSw; (try dsimp only at hSw); go_simp <;> with_reducible rfl
      try simp only [Act.put, List.getElem_toArray, List.getElem_cons_succ, List.getElem_cons_zero, List.setIfInBounds_toArray, List.set_cons_zero, List.set_cons_succ]
      refine wpAnyH_ready (rs := [13]) (by kernel_rfl) (by simp) ?_
      refine AllReadyH.cons rfl (fun K hK => ?_) AllReadyH.nil
      go_simp
      (go_at_call 40; have hq := same_tensor_impl (k := k) (p := p) (q := q) ⟨RX.out.rd (v := .slice al L.length cl) (xs := L) (by simp), RX.out.rd (v := .slice ad D.length cd) (xs := D) (by simp), RX.out.rd (v := .slice ax X.length cx) (xs := X) (by simp)⟩ ⟨RX.out.rd (v := .slice g1 A.length j1) (xs := A) (by simp), RX.out.rd (v := .slice g2 (dimsVia L D A).length j2) (xs := dimsVia L D A) (by simp), RX.out.rd (v := .slice g3 (permDataL k q L D X A).length j3) (xs := permDataL k q L D X A) (by simp)⟩ (Nat.le_refl _) (Nat.le_refl _) HLT.out HLTU.out HIL.out HIA.out; rw [HSM.out.2.2.2] at hq; refine hq.mono ?_; clear hq; rintro e w10 ⟨rfl, hb⟩; replace RX := Lib.hid (RX.out.step hb); clear hb; clear r0 r1 r2 t0 t1 t2 u0 u1 u2 v0 v1 v2 x0 x1 x2 z0 z1 z2; obtain ⟨⟨r0, r1, r2⟩, -⟩ := RX.out.at (r := w1.heap.size) (a := .int .i64 k) (b := .int .i64 p) (c := .int .i64 q) (by simp); obtain ⟨⟨t0, t1, t2⟩, -⟩ := RX.out.at (r := w2.heap.size) (a := .slice al L.length cl) (b := .slice ad D.length cd) (c := .slice ax X.length cx) (by simp); obtain ⟨⟨u0, u1, u2⟩, -⟩ := RX.out.at (r := b5) (a := .slice g1 A.length j1) (b := .slice g2 (dimsVia L D A).length j2) (c := .slice g3 (permDataL k q L D X A).length j3) (by simp); obtain ⟨⟨v0, v1, v2⟩, -⟩ := RX.out.at (r := w6.heap.size) (a := .slice h1 L.length i1) (b := .slice h2 D.length i2) (c := .slice h3 X.length i3) (by simp); obtain ⟨⟨x0, x1, x2⟩, -⟩ := RX.out.at (r := w8.heap.size) (a := .slice m1 (others L).length n1) (b := .slice m2 D.length n2) (c := .slice m3 X.length n3) (by simp); obtain ⟨⟨z0, z1, z2⟩, -⟩ := RX.out.at (r := w9.heap.size) (a := .slice o1 L.length p1) (b := .slice o2 D.length p2) (c := .slice o3 X.length p3) (by simp))
      go_wp2_with fail
      refine hK.out _ _ (by (try dsimp only); exact ⟨⟨r0, r1, r2⟩, ⟨t0, t1, t2⟩, ⟨u0, u1, u2⟩, ⟨v0, v1, v2⟩, ⟨x0, x1, x2⟩, ⟨z0, z1, z2⟩⟩) (fun hHeld => ?_)
      clear hK K
      try simp only [Act.put, List.getElem_toArray, List.getElem_cons_succ, List.getElem_cons_zero, List.setIfInBounds_toArray, List.set_cons_zero, List.set_cons_succ]
      refine wpAnyH_take (i := 14) (v := ?_) rfl (by kernel_rfl) (by kernel_rfl) (by kernel_rfl) (fun _ _ _ h => h) (Or.inl ⟨by rfl, ?_⟩) (by assumption) ?_
      rotate_left
      · intro w hSw; (try dsimp only at hSw); go_simp <;> with_reducible rfl
      try simp only [Act.put, List.getElem_toArray, List.getElem_cons_succ, List.getElem_cons_zero, List.setIfInBounds_toArray, List.set_cons_zero, List.set_cons_succ]
      refine wpAnyH_take (i := 15) (v := ?_) rfl (by kernel_rfl) (by kernel_rfl) (by kernel_rfl) (fun _ _ _ h => h) (Or.inl ⟨by rfl, ?_⟩) (by assumption) ?_
      rotate_left
      · intro w hSw; (try dsimp only at hSw); go_simp <;> with_reducible rfl
      try simp only [Act.put, List.getElem_toArray, List.getElem_cons_succ, List.getElem_cons_zero, List.setIfInBounds_toArray, List.set_cons_zero, List.set_cons_succ]
      refine wpAnyH_take (i := 16) (v := ?_) rfl (by kernel_rfl) (by kernel_rfl) (by kernel_rfl) (fun _ _ _ h => h) (Or.inl ⟨by rfl, ?_⟩) (by assumption) ?_
      rotate_left
      · intro w hSw; (try dsimp only at hSw); go_simp <;> with_reducible rfl
      try simp only [Act.put, List.getElem_toArray, List.getElem_cons_succ, List.getElem_cons_zero, List.setIfInBounds_toArray, List.set_cons_zero, List.set_cons_succ]
      refine wpAnyH_take (i := 17) (v := ?_) rfl (by kernel_rfl) (by kernel_rfl) (by kernel_rfl) (fun _ _ _ h => h) (Or.inl ⟨by rfl, ?_⟩) (by assumption) ?_
      rotate_left
      · intro w hSw; (try dsimp only at hSw); go_simp <;> with_reducible rfl
      try simp only [Act.put, List.getElem_toArray, List.getElem_cons_succ, List.getElem_cons_zero, List.setIfInBounds_toArray, List.set_cons_zero, List.set_cons_succ]
      refine wpAnyH_take (i := 19) (v := ?_) rfl (by kernel_rfl) (by kernel_rfl) (by kernel_rfl) (fun _ _ _ h => h) (Or.inl ⟨by rfl, ?_⟩) (by assumption) ?_
      rotate_left
      · intro w hSw; (try dsimp only at hSw); go_simp <;> with_reducible rfl
      try simp only [Act.put, List.getElem_toArray, List.getElem_cons_succ, List.getElem_cons_zero, List.setIfInBounds_toArray, List.set_cons_zero, List.set_cons_succ]
      refine wpAnyH_take (i := 20) (v := ?_) rfl (by kernel_rfl) (by kernel_rfl) (by kernel_rfl) (fun _ _ _ h => h) (Or.inl ⟨by rfl, ?_⟩) (by assumption) ?_
      rotate_left
      · intro w hSw; (try dsimp only at hSw); go_simp <;> with_reducible rfl
      try simp only [Act.put, List.getElem_toArray, List.getElem_cons_succ, List.getElem_cons_zero, List.setIfInBounds_toArray, List.set_cons_zero, List.set_cons_succ]
      refine wpAnyH_ready (rs := [18]) (by kernel_rfl) (by simp) ?_
      refine AllReadyH.cons rfl (fun K hK => ?_) AllReadyH.nil
      go_simp
      (go_at_call 41; first | (have _t := TK3; clear _t TK3; have hq := sort_tensor_impl (k := k) (p := p) (q := q) ⟨RX.out.rd (v := .slice g1 A.length j1) (xs := A) (by simp), RX.out.rd (v := .slice g2 (dimsVia L D A).length j2) (xs := dimsVia L D A) (by simp), RX.out.rd (v := .slice g3 (permDataL k q L D X A).length j3) (xs := permDataL k q L D X A) (by simp)⟩ (Nat.le_refl _) HLTU.out HIA.out; rw [HPM.out.2.1] at hq; simp only [if_true] at hq; rw [HSM.out.2.1, HSM.out.2.2.1, HSM.out.1] at hq; refine hq.mono ?_; clear hq; rintro e w11 ⟨y1, y2, y3, rfl, ho, hb⟩; replace RX := Lib.hid (RX.out.new3 hb ho); obtain ⟨q1, s1, rfl, -⟩ := ints_form ho.rows.1.rd; obtain ⟨q2, s2, rfl, -⟩ := ints_form ho.rows.2.1.rd; obtain ⟨q3, s3, rfl, -⟩ := ints_form ho.rows.2.2.rd; clear ho hb; clear r0 r1 r2 t0 t1 t2 u0 u1 u2 v0 v1 v2 x0 x1 x2 z0 z1 z2; obtain ⟨⟨r0, r1, r2⟩, -⟩ := RX.out.at (r := w1.heap.size) (a := .int .i64 k) (b := .int .i64 p) (c := .int .i64 q) (by simp); obtain ⟨⟨t0, t1, t2⟩, -⟩ := RX.out.at (r := w2.heap.size) (a := .slice al L.length cl) (b := .slice ad D.length cd) (c := .slice ax X.length cx) (by simp); obtain ⟨⟨u0, u1, u2⟩, -⟩ := RX.out.at (r := b5) (a := .slice g1 A.length j1) (b := .slice g2 (dimsVia L D A).length j2) (c := .slice g3 (permDataL k q L D X A).length j3) (by simp); obtain ⟨⟨v0, v1, v2⟩, -⟩ := RX.out.at (r := w6.heap.size) (a := .slice h1 L.length i1) (b := .slice h2 D.length i2) (c := .slice h3 X.length i3) (by simp); obtain ⟨⟨x0, x1, x2⟩, -⟩ := RX.out.at (r := w8.heap.size) (a := .slice m1 (others L).length n1) (b := .slice m2 D.length n2) (c := .slice m3 X.length n3) (by simp); obtain ⟨⟨z0, z1, z2⟩, -⟩ := RX.out.at (r := w9.heap.size) (a := .slice o1 L.length p1) (b := .slice o2 D.length p2) (c := .slice o3 X.length p3) (by simp)) | (have hq := sort_tensor_impl (k := k) (p := p) (q := q) ⟨RX.out.rd (v := .slice al L.length cl) (xs := L) (by simp), RX.out.rd (v := .slice ad D.length cd) (xs := D) (by simp), RX.out.rd (v := .slice ax X.length cx) (xs := X) (by simp)⟩ (Nat.le_refl _) HLT.out HIL.out; rw [HT.out] at hq; simp only [if_true] at hq; refine hq.mono ?_; clear hq; rintro e w12 ⟨y1, y2, y3, rfl, ho, hb⟩; replace RX := Lib.hid (RX.out.new3 hb ho); obtain ⟨q4, s4, rfl, -⟩ := ints_form ho.rows.1.rd; obtain ⟨q5, s5, rfl, -⟩ := ints_form ho.rows.2.1.rd; obtain ⟨q6, s6, rfl, -⟩ := ints_form ho.rows.2.2.rd; clear ho hb; clear r0 r1 r2 t0 t1 t2 u0 u1 u2 v0 v1 v2 x0 x1 x2 z0 z1 z2; obtain ⟨⟨r0, r1, r2⟩, -⟩ := RX.out.at (r := w1.heap.size) (a := .int .i64 k) (b := .int .i64 p) (c := .int .i64 q) (by simp); obtain ⟨⟨t0, t1, t2⟩, -⟩ := RX.out.at (r := w2.heap.size) (a := .slice al L.length cl) (b := .slice ad D.length cd) (c := .slice ax X.length cx) (by simp); obtain ⟨⟨u0, u1, u2⟩, -⟩ := RX.out.at (r := b5) (a := .slice g1 A.length j1) (b := .slice g2 (dimsVia L D A).length j2) (c := .slice g3 (permDataL k q L D X A).length j3) (by simp); obtain ⟨⟨v0, v1, v2⟩, -⟩ := RX.out.at (r := w6.heap.size) (a := .slice h1 L.length i1) (b := .slice h2 D.length i2) (c := .slice h3 X.length i3) (by simp); obtain ⟨⟨x0, x1, x2⟩, -⟩ := RX.out.at (r := w8.heap.size) (a := .slice m1 (others L).length n1) (b := .slice m2 D.length n2) (c := .slice m3 X.length n3) (by simp); obtain ⟨⟨z0, z1, z2⟩, -⟩ := RX.out.at (r := w9.heap.size) (a := .slice o1 L.length p1) (b := .slice o2 D.length p2) (c := .slice o3 X.length p3) (by simp)))
      go_wp2_with fail
      refine hK.out _ _ (by (try dsimp only); exact ⟨⟨r0, r1, r2⟩, ⟨t0, t1, t2⟩, ⟨u0, u1, u2⟩, ⟨v0, v1, v2⟩, ⟨x0, x1, x2⟩, ⟨z0, z1, z2⟩⟩) (fun hHeld => ?_)
      clear hK K
      try simp only [Act.put, List.getElem_toArray, List.getElem_cons_succ, List.getElem_cons_zero, List.setIfInBounds_toArray, List.set_cons_zero, List.set_cons_succ]
      refine wpAnyH_ready (rs := [21]) (by kernel_rfl) (by simp) ?_
      refine AllReadyH.cons rfl (fun K hK => ?_) AllReadyH.nil
      go_simp
      (go_at_call 41; first | (have _t := TK3; clear _t TK3; have hq := sort_tensor_impl (k := k) (p := p) (q := q) ⟨RX.out.rd (v := .slice g1 A.length j1) (xs := A) (by simp), RX.out.rd (v := .slice g2 (dimsVia L D A).length j2) (xs := dimsVia L D A) (by simp), RX.out.rd (v := .slice g3 (permDataL k q L D X A).length j3) (xs := permDataL k q L D X A) (by simp)⟩ (Nat.le_refl _) HLTU.out HIA.out; rw [HPM.out.2.1] at hq; simp only [if_true] at hq; rw [HSM.out.2.1, HSM.out.2.2.1, HSM.out.1] at hq; refine hq.mono ?_; clear hq; rintro e w11 ⟨y1, y2, y3, rfl, ho, hb⟩; replace RX := Lib.hid (RX.out.new3 hb ho); obtain ⟨q1, s1, rfl, -⟩ := ints_form ho.rows.1.rd; obtain ⟨q2, s2, rfl, -⟩ := ints_form ho.rows.2.1.rd; obtain ⟨q3, s3, rfl, -⟩ := ints_form ho.rows.2.2.rd; clear ho hb; clear r0 r1 r2 t0 t1 t2 u0 u1 u2 v0 v1 v2 x0 x1 x2 z0 z1 z2; obtain ⟨⟨r0, r1, r2⟩, -⟩ := RX.out.at (r := w1.heap.size) (a := .int .i64 k) (b := .int .i64 p) (c := .int .i64 q) (by simp); obtain ⟨⟨t0, t1, t2⟩, -⟩ := RX.out.at (r := w2.heap.size) (a := .slice al L.length cl) (b := .slice ad D.length cd) (c := .slice ax X.length cx) (by simp); obtain ⟨⟨u0, u1, u2⟩, -⟩ := RX.out.at (r := b5) (a := .slice g1 A.length j1) (b := .slice g2 (dimsVia L D A).length j2) (c := .slice g3 (permDataL k q L D X A).length j3) (by simp); obtain ⟨⟨v0, v1, v2⟩, -⟩ := RX.out.at (r := w6.heap.size) (a := .slice h1 L.length i1) (b := .slice h2 D.length i2) (c := .slice h3 X.length i3) (by simp); obtain ⟨⟨x0, x1, x2⟩, -⟩ := RX.out.at (r := w8.heap.size) (a := .slice m1 (others L).length n1) (b := .slice m2 D.length n2) (c := .slice m3 X.length n3) (by simp); obtain ⟨⟨z0, z1, z2⟩, -⟩ := RX.out.at (r := w9.heap.size) (a := .slice o1 L.length p1) (b := .slice o2 D.length p2) (c := .slice o3 X.length p3) (by simp)) | (have hq := sort_tensor_impl (k := k) (p := p) (q := q) ⟨RX.out.rd (v := .slice al L.length cl) (xs := L) (by simp), RX.out.rd (v := .slice ad D.length cd) (xs := D) (by simp), RX.out.rd (v := .slice ax X.length cx) (xs := X) (by simp)⟩ (Nat.le_refl _) HLT.out HIL.out; rw [HT.out] at hq; simp only [if_true] at hq; refine hq.mono ?_; clear hq; rintro e w12 ⟨y1, y2, y3, rfl, ho, hb⟩; replace RX := Lib.hid (RX.out.new3 hb ho); obtain ⟨q4, s4, rfl, -⟩ := ints_form ho.rows.1.rd; obtain ⟨q5, s5, rfl, -⟩ := ints_form ho.rows.2.1.rd; obtain ⟨q6, s6, rfl, -⟩ := ints_form ho.rows.2.2.rd; clear ho hb; clear r0 r1 r2 t0 t1 t2 u0 u1 u2 v0 v1 v2 x0 x1 x2 z0 z1 z2; obtain ⟨⟨r0, r1, r2⟩, -⟩ := RX.out.at (r := w1.heap.size) (a := .int .i64 k) (b := .int .i64 p) (c := .int .i64 q) (by simp); obtain ⟨⟨t0, t1, t2⟩, -⟩ := RX.out.at (r := w2.heap.size) (a := .slice al L.length cl) (b := .slice ad D.length cd) (c := .slice ax X.length cx) (by simp); obtain ⟨⟨u0, u1, u2⟩, -⟩ := RX.out.at (r := b5) (a := .slice g1 A.length j1) (b := .slice g2 (dimsVia L D A).length j2) (c := .slice g3 (permDataL k q L D X A).length j3) (by simp); obtain ⟨⟨v0, v1, v2⟩, -⟩ := RX.out.at (r := w6.heap.size) (a := .slice h1 L.length i1) (b := .slice h2 D.length i2) (c := .slice h3 X.length i3) (by simp); obtain ⟨⟨x0, x1, x2⟩, -⟩ := RX.out.at (r := w8.heap.size) (a := .slice m1 (others L).length n1) (b := .slice m2 D.length n2) (c := .slice m3 X.length n3) (by simp); obtain ⟨⟨z0, z1, z2⟩, -⟩ := RX.out.at (r := w9.heap.size) (a := .slice o1 L.length p1) (b := .slice o2 D.length p2) (c := .slice o3 X.length p3) (by simp)))
      go_wp2_with fail
      refine hK.out _ _ (by (try dsimp only); exact ⟨⟨r0, r1, r2⟩, ⟨t0, t1, t2⟩, ⟨u0, u1, u2⟩, ⟨v0, v1, v2⟩, ⟨x0, x1, x2⟩, ⟨z0, z1, z2⟩⟩) (fun hHeld => ?_)
      clear hK K
      try simp only [Act.put, List.getElem_toArray, List.getElem_cons_succ, List.getElem_cons_zero, List.setIfInBounds_toArray, List.set_cons_zero, List.set_cons_succ]
      refine wpAnyH_ready (rs := [22]) (by kernel_rfl) (by simp) ?_
      refine AllReadyH.cons rfl (fun K hK => ?_) AllReadyH.nil
      go_simp
      (go_at_call 39; first | (have _t := TK1; refine (same_true ⟨RX.out.rd (v := .slice h1 L.length i1) (xs := L) (by simp), RX.out.rd (v := .slice h2 D.length i2) (xs := D) (by simp), RX.out.rd (v := .slice h3 X.length i3) (xs := X) (by simp)⟩ ⟨RX.out.rd (v := .slice al L.length cl) (xs := L) (by simp), RX.out.rd (v := .slice ad D.length cd) (xs := D) (by simp), RX.out.rd (v := .slice ax X.length cx) (xs := X) (by simp)⟩ (Nat.le_refl _) (Nat.le_refl _) HLT.out).mono ?_; clear _t TK1; rintro e w10 ⟨rfl, hb⟩; replace RX := Lib.hid (RX.out.step hb); clear hb; clear r0 r1 r2 t0 t1 t2 u0 u1 u2 v0 v1 v2 x0 x1 x2 z0 z1 z2; obtain ⟨⟨r0, r1, r2⟩, -⟩ := RX.out.at (r := w1.heap.size) (a := .int .i64 k) (b := .int .i64 p) (c := .int .i64 q) (by simp); obtain ⟨⟨t0, t1, t2⟩, -⟩ := RX.out.at (r := w2.heap.size) (a := .slice al L.length cl) (b := .slice ad D.length cd) (c := .slice ax X.length cx) (by simp); obtain ⟨⟨u0, u1, u2⟩, -⟩ := RX.out.at (r := b5) (a := .slice g1 A.length j1) (b := .slice g2 (dimsVia L D A).length j2) (c := .slice g3 (permDataL k q L D X A).length j3) (by simp); obtain ⟨⟨v0, v1, v2⟩, -⟩ := RX.out.at (r := w6.heap.size) (a := .slice h1 L.length i1) (b := .slice h2 D.length i2) (c := .slice h3 X.length i3) (by simp); obtain ⟨⟨x0, x1, x2⟩, -⟩ := RX.out.at (r := w8.heap.size) (a := .slice m1 (others L).length n1) (b := .slice m2 D.length n2) (c := .slice m3 X.length n3) (by simp); obtain ⟨⟨z0, z1, z2⟩, -⟩ := RX.out.at (r := w9.heap.size) (a := .slice o1 L.length p1) (b := .slice o2 D.length p2) (c := .slice o3 X.length p3) (by simp)) | (have _t := TK2; refine (same_true ⟨RX.out.rd (v := .slice q1 (sortL L).length s1) (xs := sortL L) (by simp), RX.out.rd (v := .slice q2 (dimsVia L D (sortL L)).length s2) (xs := dimsVia L D (sortL L)) (by simp), RX.out.rd (v := .slice q3 (permDataL k q L D X (sortL L)).length s3) (xs := permDataL k q L D X (sortL L)) (by simp)⟩ ⟨RX.out.rd (v := .slice q4 (sortL L).length s4) (xs := sortL L) (by simp), RX.out.rd (v := .slice q5 (dimsVia L D (sortL L)).length s5) (xs := dimsVia L D (sortL L)) (by simp), RX.out.rd (v := .slice q6 (permDataL k q L D X (sortL L)).length s6) (xs := permDataL k q L D X (sortL L)) (by simp)⟩ (Nat.le_refl _) (Nat.le_refl _) ⟨by have := (perm_lens HT.out).1; omega, by have := (perm_lens HT.out).2.1; omega, by have := (perm_lens HT.out).2.2; omega⟩).mono ?_; clear _t TK2; rintro e w10 ⟨rfl, hb⟩; replace RX := Lib.hid (RX.out.step hb); clear hb; clear r0 r1 r2 t0 t1 t2 u0 u1 u2 v0 v1 v2 x0 x1 x2 z0 z1 z2; obtain ⟨⟨r0, r1, r2⟩, -⟩ := RX.out.at (r := w1.heap.size) (a := .int .i64 k) (b := .int .i64 p) (c := .int .i64 q) (by simp); obtain ⟨⟨t0, t1, t2⟩, -⟩ := RX.out.at (r := w2.heap.size) (a := .slice al L.length cl) (b := .slice ad D.length cd) (c := .slice ax X.length cx) (by simp); obtain ⟨⟨u0, u1, u2⟩, -⟩ := RX.out.at (r := b5) (a := .slice g1 A.length j1) (b := .slice g2 (dimsVia L D A).length j2) (c := .slice g3 (permDataL k q L D X A).length j3) (by simp); obtain ⟨⟨v0, v1, v2⟩, -⟩ := RX.out.at (r := w6.heap.size) (a := .slice h1 L.length i1) (b := .slice h2 D.length i2) (c := .slice h3 X.length i3) (by simp); obtain ⟨⟨x0, x1, x2⟩, -⟩ := RX.out.at (r := w8.heap.size) (a := .slice m1 (others L).length n1) (b := .slice m2 D.length n2) (c := .slice m3 X.length n3) (by simp); obtain ⟨⟨z0, z1, z2⟩, -⟩ := RX.out.at (r := w9.heap.size) (a := .slice o1 L.length p1) (b := .slice o2 D.length p2) (c := .slice o3 X.length p3) (by simp)) | (refine (same_true ⟨RX.out.rd (v := .slice o1 L.length p1) (xs := L) (by simp), RX.out.rd (v := .slice o2 D.length p2) (xs := D) (by simp), RX.out.rd (v := .slice o3 X.length p3) (xs := X) (by simp)⟩ ⟨RX.out.rd (v := .slice al L.length cl) (xs := L) (by simp), RX.out.rd (v := .slice ad D.length cd) (xs := D) (by simp), RX.out.rd (v := .slice ax X.length cx) (xs := X) (by simp)⟩ (Nat.le_refl _) (Nat.le_refl _) HLT.out).mono ?_; rintro e w10 ⟨rfl, hb⟩; replace RX := Lib.hid (RX.out.step hb); clear hb; clear r0 r1 r2 t0 t1 t2 u0 u1 u2 v0 v1 v2 x0 x1 x2 z0 z1 z2; obtain ⟨⟨r0, r1, r2⟩, -⟩ := RX.out.at (r := w1.heap.size) (a := .int .i64 k) (b := .int .i64 p) (c := .int .i64 q) (by simp); obtain ⟨⟨t0, t1, t2⟩, -⟩ := RX.out.at (r := w2.heap.size) (a := .slice al L.length cl) (b := .slice ad D.length cd) (c := .slice ax X.length cx) (by simp); obtain ⟨⟨u0, u1, u2⟩, -⟩ := RX.out.at (r := b5) (a := .slice g1 A.length j1) (b := .slice g2 (dimsVia L D A).length j2) (c := .slice g3 (permDataL k q L D X A).length j3) (by simp); obtain ⟨⟨v0, v1, v2⟩, -⟩ := RX.out.at (r := w6.heap.size) (a := .slice h1 L.length i1) (b := .slice h2 D.length i2) (c := .slice h3 X.length i3) (by simp); obtain ⟨⟨x0, x1, x2⟩, -⟩ := RX.out.at (r := w8.heap.size) (a := .slice m1 (others L).length n1) (b := .slice m2 D.length n2) (c := .slice m3 X.length n3) (by simp); obtain ⟨⟨z0, z1, z2⟩, -⟩ := RX.out.at (r := w9.heap.size) (a := .slice o1 L.length p1) (b := .slice o2 D.length p2) (c := .slice o3 X.length p3) (by simp)))
      go_wp2_with fail
      refine hK.out _ _ (by (try dsimp only); exact ⟨⟨r0, r1, r2⟩, ⟨t0, t1, t2⟩, ⟨u0, u1, u2⟩, ⟨v0, v1, v2⟩, ⟨x0, x1, x2⟩, ⟨z0, z1, z2⟩⟩) (fun hHeld => ?_)
      clear hK K
      try simp only [Act.put, List.getElem_toArray, List.getElem_cons_succ, List.getElem_cons_zero, List.setIfInBounds_toArray, List.set_cons_zero, List.set_cons_succ]
      refine wpAnyH_take (i := 23) (v := ?_) rfl (by kernel_rfl) (by kernel_rfl) (by kernel_rfl) (fun _ _ _ h => h) (Or.inl ⟨by rfl, ?_⟩) (by assumption) ?_
      rotate_left
      · intro w hSw; (try dsimp only at hSw); go_simp <;> with_reducible rfl
      try simp only [Act.put, List.getElem_toArray, List.getElem_cons_succ, List.getElem_cons_zero, List.setIfInBounds_toArray, List.set_cons_zero, List.set_cons_succ]
      refine wpAnyH_take (i := 24) (v := ?_) rfl (by kernel_rfl) (by kernel_rfl) (by kernel_rfl) (fun _ _ _ h => h) (Or.inl ⟨by rfl, ?_⟩) (by assumption) ?_
      rotate_left
      · intro w hSw; (try dsimp only at hSw); go_simp <;> with_reducible rfl
      try simp only [Act.put, List.getElem_toArray, List.getElem_cons_succ, List.getElem_cons_zero, List.setIfInBounds_toArray, List.set_cons_zero, List.set_cons_succ]
      refine wpAnyH_take (i := 25) (v := ?_) rfl (by kernel_rfl) (by kernel_rfl) (by kernel_rfl) (fun _ _ _ h => h) (Or.inl ⟨by rfl, ?_⟩) (by assumption) ?_
      rotate_left
      · intro w hSw; (try dsimp only at hSw); go_simp <;> with_reducible rfl
      try simp only [Act.put, List.getElem_toArray, List.getElem_cons_succ, List.getElem_cons_zero, List.setIfInBounds_toArray, List.set_cons_zero, List.set_cons_succ]
      refine wpAnyH_take (i := 26) (v := ?_) rfl (by kernel_rfl) (by kernel_rfl) (by kernel_rfl) (fun _ _ _ h => h) (Or.inl ⟨by rfl, ?_⟩) (by assumption) ?_
      rotate_left
      · intro w hSw; (try dsimp only at hSw); go_simp <;> with_reducible rfl
      try simp only [Act.put, List.getElem_toArray, List.getElem_cons_succ, List.getElem_cons_zero, List.setIfInBounds_toArray, List.set_cons_zero, List.set_cons_succ]
      refine wpAnyH_take (i := 27) (v := ?_) rfl (by kernel_rfl) (by kernel_rfl) (by kernel_rfl) (fun _ _ _ h => h) (Or.inl ⟨by rfl, ?_⟩) (by assumption) ?_
      rotate_left
      · intro w hSw; (try dsimp only at hSw); go_simp <;> with_reducible rfl
      try simp only [Act.put, List.getElem_toArray, List.getElem_cons_succ, List.getElem_cons_zero, List.setIfInBounds_toArray, List.set_cons_zero, List.set_cons_succ]
      refine wpAnyH_take (i := 28) (v := ?_) rfl (by kernel_rfl) (by kernel_rfl) (by kernel_rfl) (fun _ _ _ h => h) (Or.inl ⟨by rfl, ?_⟩) (by assumption) ?_
      rotate_left
      · intro w hSw; (try dsimp only at hSw); go_simp <;> with_reducible rfl
      try simp only [Act.put, List.getElem_toArray, List.getElem_cons_succ, List.getElem_cons_zero, List.setIfInBounds_toArray, List.set_cons_zero, List.set_cons_succ]
      refine wpAnyH_take (i := 29) (v := ?_) rfl (by kernel_rfl) (by kernel_rfl) (by kernel_rfl) (fun _ _ _ h => h) (Or.inl ⟨by rfl, ?_⟩) (by assumption) ?_
      rotate_left
      · intro w hSw; (try dsimp only at hSw); go_simp <;> with_reducible rfl
      try simp only [Act.put, List.getElem_toArray, List.getElem_cons_succ, List.getElem_cons_zero, List.setIfInBounds_toArray, List.set_cons_zero, List.set_cons_succ]
      refine wpAnyH_take (i := 30) (v := ?_) rfl (by kernel_rfl) (by kernel_rfl) (by kernel_rfl) (fun _ _ _ h => h) (Or.inl ⟨by rfl, ?_⟩) (by assumption) ?_
      rotate_left
      · intro w hSw; (try dsimp only at hSw); go_simp <;> with_reducible rfl
      try simp only [Act.put, List.getElem_toArray, List.getElem_cons_succ, List.getElem_cons_zero, List.setIfInBounds_toArray, List.set_cons_zero, List.set_cons_succ]
      refine wpAnyH_take (i := 31) (v := ?_) rfl (by kernel_rfl) (by kernel_rfl) (by kernel_rfl) (fun _ _ _ h => h) (Or.inl ⟨by rfl, ?_⟩) (by assumption) ?_
      rotate_left
      · intro w hSw; (try dsimp only at hSw); go_simp <;> with_reducible rfl
      try simp only [Act.put, List.getElem_toArray, List.getElem_cons_succ, List.getElem_cons_zero, List.setIfInBounds_toArray, List.set_cons_zero, List.set_cons_succ]
      refine wpAnyH_take (i := 32) (v := ?_) rfl (by kernel_rfl) (by kernel_rfl) (by kernel_rfl) (fun _ _ _ h => h) (Or.inl ⟨by rfl, ?_⟩) (by assumption) ?_
      rotate_left
      · intro w hSw; (try dsimp only at hSw); go_simp <;> with_reducible rfl
      try simp only [Act.put, List.getElem_toArray, List.getElem_cons_succ, List.getElem_cons_zero, List.setIfInBounds_toArray, List.set_cons_zero, List.set_cons_succ]
      refine wpAnyH_ready (rs := [33]) (by kernel_rfl) (by simp) ?_
      refine AllReadyH.cons rfl (fun K hK => ?_) AllReadyH.nil
      go_simp
      (go_at_call 39; first | (have _t := TK1; refine (same_true ⟨RX.out.rd (v := .slice h1 L.length i1) (xs := L) (by simp), RX.out.rd (v := .slice h2 D.length i2) (xs := D) (by simp), RX.out.rd (v := .slice h3 X.length i3) (xs := X) (by simp)⟩ ⟨RX.out.rd (v := .slice al L.length cl) (xs := L) (by simp), RX.out.rd (v := .slice ad D.length cd) (xs := D) (by simp), RX.out.rd (v := .slice ax X.length cx) (xs := X) (by simp)⟩ (Nat.le_refl _) (Nat.le_refl _) HLT.out).mono ?_; clear _t TK1; rintro e w10 ⟨rfl, hb⟩; replace RX := Lib.hid (RX.out.step hb); clear hb; clear r0 r1 r2 t0 t1 t2 u0 u1 u2 v0 v1 v2 x0 x1 x2 z0 z1 z2; obtain ⟨⟨r0, r1, r2⟩, -⟩ := RX.out.at (r := w1.heap.size) (a := .int .i64 k) (b := .int .i64 p) (c := .int .i64 q) (by simp); obtain ⟨⟨t0, t1, t2⟩, -⟩ := RX.out.at (r := w2.heap.size) (a := .slice al L.length cl) (b := .slice ad D.length cd) (c := .slice ax X.length cx) (by simp); obtain ⟨⟨u0, u1, u2⟩, -⟩ := RX.out.at (r := b5) (a := .slice g1 A.length j1) (b := .slice g2 (dimsVia L D A).length j2) (c := .slice g3 (permDataL k q L D X A).length j3) (by simp); obtain ⟨⟨v0, v1, v2⟩, -⟩ := RX.out.at (r := w6.heap.size) (a := .slice h1 L.length i1) (b := .slice h2 D.length i2) (c := .slice h3 X.length i3) (by simp); obtain ⟨⟨x0, x1, x2⟩, -⟩ := RX.out.at (r := w8.heap.size) (a := .slice m1 (others L).length n1) (b := .slice m2 D.length n2) (c := .slice m3 X.length n3) (by simp); obtain ⟨⟨z0, z1, z2⟩, -⟩ := RX.out.at (r := w9.heap.size) (a := .slice o1 L.length p1) (b := .slice o2 D.length p2) (c := .slice o3 X.length p3) (by simp)) | (have _t := TK2; refine (same_true ⟨RX.out.rd (v := .slice q1 (sortL L).length s1) (xs := sortL L) (by simp), RX.out.rd (v := .slice q2 (dimsVia L D (sortL L)).length s2) (xs := dimsVia L D (sortL L)) (by simp), RX.out.rd (v := .slice q3 (permDataL k q L D X (sortL L)).length s3) (xs := permDataL k q L D X (sortL L)) (by simp)⟩ ⟨RX.out.rd (v := .slice q4 (sortL L).length s4) (xs := sortL L) (by simp), RX.out.rd (v := .slice q5 (dimsVia L D (sortL L)).length s5) (xs := dimsVia L D (sortL L)) (by simp), RX.out.rd (v := .slice q6 (permDataL k q L D X (sortL L)).length s6) (xs := permDataL k q L D X (sortL L)) (by simp)⟩ (Nat.le_refl _) (Nat.le_refl _) ⟨by have := (perm_lens HT.out).1; omega, by have := (perm_lens HT.out).2.1; omega, by have := (perm_lens HT.out).2.2; omega⟩).mono ?_; clear _t TK2; rintro e w10 ⟨rfl, hb⟩; replace RX := Lib.hid (RX.out.step hb); clear hb; clear r0 r1 r2 t0 t1 t2 u0 u1 u2 v0 v1 v2 x0 x1 x2 z0 z1 z2; obtain ⟨⟨r0, r1, r2⟩, -⟩ := RX.out.at (r := w1.heap.size) (a := .int .i64 k) (b := .int .i64 p) (c := .int .i64 q) (by simp); obtain ⟨⟨t0, t1, t2⟩, -⟩ := RX.out.at (r := w2.heap.size) (a := .slice al L.length cl) (b := .slice ad D.length cd) (c := .slice ax X.length cx) (by simp); obtain ⟨⟨u0, u1, u2⟩, -⟩ := RX.out.at (r := b5) (a := .slice g1 A.length j1) (b := .slice g2 (dimsVia L D A).length j2) (c := .slice g3 (permDataL k q L D X A).length j3) (by simp); obtain ⟨⟨v0, v1, v2⟩, -⟩ := RX.out.at (r := w6.heap.size) (a := .slice h1 L.length i1) (b := .slice h2 D.length i2) (c := .slice h3 X.length i3) (by simp); obtain ⟨⟨x0, x1, x2⟩, -⟩ := RX.out.at (r := w8.heap.size) (a := .slice m1 (others L).length n1) (b := .slice m2 D.length n2) (c := .slice m3 X.length n3) (by simp); obtain ⟨⟨z0, z1, z2⟩, -⟩ := RX.out.at (r := w9.heap.size) (a := .slice o1 L.length p1) (b := .slice o2 D.length p2) (c := .slice o3 X.length p3) (by simp)) | (refine (same_true ⟨RX.out.rd (v := .slice o1 L.length p1) (xs := L) (by simp), RX.out.rd (v := .slice o2 D.length p2) (xs := D) (by simp), RX.out.rd (v := .slice o3 X.length p3) (xs := X) (by simp)⟩ ⟨RX.out.rd (v := .slice al L.length cl) (xs := L) (by simp), RX.out.rd (v := .slice ad D.length cd) (xs := D) (by simp), RX.out.rd (v := .slice ax X.length cx) (xs := X) (by simp)⟩ (Nat.le_refl _) (Nat.le_refl _) HLT.out).mono ?_; rintro e w10 ⟨rfl, hb⟩; replace RX := Lib.hid (RX.out.step hb); clear hb; clear r0 r1 r2 t0 t1 t2 u0 u1 u2 v0 v1 v2 x0 x1 x2 z0 z1 z2; obtain ⟨⟨r0, r1, r2⟩, -⟩ := RX.out.at (r := w1.heap.size) (a := .int .i64 k) (b := .int .i64 p) (c := .int .i64 q) (by simp); obtain ⟨⟨t0, t1, t2⟩, -⟩ := RX.out.at (r := w2.heap.size) (a := .slice al L.length cl) (b := .slice ad D.length cd) (c := .slice ax X.length cx) (by simp); obtain ⟨⟨u0, u1, u2⟩, -⟩ := RX.out.at (r := b5) (a := .slice g1 A.length j1) (b := .slice g2 (dimsVia L D A).length j2) (c := .slice g3 (permDataL k q L D X A).length j3) (by simp); obtain ⟨⟨v0, v1, v2⟩, -⟩ := RX.out.at (r := w6.heap.size) (a := .slice h1 L.length i1) (b := .slice h2 D.length i2) (c := .slice h3 X.length i3) (by simp); obtain ⟨⟨x0, x1, x2⟩, -⟩ := RX.out.at (r := w8.heap.size) (a := .slice m1 (others L).length n1) (b := .slice m2 D.length n2) (c := .slice m3 X.length n3) (by simp); obtain ⟨⟨z0, z1, z2⟩, -⟩ := RX.out.at (r := w9.heap.size) (a := .slice o1 L.length p1) (b := .slice o2 D.length p2) (c := .slice o3 X.length p3) (by simp)))
      go_wp2_with fail
      refine hK.out _ _ (by (try dsimp only); exact ⟨⟨r0, r1, r2⟩, ⟨t0, t1, t2⟩, ⟨u0, u1, u2⟩, ⟨v0, v1, v2⟩, ⟨x0, x1, x2⟩, ⟨z0, z1, z2⟩⟩) (fun hHeld => ?_)
      clear hK K
      try simp only [Act.put, List.getElem_toArray, List.getElem_cons_succ, List.getElem_cons_zero, List.setIfInBounds_toArray, List.set_cons_zero, List.set_cons_succ]
      refine wpAnyH_take (i := 34) (v := ?_) rfl (by kernel_rfl) (by kernel_rfl) (by kernel_rfl) (fun _ _ _ h => h) (Or.inl ⟨by rfl, ?_⟩) (by assumption) ?_
      rotate_left
      · intro w hSw; (try dsimp only at hSw); go_simp <;> with_reducible rfl
      try simp only [Act.put, List.getElem_toArray, List.getElem_cons_succ, List.getElem_cons_zero, List.setIfInBounds_toArray, List.set_cons_zero, List.set_cons_succ]
      refine wpAnyH_take (i := 35) (v := ?_) rfl (by kernel_rfl) (by kernel_rfl) (by kernel_rfl) (fun _ _ _ h => h) (Or.inl ⟨by rfl, ?_⟩) (by assumption) ?_
      rotate_left
      · intro w hSw; (try dsimp only at hSw); go_simp <;> with_reducible rfl
      try simp only [Act.put, List.getElem_toArray, List.getElem_cons_succ, List.getElem_cons_zero, List.setIfInBounds_toArray, List.set_cons_zero, List.set_cons_succ]
      refine wpAnyH_take (i := 36) (v := ?_) rfl (by kernel_rfl) (by kernel_rfl) (by kernel_rfl) (fun _ _ _ h => h) (Or.inl ⟨by rfl, ?_⟩) (by assumption) ?_
      rotate_left
      · intro w hSw; (try dsimp only at hSw); go_simp <;> with_reducible rfl
      try simp only [Act.put, List.getElem_toArray, List.getElem_cons_succ, List.getElem_cons_zero, List.setIfInBounds_toArray, List.set_cons_zero, List.set_cons_succ]
      refine wpAnyH_take (i := 37) (v := ?_) rfl (by kernel_rfl) (by kernel_rfl) (by kernel_rfl) (fun _ _ _ h => h) (Or.inl ⟨by rfl, ?_⟩) (by assumption) ?_
      rotate_left
      · intro w hSw; (try dsimp only at hSw); go_simp <;> with_reducible rfl
      try simp only [Act.put, List.getElem_toArray, List.getElem_cons_succ, List.getElem_cons_zero, List.setIfInBounds_toArray, List.set_cons_zero, List.set_cons_succ]
      refine wpAnyH_take (i := 38) (v := ?_) rfl (by kernel_rfl) (by kernel_rfl) (by kernel_rfl) (fun _ _ _ h => h) (Or.inl ⟨by rfl, ?_⟩) (by assumption) ?_
      rotate_left
      · intro w hSw; (try dsimp only at hSw); go_simp <;> with_reducible rfl
      try simp only [Act.put, List.getElem_toArray, List.getElem_cons_succ, List.getElem_cons_zero, List.setIfInBounds_toArray, List.set_cons_zero, List.set_cons_succ]
      refine wpAnyH_take (i := 39) (v := ?_) rfl (by kernel_rfl) (by kernel_rfl) (by kernel_rfl) (fun _ _ _ h => h) (Or.inl ⟨by rfl, ?_⟩) (by assumption) ?_
      rotate_left
      · intro w hSw; (try dsimp only at hSw); go_simp <;> with_reducible rfl
      try simp only [Act.put, List.getElem_toArray, List.getElem_cons_succ, List.getElem_cons_zero, List.setIfInBounds_toArray, List.set_cons_zero, List.set_cons_succ]
      refine wpAnyH_ready (rs := [40]) (by kernel_rfl) (by simp) ?_
      refine AllReadyH.cons rfl (fun K hK => ?_) AllReadyH.nil
      go_simp
      (go_at_call 42; refine (ints_same (RX.out.rd (v := .slice m3 X.length n3) (xs := X) (by simp)) (RX.out.rd (v := .slice ax X.length cx) (xs := X) (by simp)) HLT.out.x).mono ?_; rintro e w13 ⟨rfl, rfl⟩)
      go_wp2_with fail
      refine hK.out _ _ (by (try dsimp only); exact ⟨⟨r0, r1, r2⟩, ⟨t0, t1, t2⟩, ⟨u0, u1, u2⟩, ⟨v0, v1, v2⟩, ⟨x0, x1, x2⟩, ⟨z0, z1, z2⟩⟩) (fun hHeld => ?_)
      clear hK K
      try simp only [Act.put, List.getElem_toArray, List.getElem_cons_succ, List.getElem_cons_zero, List.setIfInBounds_toArray, List.set_cons_zero, List.set_cons_succ]
      refine wpAnyH_take (i := 41) (v := ?_) rfl (by kernel_rfl) (by kernel_rfl) (by kernel_rfl) (fun _ _ _ h => h) (Or.inl ⟨by rfl, ?_⟩) (by assumption) ?_
      rotate_left
      · intro w hSw; (try dsimp only at hSw); go_simp <;> with_reducible rfl
      try simp only [Act.put, List.getElem_toArray, List.getElem_cons_succ, List.getElem_cons_zero, List.setIfInBounds_toArray, List.set_cons_zero, List.set_cons_succ]
      refine wpAnyH_take (i := 42) (v := ?_) rfl (by kernel_rfl) (by kernel_rfl) (by kernel_rfl) (fun _ _ _ h => h) (Or.inl ⟨by rfl, ?_⟩) (by assumption) ?_
      rotate_left
      · intro w hSw; (try dsimp only at hSw); go_simp <;> with_reducible rfl
      try simp only [Act.put, List.getElem_toArray, List.getElem_cons_succ, List.getElem_cons_zero, List.setIfInBounds_toArray, List.set_cons_zero, List.set_cons_succ]
      refine wpAnyH_done (by kernel_rfl) ?_ _
      all_goals
        go_wp2
        go_ret
        exact ⟨rfl, RX.out.bel⟩

set_option maxHeartbeats 400000 in
theorem law_permuted_big (a : Option Addr) (n c : Nat) (w : World) (hb : 1048576 < n) (hc : n ≤ 281474976710656) :
    Calls Try.prog 6 #[.slice a n c] w fun e w' => e = .returned (.bool true) ∧ Below w.heap.size w w' := by
  go_enter Try.func6, Try.ntmps6
  go_wp2
  go_ret
  exact ⟨rfl, Below.refl _ _⟩
theorem law_permuted {v : Value} {bs : List UInt8} {w : World} (hr : Rd w.heap.size w v (bytes8 bs)) (hl : bs.length ≤ 281474976710656)  :
    Calls Try.prog 6 #[v] w fun e w' => e = .returned (.bool true) ∧ Below w.heap.size w w' := by
  obtain ⟨a, cap, rfl, -⟩ := bytes_cell hr
  by_cases hs : bs.length ≤ 1048576
  · exact law_permuted_small a _ cap bs w rfl hs hr 
  · exact law_permuted_big a _ cap w (by omega) hl
end Go.Proofs.Ytfdjlahaiogabaa
