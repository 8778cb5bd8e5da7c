
/- laws.ints on two slices that read the same. -/
import Derived.Test.YtgbmacppgaopfabGreatLawKit
import Derived.Lib.Hide
import Derived.Test.YtgbmacppgaopfabGreatPairsMath
import Derived.Test.YtgbmacppgaopfabGreatPairImpl
import Derived.Test.YtgbmacppgaopfabGreatDrawn
import Derived.Laws.AppendOwnNone
import Derived.Test.YtgbmacppgaopfabGreatSameImpl
namespace Go.Proofs.YtgbmacppgaopfabGreat
set_option maxRecDepth 20000
open Go.RowKit

set_option maxHeartbeats 800000 in
theorem ints_same {B B' : Nat} {va vb : Value} {xs : List Int} {w : World} (ha : Rd B w va (ints xs)) (hb : Rd B' w vb (ints xs)) (hn : xs.length ≤ 281474976710656) :
    Calls Tryz.prog 19 #[va, vb] w fun e w' => e = .returned (.bool true) ∧ w = w' := by
  obtain ⟨a, ca, rfl, hca⟩ := ints_form ha
  obtain ⟨b, cb, rfl, hcb⟩ := ints_form hb
  obtain ⟨n, hnn⟩ : ∃ n, n = xs.length := ⟨_, rfl⟩
  rw [← hnn] at hn ⊢
  have HN := Lib.hid hnn.symm
  have HA := Lib.hid hca
  have HBB := Lib.hid hcb
  clear ha hb hca hcb hnn
  go_enter Tryz.func19, Tryz.ntmps19
  go_wp2
  go_loop [9] (fun i => ∃ j : Nat, j ≤ n ∧ i = .int .i64 j) (fun i => n - (intOf i).toNat)
  case atStart => exact ⟨0, by omega, rfl⟩
  case round =>
    obtain ⟨j, hj, rfl⟩ := hrel
    by_cases hlt : j < n
    · obtain ⟨ba, oa, rfl, -, hc1⟩ := HA.out (by rw [HN.out]; omega)
      obtain ⟨bb, ob, rfl, -, hc2⟩ := HBB.out (by rw [HN.out]; omega)
      obtain ⟨x, e1, X1⟩ := ints_cell HN.out hc1 hlt
      obtain ⟨y, e2, Y1⟩ := ints_cell HN.out hc2 hlt
      obtain rfl : x = y := Option.some.inj (X1.out.symm.trans Y1.out)
      have hge : decide (n ≤ j) = false := by simp; omega
      clear hc1 hc2
      go_wp2
      go_round
      case rel => exact ⟨j + 1, by omega, by go_num⟩
      case measure => simp [intOf]; omega
    · obtain rfl : j = n := by omega
      go_wp2
      go_ret
      exact ⟨rfl, rfl⟩

end Go.Proofs.YtgbmacppgaopfabGreat
namespace Go.Proofs.YtgbmacppgaopfabGreat
set_option maxRecDepth 20000
open Go.RowKit

/-- The dimension of a drawn label. -/
def gD (n : Int) : Int := 1 + (n + 1) % 3
theorem gD_in (n : Int) : 1 ≤ gD n ∧ gD n ≤ 3 := by unfold gD; omega
/-- Labels from 0 to 5, with their dimensions. -/
structure Lab6 (L D : List Int) : Prop where
  nd : L.Nodup
  rg : ∀ x ∈ L, 0 ≤ x ∧ x < 6
  dm : D = L.map gD
theorem LabV.six {m : Nat} {L D : List Int} (h : LabV 6 m L D) : Lab6 L D := by
  refine ⟨h.nd, h.rg, List.ext_getElem? fun i => ?_⟩
  by_cases hi : i < L.length
  · have hm : L[i]? = some L[i] := List.getElem?_eq_getElem hi
    have hd : D[i]? = some (D[i]'(by have := h.len; omega)) := List.getElem?_eq_getElem (by have := h.len; omega)
    have e := h.dv i _ hm
    rw [getD_at hd] at e
    rw [hd, e, List.getElem?_map, hm]
    rfl
  · rw [List.getElem?_eq_none (by have := h.len; omega), List.getElem?_eq_none (by simpa using hi)]
theorem nodup_len : ∀ {L M : List Int}, L.Nodup → (∀ x ∈ L, x ∈ M) → L.length ≤ M.length := by
  intro L
  induction L with
  | nil => intro M _ _; simp
  | cons x r ih =>
    intro M hn hs
    have hn' := List.nodup_cons.1 hn
    have hx := hs x (by simp)
    have h1 := ih (M := M.erase x) hn'.2 (fun y hy => (List.mem_erase_of_ne (show y ≠ x by rintro rfl; exact hn'.1 hy)).2 (hs y (by simp [hy])))
    rw [List.length_erase_of_mem hx] at h1
    have h2 := List.length_pos_of_mem hx
    simp only [List.length_cons]
    omega
theorem Lab6.len {L D : List Int} (h : Lab6 L D) : L.length ≤ 6 := by
  have h1 := nodup_len (M := [0, 1, 2, 3, 4, 5]) h.nd (fun x hx => by
    have := h.rg x hx
    simp only [List.mem_cons, List.not_mem_nil, or_false]
    omega)
  simpa using h1
theorem Lab6.dims {L D : List Int} (h : Lab6 L D) : ∀ d ∈ D, 1 ≤ d ∧ d ≤ 3 := fun d hd => by
  rw [h.dm] at hd
  obtain ⟨n, -, rfl⟩ := List.mem_map.1 hd
  exact gD_in n
theorem Lab6.leneq {L D : List Int} (h : Lab6 L D) : L.length = D.length := by rw [h.dm]; simp
theorem Lab6.prod {L D : List Int} (h : Lab6 L D) : 1 ≤ prodL D ∧ prodL D ≤ 729 := by
  refine ⟨prodL_pos fun d hd => (h.dims d hd).1, Int.le_trans (prodL_le3 h.dims).2 (pow3_le (by rw [← h.leneq]; exact h.len))⟩
theorem Lab6.axes {L D : List Int} (h : Lab6 L D) : AxesV L D := ⟨by have := h.len; omega, h.leneq, fun x hx => by have := h.rg x hx; omega, fun d hd => by have := h.dims d hd; omega, h.nd⟩
theorem Lab6.size {L D : List Int} (h : Lab6 L D) : sizeI L D = prodL D := sizeI_of h.axes (by have := h.prod.2; omega)
theorem dimI_g {L : List Int} {n : Int} (h : n ∈ L) : dimI L (L.map gD) n = gD n := by
  unfold dimI
  exact getD_at (by rw [List.getElem?_map, at_idxOf h]; rfl)
theorem Lab6.joinD {L D L' D' : List Int} (h : Lab6 L D) (h' : Lab6 L' D') : joinD L D L' D' = (joinL L L').map gD := by
  rw [← joinD_map h.nd h.leneq]
  apply List.map_congr_left
  intro n hn
  unfold dimJ
  by_cases hL : n ∈ L
  · rw [if_pos hL, h.dm, dimI_g hL]
  · rw [if_neg hL, h'.dm]
    rcases List.mem_append.1 hn with h1 | h1
    · exact absurd h1 hL
    · exact dimI_g (rest_sub h1).1
theorem Lab6.join {L D L' D' : List Int} (h : Lab6 L D) (h' : Lab6 L' D') : Lab6 (joinL L L') (Go.Proofs.YtgbmacppgaopfabGreat.joinD L D L' D') :=
  ⟨join_nodup h.nd h'.nd, fun x hx => by
    rcases join_mem hx with h1 | h1
    · exact h.rg x h1
    · exact h'.rg x h1, h.joinD h'⟩
theorem Lab6.keep {J JD : List Int} (keep : List Int) (h : Lab6 J JD) : Lab6 (keepL J keep) (keepD J JD keep) :=
  ⟨keep_nodup h.nd, fun x hx => h.rg x (keep_sub x hx), by rw [h.dm, keepD_map]⟩
theorem Lab6.sub {L D J JD : List Int} (h : Lab6 L D) (hJ : Lab6 J JD) (hs : ∀ n ∈ L, n ∈ J) : SubAx L D J JD :=
  ⟨h.nd, h.leneq, hs, fun i n hi => by
    have hm := List.mem_of_getElem? hi
    rw [h.dm, hJ.dm, getD_at (show (L.map gD)[i]? = some (gD n) by rw [List.getElem?_map, hi]; rfl), getD_at (show (J.map gD)[J.idxOf n]? = some (gD n) by rw [List.getElem?_map, at_idxOf (hs n hm)]; rfl)]⟩
theorem SubAx.idx {M MD J JD : List Int} (h : SubAx M MD J JD) (hl : J.length = JD.length) (hM : ∀ d ∈ MD, 1 ≤ d) (hJ : ∀ d ∈ JD, 1 ≤ d) (n : Nat) : idxL MD (offJ M MD J JD n : Int) = viaL M J (idxL JD (n : Int)) := by
  have h1 := h.inx hl (idxL_in hJ (n : Int))
  have h2 := offP_range hM h1 MD.length (Nat.le_refl _)
  rw [← offI_is] at h2
  unfold offJ
  rw [Int.toNat_of_nonneg h2.1]
  exact idx_off hM h1
/-- A drawn tensor's facts. -/
structure Ten6 (k p q : Int) (wd : Nat) (L D X : List Int) : Prop where
  lab : Lab6 L D
  ten : tensorB k p q L D X = true
  fac : TenF k p q L D X wd (prodL D).toNat
theorem Ten6.of {k p q : Int} {wd : Nat} {L D X : List Int} (hw : widthI k q = (wd : Int)) (h : Lab6 L D) (ht : tensorB k p q L D X = true) : Ten6 k p q wd L D X := ⟨h, ht, TenF.of ht hw⟩
end Go.Proofs.YtgbmacppgaopfabGreat
namespace Go.Proofs.YtgbmacppgaopfabGreat
set_option maxRecDepth 20000
open Go.RowKit

end Go.Proofs.YtgbmacppgaopfabGreat
namespace Go.Proofs.YtgbmacppgaopfabGreat
set_option maxRecDepth 20000
open Go.RowKit

theorem Ten6.size {k p q : Int} {wd : Nat} {L D X : List Int} (h : Ten6 k p q wd L D X) : sizeI L D = prodL D := h.lab.size
end Go.Proofs.YtgbmacppgaopfabGreat
namespace Go.Proofs.YtgbmacppgaopfabGreat
set_option maxRecDepth 20000
open Go.RowKit

theorem own_cells {w : World} {lo hi : Nat} {v : Value} {xs : List Int} (h : Own w lo hi v xs) : (v = .slice none 0 0 ∧ xs = []) ∨ ∃ g cap, v = .slice (some ⟨g, 0, none⟩) xs.length cap ∧ ∀ j u, (ints xs)[j]? = some u → w.cell? ((⟨g, 0, none⟩ : Addr).add j) = some u := by
  have h1 := h.1
  rcases h1.2 with ⟨e, hz⟩ | ⟨g, cap, cur, e, hb, hg, hnc, hcm, hcs, htake⟩
  · exact .inl ⟨e, List.eq_nil_of_length_eq_zero hz⟩
  · refine .inr ⟨g, cap, e, fun j u hu => ?_⟩
    have hlt : j < xs.length := by
      have := (List.getElem?_eq_some_iff.1 hu).1
      rw [ints_len] at this
      exact this
    have h3 := World.ownsRow.cellAt (e ▸ h1) j (by omega)
    rw [Addr.add_lit, Nat.zero_add, h3]
    exact hu
/-- 'append(x, y...)' of rows of one's own. -/
theorem app_row {ops : Array Oper} {rest : List Oper} {o : Oper} {a : Act} {Q : Exit → Act → World → Prop} {w : World} (hgd : o.guard = none) (s x : Operand)
    (ho : o.op = .call { callee := .builtin .append, args := #[s, x], argTypes := #[26, 26] }) (base : Nat) {hi lo' hi' : Nat} (v u : Value) (xs news : List Int) (hs : a.eval s = v) (hown : Own w base hi v xs) (hx : a.eval x = u) (hu : Own w lo' hi' u news)
    (hlen : xs.length + news.length ≤ 4096) (hbase : base ≤ w.heap.size)
    (h : ∀ v' w', Own w' base w'.heap.size v' (xs ++ news) → w.grownBy w' v.ownBlock → wpList Tryz.prog ops Q rest (a.put o.dst v') w') : wpList Tryz.prog ops Q (o :: rest) a w := by
  obtain ⟨i0, hi0, hz0, hz1, hz2⟩ := info_parts infoInt
  rcases own_cells hu with ⟨rfl, rfl⟩ | ⟨g, cap, rfl, hnews⟩
  · refine Go.wpList_append_own_none hgd s x 26 ho base 3 i0 1 Tryz.underlying26 hi0 v xs.length (ints xs) hs hown.1 hx ?_
    exact h v w (by rw [List.append_nil]; exact Own.of hown.1 rfl) ⟨rfl, rfl, rfl, Nat.le_refl _, fun _ _ _ => rfl⟩
  · refine wpList_append_own _ hgd s x 26 ho base 3 i0 (.int .i64 0) 1 8 Tryz.underlying26 hi0 hz0 hz1 hz2 rfl (by decide) v xs.length (ints xs) hs hown.1 ⟨g, 0, none⟩ news.length cap (ints news) hx (by rw [ints_len, Nat.mul_one]) hnews (one_cells _) (by unfold maxLen; omega) (by omega) hbase ?_
    intro v' w' h1 h2 _
    rw [← ints_append] at h1
    exact h v' w' (Own.of h1 (by rw [List.length_append])) h2
set_option maxHeartbeats 800000 in
theorem join_two {lo hi lo' hi' : Nat} {va vb : Value} {A M : List Int} {w : World} (ha : Own w lo hi va A) (hb : Own w lo' hi' vb M) (hl : A.length + M.length ≤ 4096) :
    Calls Tryz.prog 22 #[va, vb] w (NewRow w (A ++ M)) := by
  have hbel : Below w.heap.size w (w.alloc (.cells #[] 3)) := (Below.refl _ _).alloc (Nat.le_refl _) _
  have HA := Lib.hid (ha.below hbel (Nat.le_refl _))
  have HB := Lib.hid (hb.below hbel (Nat.le_refl _))
  have HL : Hid (Own (w.alloc (.cells #[] 3)) w.heap.size (w.alloc (.cells #[] 3)).heap.size (.slice (some ⟨w.heap.size, 0, none⟩) 0 0) []) := Lib.hid (Own.of (World.ownsRow_lit (base := w.heap.size) (e := 3) (size := 1) w #[] 0 (Nat.le_refl _) (by unfold maxLen; omega) rfl) rfl)
  have HBL := Lib.hid hbel
  have HM0 := Lib.hid hb.2.2
  clear ha hb hbel
  go_enter Tryz.func22, Tryz.ntmps22
  go_wp2_with (at_builtin; go_must (refine app_row rfl _ _ rfl w.heap.size _ _ [] A rfl HL.out rfl HA.out (by simp; omega) (by simp) ?_))
  intro v1 w1 h1 g1
  have HB1 := Lib.hid (Below.grown HBL.out g1 (by simp) (fun j hj => by cases hj; exact Nat.le_refl _))
  have H1 := Lib.hid h1
  have HM : Hid (Own w1 lo' hi' vb M) := Lib.hid (HB.out.kept g1 (fun g hg => by cases hg; exact .inr HM0.out))
  clear h1 g1 HBL HL HA HB
  go_wp2_with (at_builtin; go_must (refine app_row rfl _ _ rfl w.heap.size _ _ ([] ++ A) M rfl H1.out rfl HM.out (by simp; omega) HB1.out.size ?_))
  intro v2 w2 h2 g2
  have RES : Hid (NewRow w (A ++ M) (.returned v2) w2) := Lib.hid ⟨v2, rfl, by simpa using h2, HB1.out.grown g2 HB1.out.size (fun j hj => H1.out.lo j hj)⟩
  clear h2 g2 H1 HM HB1
  go_wp2
  go_ret
  exact RES.out
end Go.Proofs.YtgbmacppgaopfabGreat
namespace Go.Proofs.YtgbmacppgaopfabGreat
set_option maxRecDepth 20000
open Go.RowKit

theorem Ten6.len {k p q : Int} {wd : Nat} {L D X : List Int} (h : Ten6 k p q wd L D X) : LenT L D X := by
  have h1 := ten_lens h.ten
  exact ⟨by omega, by omega, by omega⟩
theorem Ten6.ints {k p q : Int} {wd : Nat} {L D X : List Int} (h : Ten6 k p q wd L D X) : allI L := fun z hz => by
  have := h.lab.rg z hz
  exact ⟨by omega, by omega⟩
/-- A new tensor, its rows told. -/
def NewS (w : World) (L D X : List Int) (f : Value → Value) (e : Ending) (w' : World) : Prop := ∃ a1 n1 c1 a2 n2 c2 a3 n3 c3, e = .returned (f (tenV (.slice a1 n1 c1) (.slice a2 n2 c2) (.slice a3 n3 c3))) ∧ OwnG w' w.heap.size w'.heap.size [(.slice a1 n1 c1, L), (.slice a2 n2 c2, D), (.slice a3 n3 c3, X)] ∧ Below w.heap.size w w'
theorem NewS.of {w w' : World} {L D X : List Int} {f : Value → Value} {lv dv xv : Value} (ho : OwnG w' w.heap.size w'.heap.size [(lv, L), (dv, D), (xv, X)]) (hb : Below w.heap.size w w') : NewS w L D X f (.returned (f (tenV lv dv xv))) w' := by
  obtain ⟨a1, n1, c1, rfl⟩ := (show Own _ _ _ lv L from ho.1 (lv, L) (by simp)).slice
  obtain ⟨a2, n2, c2, rfl⟩ := (show Own _ _ _ dv D from ho.1 (dv, D) (by simp)).slice
  obtain ⟨a3, n3, c3, rfl⟩ := (show Own _ _ _ xv X from ho.1 (xv, X) (by simp)).slice
  exact ⟨_, _, _, _, _, _, _, _, _, rfl, ho, hb⟩
theorem Rs.six {w0 wr : World} {bs : List BxE} {rows : List RowE} (h : Rs w0 wr bs rows) : Rs w0 (wr.alloc (.cells #[.int .i64 0, .int .i64 1, .int .i64 2, .int .i64 3, .int .i64 4, .int .i64 5] 3)) bs ((.slice (some ⟨wr.heap.size, 0, none⟩) 6 6, [0, 1, 2, 3, 4, 5]) :: rows) := by
  refine h.new ((Below.refl _ _).alloc (Nat.le_refl _) _) ⟨?_, fun g hg => ?_, Nat.le_refl _⟩
  · exact World.ownsRow_lit (base := wr.heap.size) (e := 3) (size := 1) wr #[.int .i64 0, .int .i64 1, .int .i64 2, .int .i64 3, .int .i64 4, .int .i64 5] 6 (Nat.le_refl _) (by unfold maxLen; omega) rfl
  · simp only [Value.ownBlock, Option.some.injEq] at hg; subst hg; simp
set_option maxHeartbeats 800000 in
theorem same_yes {B B' : Nat} {lv dv xv lu du xu : Value} {L D X : List Int} {w : World} (ha : RdT B w lv dv xv L D X) (hb : RdT B' w lu du xu L D X) (hB : B ≤ w.heap.size) (hB' : B' ≤ w.heap.size) (hn : LenT L D X) :
    Calls Tryz.prog 13 #[tenV lv dv xv, tenV lu du xu] w fun e w' => e = .returned (.bool true) ∧ Below w.heap.size w w' := by
  have hbel : Below w.heap.size w ((w.alloc (.cells #[lv, dv, xv] 28)).alloc (.cells #[lu, du, xu] 28)) := ((Below.refl _ _).alloc (Nat.le_refl _) _).alloc (by simp) _
  have HA := Lib.hid (ha.below hbel hB)
  have HU := Lib.hid (hb.below hbel hB')
  have E1 := Lib.hid (ints_same HA.out.l HU.out.l hn.l)
  have E2 := Lib.hid (ints_same HA.out.d HU.out.d hn.d)
  have E3 := Lib.hid (ints_same HA.out.x HU.out.x hn.x)
  have HBL := Lib.hid hbel
  obtain ⟨al, cl, rfl, -⟩ := ints_form ha.l
  obtain ⟨ad, cd, rfl, -⟩ := ints_form ha.d
  obtain ⟨ax, cx, rfl, -⟩ := ints_form ha.x
  obtain ⟨bl, kl, rfl, -⟩ := ints_form hb.l
  obtain ⟨bd, kd, rfl, -⟩ := ints_form hb.d
  obtain ⟨bx, kx, rfl, -⟩ := ints_form hb.x
  clear ha hb hB hB' hn hbel HA HU
  go_enter Tryz.func13, Tryz.ntmps13
  go_wp2_with fail
  refine E1.out.mono ?_
  rintro e w1 ⟨rfl, rfl⟩
  go_wp2_with fail
  refine E2.out.mono ?_
  rintro e w1 ⟨rfl, rfl⟩
  go_wp2_with fail
  refine E3.out.mono ?_
  rintro e w1 ⟨rfl, rfl⟩
  go_wp2
  go_ret
  exact ⟨rfl, HBL.out⟩
end Go.Proofs.YtgbmacppgaopfabGreat
