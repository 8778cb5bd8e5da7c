
/- The specification of networks: dimensions, labels, uses. -/
import Derived.Test.YtdheakjjnaifkaaNetMath
import Derived.Test.YtdheakjjnaifkaaTens
import Derived.Test.YtdheakjjnaifkaaTensorOk2
import Derived.Test.YtdheakjjnaifkaaSource
import Derived.Deep.RegionHeld3
namespace Go.Proofs.Ytdheakjjnaifkaa
set_option maxRecDepth 20000
open Go.RowKit

theorem RdTs.take {B m cap : Nat} {w : World} {a : Option Addr} {ts : List TenE} (h : RdTs B w (.slice a m cap) ts) (j : Nat) (hj : j ≤ ts.length) : RdTs B w (.slice a j cap) (ts.take j) := by
  obtain ⟨us, h1, h2, h3⟩ := h
  refine ⟨us.take j, ?_, by rw [List.length_take, List.length_take, h2], fun i u t hu ht => ?_⟩
  · rcases h1 with ⟨rfl, a', c', e⟩ | ⟨b, off, c', e, hb, hc⟩
    · simp at h2
      obtain rfl : j = 0 := by omega
      cases e
      exact .inl ⟨by simp, a, cap, rfl⟩
    · cases e
      by_cases h0 : j = 0
      · subst h0
        exact .inl ⟨by simp, _, _, rfl⟩
      · refine .inr ⟨b, off, cap, by rw [List.length_take, h2, Nat.min_eq_left hj], hb, fun i u hi => ?_⟩
        have hl := (List.getElem?_eq_some_iff.1 hi).1
        rw [List.length_take] at hl
        rw [List.getElem?_take_of_lt (by omega)] at hi
        exact hc i u hi
  · have hl := (List.getElem?_eq_some_iff.1 hu).1
    rw [List.length_take] at hl
    rw [List.getElem?_take_of_lt (by omega)] at hu ht
    exact h3 i u t hu ht
/-- The tensors' lists are no longer than a machine can hold. -/
def LenTs (ts : List TenE) : Prop := ts.length ≤ 1048576 ∧ ∀ t ∈ ts, LenT t.1 t.2.1 t.2.2
theorem LenTs.take {ts : List TenE} (h : LenTs ts) (j : Nat) : LenTs (ts.take j) := ⟨by rw [List.length_take]; have := h.1; omega, fun t ht => h.2 t (List.mem_of_mem_take ht)⟩
theorem findI_hit {L : List Int} {x : Int} (h : x ∈ L) : findI L x = (L.idxOf x : Int) := by unfold findI; rw [if_pos h]
theorem findI_miss {L : List Int} {x : Int} (h : x ∉ L) : findI L x = -1 := by unfold findI; rw [if_neg h]

set_option maxHeartbeats 1600000 in
theorem dim_spec {B : Nat} {v : Value} {ts : List TenE} {x : Int} {w : World} (h : RdTs B w v ts) (hB : B ≤ w.heap.size) (hn : LenTs ts) (hax : AxT ts) :
    Calls Try.prog 46 #[v, .int .i64 x] w fun e w' => e = .returned (.int .i64 (dimT ts x)) ∧ Below w.heap.size w w' := by
  obtain ⟨a, cap, rfl⟩ := h.form
  have HT := Lib.hid h
  have HB := Lib.hid hB
  have HLN := Lib.hid hn
  have HAX := Lib.hid hax
  obtain ⟨n, hnn⟩ : ∃ n, n = ts.length := ⟨_, rfl⟩
  rw [← hnn] at HT ⊢
  have HN := Lib.hid hnn
  obtain ⟨r, hr⟩ : ∃ r, r = dimT ts x := ⟨_, rfl⟩
  rw [← hr]
  have HR := Lib.hid hr
  have hn1 : n ≤ 1048576 := by have := hn.1; omega
  clear h hB hn hax hnn hr
  go_enter Try.func46, Try.ntmps46
  go_wp2
  go_loopw [10] (fun i wr => ∃ j : Nat, j ≤ n ∧ i = .int .i64 j ∧ Hid (∀ s ∈ ts.take j, x ∉ s.1) ∧ Hid (Below w.heap.size w wr)) (fun i _ => n - (intOf i).toNat)
  case atStart => exact ⟨0, by omega, rfl, Lib.hid (fun s hs => by simp at hs), Lib.hid (Below.refl _ _)⟩
  case round =>
    obtain ⟨j, hj, rfl, HM, HW⟩ := hrel
    by_cases hlt : j < n
    · obtain ⟨⟨L, D, X⟩, T1⟩ : ∃ t, Hid (ts[j]? = some t) := ⟨_, List.getElem?_eq_getElem (by rw [← HN.out]; exact hlt)⟩
      obtain ⟨b, off, a1, c1, a2, c2, a3, c3, rfl, -, k0, k1, k2, hT⟩ := (HT.out.below HW.out HB.out).at T1.out
      dsimp only at k0 k1 k2 hT
      have hln := HLN.out.2 _ (List.mem_of_getElem? T1.out)
      have hLD := (HAX.out _ (List.mem_of_getElem? T1.out)).2.1
      dsimp only at hln hLD
      have HF := Lib.hid (find_spec x (hT.l.below ((Below.refl w.heap.size wr).alloc HW.out.size (.cells #[.slice a1 L.length c1, .slice a2 D.length c2, .slice a3 X.length c3] 55)) HB.out) hln.l)
      have HW1 := Lib.hid (HW.out.alloc HW.out.size (.cells #[.slice a1 L.length c1, .slice a2 D.length c2, .slice a3 X.length c3] 55))
      by_cases hx : x ∈ L
      · have hix := List.idxOf_lt_length_iff.2 hx
        rw [findI_hit hx] at HF
        obtain ⟨z, hz⟩ : ∃ z, z = L.idxOf x := ⟨_, rfl⟩
        rw [← hz] at HF hix
        obtain ⟨d, hd⟩ : ∃ d, D[z]? = some d := ⟨_, List.getElem?_eq_getElem (by omega)⟩
        have HRD : Hid (r = d) := Lib.hid (by
          rw [HR.out, dimT_hit T1.out hx HM.out]
          unfold dimI
          rw [← hz, List.getD_eq_getElem?_getD, hd]; rfl)
        obtain ⟨b2, o2, rfl, hb2, e2⟩ := hT.d.cellAt hd
        have hb3 : b2 < wr.heap.size := Nat.lt_of_lt_of_le hb2 (Nat.le_trans HB.out HW.out.size)
        generalize L.length = mL at HF k0 hix HW1 hLD hln ⊢
        generalize D.length = mD at k1 HW1 hLD HF ⊢
        have hzd : z < mD := by omega
        clear hT hx hz hd hln hLD hb2
        go_wp2_with fail
        refine HF.out.mono ?_
        rintro e w1 ⟨rfl, rfl⟩
        go_wp2
        go_ret
        exact ⟨by rw [HRD.out]; rfl, HW1.out⟩
      · rw [findI_miss hx] at HF
        have HM2 : Hid (∀ s ∈ ts.take (j + 1), x ∉ s.1) := Lib.hid (fun s hs => by
          rw [List.take_add_one, T1.out] at hs
          rcases List.mem_append.1 hs with hs | hs
          · exact HM.out s hs
          · simp at hs; subst hs; exact hx)
        clear hT hx hln hLD
        go_wp2_with fail
        refine HF.out.mono ?_
        rintro e w1 ⟨rfl, rfl⟩
        go_wp2
        go_roundw
        case rel => exact ⟨j + 1, by omega, by go_num, HM2, HW1⟩
        case measure => simp [intOf]; omega
    · obtain rfl : j = n := by omega
      have HRD : Hid (r = 0) := Lib.hid (by
        rw [HR.out]
        exact dimT_none fun t ht => HM.out t (by rw [List.take_of_length_le (by rw [← HN.out]; exact Nat.le_refl _)]; exact ht))
      go_wp2
      go_ret
      exact ⟨by rw [HRD.out]; rfl, HW.out⟩

set_option maxHeartbeats 1600000 in
theorem dims_spec {B B' : Nat} {v u : Value} {ts : List TenE} {L : List Int} {w : World} (h : RdTs B w v ts) (hl : Rd B' w u (ints L)) (hB : B ≤ w.heap.size) (hB' : B' ≤ w.heap.size) (hn : LenTs ts) (hax : AxT ts) (hm : L.length ≤ 1048576) :
    Calls Try.prog 48 #[v, u] w (NewRow w (L.map (dimT ts))) := by
  obtain ⟨i0, hi0, hz0, hz1, hz2⟩ := info_parts infoInt
  have J0 := Lib.hid hi0
  have J1 := Lib.hid hz0
  have J2 := Lib.hid hz1
  have J3 := Lib.hid hz2
  have HT := Lib.hid (h.mono hB)
  have HL := Lib.hid (hl.mono hB')
  have HLN := Lib.hid hn
  have HAX := Lib.hid hax
  obtain ⟨a, cap, rfl⟩ := h.form
  obtain ⟨al, cl, rfl, -⟩ := ints_form hl
  obtain ⟨n, hnn⟩ : ∃ n, n = ts.length := ⟨_, rfl⟩
  rw [← hnn] at HT ⊢
  obtain ⟨m, hmm⟩ : ∃ m, m = L.length := ⟨_, rfl⟩
  rw [← hmm] at HL hm ⊢
  have HM := Lib.hid hmm
  have S2 : Hid (Rs w (w.alloc (.cells #[] 3)) [] [(.slice (some ⟨w.heap.size, 0, none⟩) 0 0, (L.map (dimT ts)).take 0)]) := Lib.hid (Rs.start w).lit
  clear hi0 hz0 hz1 hz2 h hl hB hB' hn hax hnn hmm
  go_enter Try.func48, Try.ntmps48
  go_wp2
  go_loopw [5, 11] (fun u i wr => ∃ (j ca : Nat) (ga : Option Addr), j ≤ m ∧ i = .int .i64 j ∧ u = .slice ga j ca ∧ Hid (Rs w wr [] [(.slice ga j ca, (L.map (dimT ts)).take j)])) (fun _ i _ => m - (intOf i).toNat)
  case atStart => exact ⟨0, 0, _, by omega, rfl, rfl, S2⟩
  case round =>
    clear S2
    obtain ⟨j, ca, ga, hj, rfl, rfl, HR⟩ := hrel
    by_cases hlt : j < m
    · obtain ⟨x, X1⟩ : ∃ x, Hid (L[j]? = some x) := ⟨_, List.getElem?_eq_getElem (by rw [← HM.out]; exact hlt)⟩
      obtain ⟨b1, off, rfl, -, e1⟩ := (HL.out.below HR.out.bel (Nat.le_refl _)).cellAt X1.out
      have HD := Lib.hid (dim_spec (x := x) (HT.out.below HR.out.bel (Nat.le_refl _)) HR.out.bel.size HLN.out HAX.out)
      obtain ⟨d, hd⟩ : ∃ d, d = dimT ts x := ⟨_, rfl⟩
      rw [← hd] at HD
      have HDX : Hid ((L.map (dimT ts)).take j ++ [d] = (L.map (dimT ts)).take (j + 1)) := Lib.hid (by rw [List.take_add_one, List.getElem?_map, X1.out, hd]; rfl)
      have HLL : Hid (((L.map (dimT ts)).take j).length = j) := Lib.hid (by rw [List.length_take, List.length_map, ← HM.out]; omega)
      clear hd
      go_wp2_with fail
      refine HD.out.mono ?_
      rintro e w1 ⟨rfl, hb⟩
      have R1 := Lib.hid (HR.out.step hb)
      have A1 := Lib.hid (R1.out.alloc (.cells #[.int .i64 d] 3))
      have O1 := Lib.hid (A1.out.row (List.mem_cons_self) HLL.out : World.ownsRow _ w.heap.size 3 1 (.slice ga j ca) j (ints ((L.map (dimT ts)).take j)))
      clear hb HR e1 HD
      go_wp2_with (at_builtin; go_must (refine wpList_append_lies _ rfl _ _ 25 rfl w.heap.size 3 i0 (.int .i64 0) 1 8 Try.underlying25 J0.out J1.out J2.out J3.out rfl (by decide) _ j (ints ((L.map (dimT ts)).take j)) rfl O1.out ⟨w1.heap.size, 0, none⟩ 1 1 [.int .i64 d] rfl rfl (cell_one_new _ _ _) ?c2 (by decide) ?c3 ?c4 ?c5 _ rfl ?_))
      case c2 => first | rfl | (intro u hu; simp at hu; subst hu; rfl)
      case c3 => unfold maxLen; omega
      case c4 => omega
      case c5 => exact A1.out.bel.size
      intro g1 cap1 w2 hown hgrow hl1 _
      have R2 := Lib.hid (A1.out.app1 HLL.out hown hgrow (by rw [World.size_alloc]; exact hl1))
      rw [HDX.out] at R2
      clear hown hgrow hl1 O1 A1 R1
      go_wp2
      go_roundw
      case rel => exact ⟨j + 1, cap1, _, by omega, by go_num, rfl, R2⟩
      case measure => simp [intOf]; omega
    · obtain rfl : j = m := by omega
      have RES : Hid (NewRow w (L.map (dimT ts)) (.returned (.slice ga j ca)) wr) := Lib.hid ⟨_, rfl, by
        have h1 := HR.out.own1 (v := .slice ga j ca) (xs := (L.map (dimT ts)).take j) (by simp)
        rw [List.take_of_length_le (by rw [List.length_map, ← HM.out]; exact Nat.le_refl _)] at h1
        exact h1, HR.out.bel⟩
      go_wp2
      go_ret
      exact RES.out
/-- The labels that are found below n. -/
def labTo (ts : List TenE) (n : Nat) : List Int := ((List.range n).map fun n : Nat => (n : Int)).filter fun n => decide (0 < dimT ts n)
theorem labTo_yes {ts : List TenE} {n : Nat} (h : 0 < dimT ts n) : labTo ts n ++ [(n : Int)] = labTo ts (n + 1) := by
  unfold labTo
  rw [List.range_succ, List.map_append, List.filter_append]
  simp [h]
theorem labTo_no {ts : List TenE} {n : Nat} (h : ¬ 0 < dimT ts n) : labTo ts n = labTo ts (n + 1) := by
  unfold labTo
  rw [List.range_succ, List.map_append, List.filter_append]
  simp; omega
set_option maxHeartbeats 1600000 in
theorem labels_spec {B : Nat} {v : Value} {ts : List TenE} {w : World} (h : RdTs B w v ts) (hB : B ≤ w.heap.size) (hn : LenTs ts) (hax : AxT ts) :
    Calls Try.prog 54 #[v] w (NewRow w (labT ts)) := by
  obtain ⟨i0, hi0, hz0, hz1, hz2⟩ := info_parts infoInt
  have J0 := Lib.hid hi0
  have J1 := Lib.hid hz0
  have J2 := Lib.hid hz1
  have J3 := Lib.hid hz2
  have HT := Lib.hid (h.mono hB)
  have HLN := Lib.hid hn
  have HAX := Lib.hid hax
  obtain ⟨a, cap, rfl⟩ := h.form
  obtain ⟨n, hnn⟩ : ∃ n, n = ts.length := ⟨_, rfl⟩
  rw [← hnn] at HT ⊢
  have S2 : Hid (Rs w (w.alloc (.cells #[] 3)) [] [(.slice (some ⟨w.heap.size, 0, none⟩) 0 0, labTo ts 0)]) := Lib.hid (Rs.start w).lit
  clear hi0 hz0 hz1 hz2 h hB hn hax hnn
  go_enter Try.func54, Try.ntmps54
  go_wp2
  go_loopw [3, 4] (fun u i wr => ∃ (j na ca : Nat) (ga : Option Addr), j ≤ 100 ∧ i = .int .i64 j ∧ na ≤ j ∧ u = .slice ga na ca ∧ Hid (na = (labTo ts j).length) ∧ Hid (Rs w wr [] [(.slice ga na ca, labTo ts j)])) (fun _ i _ => 100 - (intOf i).toNat)
  case atStart => exact ⟨0, 0, 0, _, by omega, rfl, by omega, rfl, rfl, S2⟩
  case round =>
    clear S2
    obtain ⟨j, na, ca, ga, hj, rfl, hna, rfl, HNA, HR⟩ := hrel
    by_cases hlt : j < 100
    · have hle : (j : Int) ≤ 99 := by omega
      have q0 : decide ((j : Int) ≤ 99) = true := by simp; omega
      have HD := Lib.hid (dim_spec (x := (j : Int)) (HT.out.below HR.out.bel (Nat.le_refl _)) HR.out.bel.size HLN.out HAX.out)
      obtain ⟨d, hd⟩ : ∃ d, d = dimT ts (j : Int) := ⟨_, rfl⟩
      rw [← hd] at HD
      by_cases h0 : 0 < d
      · have EY : Hid (labTo ts j ++ [(j : Int)] = labTo ts (j + 1)) := Lib.hid (labTo_yes (by rw [← hd]; exact h0))
        have HNA2 : Hid (na + 1 = (labTo ts (j + 1)).length) := Lib.hid (by rw [← EY.out, List.length_append, ← HNA.out]; rfl)
        have q1 : decide (0 < d) = true := by simpa using h0
        clear hd
        go_wp2_with fail
        refine HD.out.mono ?_
        rintro e w1 ⟨rfl, hb⟩
        have R1 := Lib.hid (HR.out.step hb)
        have A1 := Lib.hid (R1.out.alloc (.cells #[.int .i64 (j : Int)] 3))
        have O1 := Lib.hid (A1.out.row (List.mem_cons_self) HNA.out.symm : World.ownsRow _ w.heap.size 3 1 (.slice ga na ca) na (ints (labTo ts j)))
        clear hb HR HD
        go_wp2_with (at_builtin; go_must (refine wpList_append_lies _ rfl _ _ 25 rfl w.heap.size 3 i0 (.int .i64 0) 1 8 Try.underlying25 J0.out J1.out J2.out J3.out rfl (by decide) _ na (ints (labTo ts j)) rfl O1.out ⟨w1.heap.size, 0, none⟩ 1 1 [.int .i64 (j : Int)] rfl rfl (cell_one_new _ _ _) ?c2 (by decide) ?c3 ?c4 ?c5 _ rfl ?_))
        case c2 => first | rfl | (intro u hu; simp at hu; subst hu; rfl)
        case c3 => unfold maxLen; omega
        case c4 => omega
        case c5 => exact A1.out.bel.size
        intro g1 cap1 w2 hown hgrow hl1 _
        have R2 := Lib.hid (A1.out.app1 HNA.out.symm hown hgrow (by rw [World.size_alloc]; exact hl1))
        rw [EY.out] at R2
        clear hown hgrow hl1 O1 A1 R1
        go_wp2
        go_roundw
        case rel => exact ⟨j + 1, na + 1, cap1, _, by omega, by go_num, by omega, rfl, HNA2, R2⟩
        case measure => simp [intOf]; omega
      · have EN : Hid (labTo ts j = labTo ts (j + 1)) := Lib.hid (labTo_no (by rw [← hd]; exact h0))
        have q1 : decide (0 < d) = false := by simpa using h0
        clear hd
        go_wp2_with fail
        refine HD.out.mono ?_
        rintro e w1 ⟨rfl, hb⟩
        have R1 := Lib.hid (HR.out.step hb)
        rw [EN.out] at R1 HNA
        clear hb HR HD
        go_wp2
        go_roundw
        case rel => exact ⟨j + 1, na, ca, _, by omega, by go_num, by omega, rfl, HNA, R1⟩
        case measure => simp [intOf]; omega
    · obtain rfl : j = 100 := by omega
      have RES : Hid (NewRow w (labT ts) (.returned (.slice ga na ca)) wr) := Lib.hid ⟨_, rfl, HR.out.own1 (v := .slice ga na ca) (xs := labTo ts 100) (by simp), HR.out.bel⟩
      go_wp2
      go_ret
      exact RES.out
/-- The tensors with a label. -/
def usesT (ts : List TenE) (x : Int) : List Int := ((List.range ts.length).filter fun i => decide (x ∈ (ts.getD i ([], [], [])).1)).map fun i : Nat => (i : Int)
def usesTo (ts : List TenE) (x : Int) (n : Nat) : List Int := ((List.range n).filter fun i => decide (x ∈ (ts.getD i ([], [], [])).1)).map fun i : Nat => (i : Int)
theorem usesTo_yes {ts : List TenE} {x : Int} {n : Nat} {t : TenE} (ht : ts[n]? = some t) (h : x ∈ t.1) : usesTo ts x n ++ [(n : Int)] = usesTo ts x (n + 1) := by
  unfold usesTo
  rw [List.range_succ, List.filter_append, List.map_append]
  simp [List.getD_eq_getElem?_getD, ht, h]
theorem usesTo_no {ts : List TenE} {x : Int} {n : Nat} {t : TenE} (ht : ts[n]? = some t) (h : x ∉ t.1) : usesTo ts x n = usesTo ts x (n + 1) := by
  unfold usesTo
  rw [List.range_succ, List.filter_append, List.map_append]
  simp [List.getD_eq_getElem?_getD, ht, h]
set_option maxHeartbeats 1600000 in
theorem uses_spec {B : Nat} {v : Value} {ts : List TenE} {x : Int} {w : World} (h : RdTs B w v ts) (hB : B ≤ w.heap.size) (hn : LenTs ts) :
    Calls Try.prog 57 #[v, .int .i64 x] w (NewRow w (usesT ts x)) := by
  obtain ⟨i0, hi0, hz0, hz1, hz2⟩ := info_parts infoInt
  have J0 := Lib.hid hi0
  have J1 := Lib.hid hz0
  have J2 := Lib.hid hz1
  have J3 := Lib.hid hz2
  have HT := Lib.hid (h.mono hB)
  have HLN := Lib.hid hn
  obtain ⟨a, cap, rfl⟩ := h.form
  obtain ⟨n, hnn⟩ : ∃ n, n = ts.length := ⟨_, rfl⟩
  rw [← hnn] at HT ⊢
  have HN := Lib.hid hnn
  have hn1 : n ≤ 1048576 := by have := hn.1; omega
  have S2 : Hid (Rs w (w.alloc (.cells #[] 3)) [] [(.slice (some ⟨w.heap.size, 0, none⟩) 0 0, usesTo ts x 0)]) := Lib.hid (Rs.start w).lit
  clear hi0 hz0 hz1 hz2 h hB hn hnn
  go_enter Try.func57, Try.ntmps57
  go_wp2
  go_loopw [5, 11] (fun u i wr => ∃ (j na ca : Nat) (ga : Option Addr), j ≤ n ∧ i = .int .i64 j ∧ na ≤ j ∧ u = .slice ga na ca ∧ Hid (na = (usesTo ts x j).length) ∧ Hid (Rs w wr [] [(.slice ga na ca, usesTo ts x j)])) (fun _ i _ => n - (intOf i).toNat)
  case atStart => exact ⟨0, 0, 0, _, by omega, rfl, by omega, rfl, rfl, S2⟩
  case round =>
    clear S2
    obtain ⟨j, na, ca, ga, hj, rfl, hna, rfl, HNA, HR⟩ := hrel
    by_cases hlt : j < n
    · obtain ⟨⟨L, D, X⟩, T1⟩ : ∃ t, Hid (ts[j]? = some t) := ⟨_, List.getElem?_eq_getElem (by rw [← HN.out]; exact hlt)⟩
      obtain ⟨b, off, a1, c1, a2, c2, a3, c3, rfl, -, k0, k1, k2, hT⟩ := (HT.out.below HR.out.bel (Nat.le_refl _)).at T1.out
      dsimp only at k0 k1 k2 hT
      have hln := HLN.out.2 _ (List.mem_of_getElem? T1.out)
      dsimp only at hln
      have A0 := Lib.hid (HR.out.alloc (.cells #[.slice a1 L.length c1, .slice a2 D.length c2, .slice a3 X.length c3] 55))
      have HF := Lib.hid (find_spec x (hT.l.below ((Below.refl w.heap.size wr).alloc HR.out.bel.size (.cells #[.slice a1 L.length c1, .slice a2 D.length c2, .slice a3 X.length c3] 55)) (Nat.le_refl _)) hln.l)
      by_cases hx : x ∈ L
      · rw [findI_hit hx] at HF
        obtain ⟨z, hz⟩ : ∃ z, z = L.idxOf x := ⟨_, rfl⟩
        rw [← hz] at HF
        have EY : Hid (usesTo ts x j ++ [(j : Int)] = usesTo ts x (j + 1)) := Lib.hid (usesTo_yes T1.out hx)
        have HNA2 : Hid (na + 1 = (usesTo ts x (j + 1)).length) := Lib.hid (by rw [← EY.out, List.length_append, ← HNA.out]; rfl)
        generalize L.length = mL at k0 A0 HF ⊢
        generalize D.length = mD at k1 A0 HF ⊢
        generalize X.length = mX at k2 A0 HF ⊢
        have A1 := Lib.hid (A0.out.alloc (.cells #[.int .i64 (j : Int)] 3))
        have O1 := Lib.hid (A1.out.row (List.mem_cons_self) HNA.out.symm : World.ownsRow _ w.heap.size 3 1 (.slice ga na ca) na (ints (usesTo ts x j)))
        clear hT hx hz hln
        go_wp2_with fail
        refine HF.out.mono ?_
        rintro e w1 ⟨rfl, rfl⟩
        clear HF
        go_wp2_with (at_builtin; go_must (refine wpList_append_lies _ rfl _ _ 25 rfl w.heap.size 3 i0 (.int .i64 0) 1 8 Try.underlying25 J0.out J1.out J2.out J3.out rfl (by decide) _ na (ints (usesTo ts x j)) rfl O1.out ⟨wr.heap.size + 1, 0, none⟩ 1 1 [.int .i64 (j : Int)] rfl rfl (cell_one_at _ _ (by simp)) ?c2 (by decide) ?c3 ?c4 ?c5 _ rfl ?_))
        case c2 => first | rfl | (intro u hu; simp at hu; subst hu; rfl)
        case c3 => unfold maxLen; omega
        case c4 => omega
        case c5 => exact A1.out.bel.size
        intro g1 cap1 w2 hown hgrow hl1 _
        have R2 := Lib.hid (A1.out.app1 HNA.out.symm hown hgrow (by simp only [World.size_alloc] at hl1 ⊢; exact hl1))
        rw [EY.out] at R2
        clear hown hgrow hl1 O1 A1 A0 HR
        go_wp2
        go_roundw
        case rel => exact ⟨j + 1, na + 1, cap1, _, by omega, by go_num, by omega, rfl, HNA2, R2⟩
        case measure => simp [intOf]; omega
      · rw [findI_miss hx] at HF
        have EN : Hid (usesTo ts x j = usesTo ts x (j + 1)) := Lib.hid (usesTo_no T1.out hx)
        rw [EN.out] at A0 HNA
        clear hT hx hln HR
        go_wp2_with fail
        refine HF.out.mono ?_
        rintro e w1 ⟨rfl, rfl⟩
        go_wp2
        go_roundw
        case rel => exact ⟨j + 1, na, ca, _, by omega, by go_num, by omega, rfl, HNA, A0⟩
        case measure => simp [intOf]; omega
    · obtain rfl : j = n := by omega
      have RES : Hid (NewRow w (usesT ts x) (.returned (.slice ga na ca)) wr) := Lib.hid ⟨_, rfl, by
        have h := HR.out.own1 (v := .slice ga na ca) (xs := usesTo ts x j) (by simp)
        rw [HN.out] at h
        exact h, HR.out.bel⟩
      go_wp2
      go_ret
      exact RES.out
/-- The index of a tensor that an assignment gives. -/
def wtL (k p : Int) (wd : Nat) (J ix : List Int) (s : List Int) (ts : List TenE) : List Int := ts.foldl (fun s t => timesL k p s (getL wd t.2.2 (offI t.2.1 (viaL t.1 J ix)).toNat)) s
theorem wtL_snoc (k p : Int) (wd : Nat) (J ix : List Int) (s : List Int) (ts : List TenE) (t : TenE) : wtL k p wd J ix s (ts ++ [t]) = timesL k p (wtL k p wd J ix s ts) (getL wd t.2.2 (offI t.2.1 (viaL t.1 J ix)).toNat) := by simp [wtL]
end Go.Proofs.Ytdheakjjnaifkaa
