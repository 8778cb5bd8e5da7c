
/- spec.ParseTensor. -/
import Derived.Test.YtceidekfcnmeaaaDoorAxisSpec
import Derived.Test.YtceidekfcnmeaaaDoorSpecElem
import Derived.Test.YtceidekfcnmeaaaDoorFmtTenSpec
import Derived.Test.YtceidekfcnmeaaaDoorParTenImpl
import Derived.Test.YtceidekfcnmeaaaDoorStrRow
namespace Go.Proofs.YtceidekfcnmeaaaDoor
set_option maxRecDepth 20000
open Go Go.RowKit

/-- What has been read of a text, held against a tensor. -/
def MatchAt (j : Nat) (dt : Bool) (L D X : List Int) (wd : Nat) (L' D' X' : List Int) : Prop :=
  (j ≤ L'.length → dt = false ∧ L = L'.take j ∧ D = D'.take j ∧ X = []) ∧ (L'.length < j → dt = true ∧ L = L' ∧ D = D' ∧ X = X'.take ((j - (L'.length + 1)) * wd))
/-- The same of all tensors that have this text. -/
def MatchAll (k p q : Int) (s : ByteArray) (j : Nat) (dt : Bool) (L D X : List Int) : Prop :=
  ∀ L' D' X', tensorB k p q L' D' X' = true → s.data.toList = fmtTen k p q L' D' X' → MatchAt j dt L D X (widthI k q).toNat L' D' X'
section
variable {k p q : Int} {s y : ByteArray} {j : Nat} {L D X : List Int}
theorem match_start : MatchAll k p q s 0 false [] [] [] := fun L' D' X' _ _ => ⟨fun _ => by simp, fun h => by omega⟩
theorem ten_len {L' D' X' : List Int} (ht : tensorB k p q L' D' X' = true) : L'.length = D'.length := (TF.of ht).ax.2.1
/-- The word of an element. -/
theorem match_elem {zs : List Int} {b : Bool} (h : MatchAll k p q s j true L D X) (hy : (wordsOf s)[j]? = some y) (he : ElemAtT k p q y zs b) : (b = true → MatchAll k p q s (j + 1) true L D (X ++ zs)) ∧ (b = false → MatchAll k p q s (j + 1) true L D X ∧ ∀ L' D' X', tensorB k p q L' D' X' = true → s.data.toList ≠ fmtTen k p q L' D' X') := by
  have key : ∀ L' D' X', tensorB k p q L' D' X' = true → s.data.toList = fmtTen k p q L' D' X' → b = true ∧ L'.length < j ∧ zs = getL (widthI k q).toNat X' (j - (L'.length + 1)) := by
    intro L' D' X' ht hs
    obtain ⟨h1, h2⟩ := h L' D' X' ht hs
    have hlt : L'.length < j := by
      by_cases hj : j ≤ L'.length
      · have := (h1 hj).1; cases this
      · omega
    have hw := (par_is ht hs).1
    have hf := TF.of ht
    rw [hw] at hy
    have hjl := (List.getElem?_eq_some_iff.1 hy).1
    rw [tenWs_len hf.ax.2.1] at hjl
    have hn : j - (L'.length + 1) < (prodL D').toNat := by omega
    have he2 := tenWs_el (wd := (widthI k q).toNat) (N := (prodL D').toNat) (X := X') hf.ax.2.1 rfl hn
    rw [show L'.length + 1 + (j - (L'.length + 1)) = j from by omega, hy] at he2
    cases he2
    have hm := Nat.mul_le_mul_right (widthI k q).toNat (show j - (L'.length + 1) + 1 ≤ (prodL D').toNat by omega)
    rw [Nat.add_mul, Nat.one_mul] at hm
    have hel := el_word (ten_inI ht).2.2 (n := j - (L'.length + 1)) (wd := (widthI k q).toNat) (by have := hf.lX; omega) hf.w6.1
    have hev := getL_elem hf.hw hf.lX hf.wX hn
    have hok : okElemB k p q (getL (widthI k q).toNat X' (j - (L'.length + 1))) = true := by
      have h2 := hf.rg
      simp [okElemB, elemB, hev, h2]
    have hu := he.unique (.inl ⟨rfl, hel.2.2, hok⟩)
    exact ⟨hu.2, hlt, hu.1⟩
  refine ⟨fun hb L' D' X' ht hs => ?_, fun hb => ⟨fun L' D' X' ht hs => ?_, fun L' D' X' ht hs => ?_⟩⟩
  · obtain ⟨-, hlt, hz⟩ := key L' D' X' ht hs
    obtain ⟨-, hL, hD, hX⟩ := (h L' D' X' ht hs).2 hlt
    refine ⟨fun hj => by omega, fun _ => ⟨rfl, hL, hD, ?_⟩⟩
    rw [show j + 1 - (L'.length + 1) = j - (L'.length + 1) + 1 from by omega, Nat.add_mul, Nat.one_mul, List.take_add, ← hX, hz]
    rfl
  · have := (key L' D' X' ht hs).1
    rw [hb] at this; cases this
  · have := (key L' D' X' ht hs).1
    rw [hb] at this; cases this
theorem match_front {L' D' X' : List Int} (h : MatchAll k p q s j false L D X) (ht : tensorB k p q L' D' X' = true) (hs : s.data.toList = fmtTen k p q L' D' X') : j ≤ L'.length ∧ L = L'.take j ∧ D = D'.take j ∧ X = [] := by
  obtain ⟨h1, h2⟩ := h L' D' X' ht hs
  by_cases hj : j ≤ L'.length
  · exact ⟨hj, (h1 hj).2⟩
  · have := (h2 (by omega)).1; cases this
/-- The sign. -/
theorem match_eq (h : MatchAll k p q s j false L D X) (hy : (wordsOf s)[j]? = some y) (he : isEq y = true) : MatchAll k p q s (j + 1) true L D X := by
  intro L' D' X' ht hs
  obtain ⟨hj, hL, hD, hX⟩ := match_front h ht hs
  have hw := (par_is ht hs).1
  have hld := ten_len ht
  rw [hw] at hy
  have hjm : j = L'.length := by
    by_cases hlt : j < L'.length
    · obtain ⟨l, hl⟩ : ∃ l, L'[j]? = some l := ⟨_, List.getElem?_eq_getElem hlt⟩
      obtain ⟨d, hd⟩ : ∃ d, D'[j]? = some d := ⟨_, List.getElem?_eq_getElem (by omega)⟩
      rw [tenWs_ax hld hl hd] at hy
      cases hy
      have h3 := (ax_word ((ten_inI ht).1 l (List.mem_of_getElem? hl)) ((ten_inI ht).2.1 d (List.mem_of_getElem? hd))).2.2.1
      rw [h3] at he; cases he
    · omega
  subst hjm
  refine ⟨fun h => by omega, fun _ => ⟨rfl, ?_, ?_, ?_⟩⟩
  · rw [hL, List.take_length]
  · rw [hD, hld, List.take_length]
  · rw [hX, Nat.sub_self, Nat.zero_mul]; rfl
/-- The word of an axis. -/
theorem match_ax {l d : Int} {b : Bool} (h : MatchAll k p q s j false L D X) (hy : (wordsOf s)[j]? = some y) (he : isEq y = false) (ha : ∀ l' d', inI l' → inI d' → y.data.toList = axW l' d' → b = true ∧ l = l' ∧ d = d') : (b = true → MatchAll k p q s (j + 1) false (L ++ [l]) (D ++ [d]) X) ∧ (b = false → ∀ L' D' X', tensorB k p q L' D' X' = true → s.data.toList ≠ fmtTen k p q L' D' X') := by
  have key : ∀ L' D' X', tensorB k p q L' D' X' = true → s.data.toList = fmtTen k p q L' D' X' → b = true ∧ j < L'.length ∧ L'[j]? = some l ∧ D'[j]? = some d := by
    intro L' D' X' ht hs
    obtain ⟨hj, hL, hD, hX⟩ := match_front h ht hs
    have hw := (par_is ht hs).1
    have hld := ten_len ht
    rw [hw] at hy
    have hlt : j < L'.length := by
      by_cases hjm : j = L'.length
      · rw [tenWs_eq hld hjm.symm] at hy
        cases hy
        cases he
      · omega
    obtain ⟨l', hl⟩ : ∃ l, L'[j]? = some l := ⟨_, List.getElem?_eq_getElem hlt⟩
    obtain ⟨d', hd⟩ : ∃ d, D'[j]? = some d := ⟨_, List.getElem?_eq_getElem (by omega)⟩
    rw [tenWs_ax hld hl hd] at hy
    cases hy
    obtain ⟨e1, e2, e3⟩ := ha l' d' ((ten_inI ht).1 l' (List.mem_of_getElem? hl)) ((ten_inI ht).2.1 d' (List.mem_of_getElem? hd)) rfl
    exact ⟨e1, hlt, by rw [e2]; exact hl, by rw [e3]; exact hd⟩
  refine ⟨fun hb L' D' X' ht hs => ?_, fun hb L' D' X' ht hs => ?_⟩
  · obtain ⟨-, hlt, h1, h2⟩ := key L' D' X' ht hs
    obtain ⟨hj, hL, hD, hX⟩ := match_front h ht hs
    refine ⟨fun _ => ⟨rfl, ?_, ?_, hX⟩, fun h => by omega⟩
    · rw [List.take_add_one, h1, hL]; rfl
    · rw [List.take_add_one, h2, hD]; rfl
  · have := (key L' D' X' ht hs).1
    rw [hb] at this; cases this
/-- All has been read. -/
theorem match_end {dt : Bool} (h : MatchAll k p q s (wordsOf s).length dt L D X) {L' D' X' : List Int} (ht : tensorB k p q L' D' X' = true) (hs : s.data.toList = fmtTen k p q L' D' X') : fmtTen k p q L D X = s.data.toList := by
  have hw := (par_is ht hs).1
  have hf := TF.of ht
  have hlen : (wordsOf s).length = L'.length + 1 + (prodL D').toNat := by rw [hw, tenWs_len hf.ax.2.1]
  obtain ⟨-, h2⟩ := h L' D' X' ht hs
  obtain ⟨-, hL, hD, hX⟩ := h2 (by omega)
  rw [hL, hD, hX, hs, hlen, show L'.length + 1 + (prodL D').toNat - (L'.length + 1) = (prodL D').toNat from by omega, ← hf.lX, List.take_length]
end
theorem not_empty {s : ByteArray} {j : Nat} {y : ByteArray} (h : (wordsOf s)[j]? = some y) : s.data.toList ≠ [] := by
  intro e
  have e2 : s = ⟨#[]⟩ := by
    apply ByteArray.ext
    apply Array.ext'
    exact e
  subst e2
  have e3 : wordsOf ⟨#[]⟩ = [] := rfl
  rw [e3] at h
  simp at h

set_option maxHeartbeats 6400000 in
theorem par_ten_spec (k p q : Int) (s : ByteArray) (w : World) (hs : s.size ≤ 1048576) :
    Calls Tryd.prog 16 #[ringV k p q, .string s] w (ParPost k p q s w) := by
  obtain ⟨w0, hw0⟩ : ∃ w0, w0 = ((w.alloc (.cells #[.int .i64 k, .int .i64 p, .int .i64 q] 26)).alloc (.cells #[nilV, nilV, nilV] 35)).alloc (.cells #[nilV, nilV, nilV] 35) := ⟨_, rfl⟩
  have S0 : Hid (Rs w w0 [(w.heap.size + 2, nilV, nilV, nilV), (w.heap.size + 1, nilV, nilV, nilV), (w.heap.size, .int .i64 k, .int .i64 p, .int .i64 q)] []) := by
    have h := (((Rs.start w).box (.int .i64 k) (.int .i64 p) (.int .i64 q) 26).box nilV nilV nilV 35).box nilV nilV nilV 35
    simp only [World.size_alloc] at h
    rw [hw0]
    exact h
  have HW0 := Lib.hid hw0
  have HWS := Lib.hid (fun (W : World) => spec_words s W hs)
  have HS := Lib.hid hs
  obtain ⟨ws, hws⟩ : ∃ x, x = wordsOf s := ⟨_, rfl⟩
  have HWE := Lib.hid hws
  have hwl := wordsOf_len s
  have hsum := words_sum s
  rw [← hws] at hwl HWS hsum
  obtain ⟨n, hn⟩ : ∃ x, x = ws.length := ⟨_, rfl⟩
  rw [← hn] at hwl
  have HN := Lib.hid hn
  have HSUM : Hid (∀ j, ((ws.take j).map fun y => y.size + 1).sum ≤ 1048577) := Lib.hid (fun j => by
    have := (sum_take (fun p => p.size + 1) ws j).1
    omega)
  have hn2 : n ≤ 1048577 := by omega
  obtain ⟨i0, hi, hz0, hz1, hz2⟩ := info_parts infoInt
  have J0 := Lib.hid hi
  have J1 := Lib.hid hz0
  have J2 := Lib.hid hz1
  have J3 := Lib.hid hz2
  clear hws hwl hn hw0 hsum hi hz0 hz1 hz2
  go_enter Tryd.func16, Tryd.ntmps16
  go_wp2_with fail
  rw [← HW0.out]
  refine (HWS.out w0).mono ?_
  rintro e w1 ⟨v, rfl, ho, hb⟩
  have R1 := Lib.hid (((RsS.words S0.out hb ho).nil.nil).nil)
  obtain ⟨pw, cw, rfl⟩ : ∃ a c, v = .slice a n c := by
    rcases (Rd.of_own ho).strs_cases with ⟨e, a, c, rfl⟩ | ⟨b, off, c, rfl, -⟩
    · exact ⟨a, c, by rw [HN.out, e]; rfl⟩
    · exact ⟨_, c, by rw [HN.out]⟩
  clear ho hb S0 HWS HW0
  go_wp2
  have H00 : Hid (([] : List Int).length = 0 ∧ ([] : List Int).length = 0 ∧ ([] : List Int).length = 0 ∧ 0 ≤ ((ws.take 0).map fun y => y.size + 1).sum) := Lib.hid ⟨rfl, rfl, rfl, Nat.zero_le _⟩
  have HA0 : Hid (allI [] ∧ allI [] ∧ allI []) := Lib.hid ⟨fun z hz => by simp at hz, fun z hz => by simp at hz, fun z hz => by simp at hz⟩
  go_loopw [7, 19] (fun f i wr => ∃ (j : Nat) (dt : Bool) (L D X : List Int) (n1 c1 n2 c2 n3 c3 : Nat) (a1 a2 a3 : Option Addr), j ≤ n ∧ i = .int .i64 j ∧ f = .bool dt ∧ n1 ≤ j ∧ n2 ≤ j ∧ n3 ≤ 1048577 ∧ Hid (L.length = n1 ∧ D.length = n2 ∧ X.length = n3 ∧ n3 ≤ ((ws.take j).map fun y => y.size + 1).sum) ∧ Hid (allI L ∧ allI D ∧ allI X) ∧ Hid (MatchAll k p q s j dt L D X) ∧ Hid (RsS w wr [(w.heap.size + 2, .slice a1 n1 c1, .slice a2 n2 c2, .slice a3 n3 c3), (w.heap.size + 1, nilV, nilV, nilV), (w.heap.size, .int .i64 k, .int .i64 p, .int .i64 q)] [(.slice a1 n1 c1, L), (.slice a2 n2 c2, D), (.slice a3 n3 c3, X)] (.slice pw n cw) ws)) (fun _ i _ => n - (intOf i).toNat)
  case atStart => exact ⟨0, false, [], [], [], 0, 0, 0, 0, 0, 0, none, none, none, by omega, rfl, rfl, by omega, by omega, by omega, H00, HA0, match_start, R1⟩
  case round =>
    clear R1
    obtain ⟨j, dt, L, D, X, n1, c1, n2, c2, n3, c3, a1, a2, a3, hj, rfl, rfl, hn1, hn2', hn3, HM, HAL, HMA, HR⟩ := hrel
    by_cases hlt : j < n
    · obtain ⟨y, hy⟩ : ∃ y, ws[j]? = some y := ⟨_, List.getElem?_eq_getElem (by rw [← HN.out]; exact hlt)⟩
      obtain ⟨gw, rfl, hgw, hcy⟩ := HR.out.at HN.out.symm hy
      have HYW : Hid ((wordsOf s)[j]? = some y) := Lib.hid (by rw [← HWE.out]; exact hy)
      have HYS : Hid (y.size ≤ 1048576) := Lib.hid (by
        have := word_small (List.mem_of_getElem? HYW.out)
        have := HS.out
        omega)
      have HY1 := Lib.hid hy
      have HNE := Lib.hid (not_empty HYW.out)
      obtain ⟨⟨o0, o1, o2⟩, f0, f1, f2⟩ := HR.out.rs.at (r := w.heap.size + 2) (a := .slice a1 n1 c1) (b := .slice a2 n2 c2) (c := .slice a3 n3 c3) (by simp)
      obtain ⟨⟨r0, r1, r2⟩, -⟩ := HR.out.rs.at (r := w.heap.size) (a := .int .i64 k) (b := .int .i64 p) (c := .int .i64 q) (by simp)
      clear hy
      cases dt with
      | true =>
        have HPE := Lib.hid (parse_elem_spec k p q y wr HYS.out)
        go_wp2_with fail
        refine HPE.out.mono ?_
        clear HPE o0 o1 o2 f0 f1 f2 r0 r1 r2 hcy
        rintro e w2 ⟨v2, zs, b, rfl, he, ho, hb⟩
        have HE := Lib.hid (match_elem HMA.out HYW.out he)
        have R2 := Lib.hid (HR.out.new hb ⟨ho, fun g hg => (ho.lt g hg).2, Nat.le_refl _⟩)
        cases b with
        | false =>
          have HPB := Lib.hid (par_no (HE.out.2 rfl).2 HNE.out)
          obtain ⟨⟨t0, t1, t2⟩, g0, g1, g2⟩ := R2.out.rs.at (r := w.heap.size + 1) (a := nilV) (b := nilV) (c := nilV) (by simp)
          go_wp2
          refine bodyPost_ret (v := .tuple #[tenV nilV nilV nilV, .bool false]) (by simp [results, Tryd.results16, go_sem, t0, t1, t2]) rfl ?_
          refine par_post_no HPB.out (NewTen2.nils ?_)
          exact (((R2.out.rs.bel.setCell (by simp) _).setCell (by simp) _).setCell (by simp) _)
        | true =>
          have HML2 := Lib.hid (HE.out.1 rfl)
          have hok : okElemB k p q zs = true := by
            rcases he with ⟨-, -, h⟩ | ⟨h, -⟩
            · exact h
            · cases h
          have hzi : allI zs := by
            rcases he with ⟨-, h, -⟩ | ⟨h, -⟩
            · exact SI.inI h
            · cases h
          have hzl : 1 ≤ zs.length ∧ zs.length ≤ y.size + 1 := by
            unfold okElemB at hok
            obtain ⟨h1, h2⟩ := Bool.and_eq_true_iff.1 hok
            have h3 : ElemV k p q zs := by simpa [elemB] using h2
            have h4 := ring_width h1
            have h5 := h3.1
            have h6 := he.len
            omega
          obtain ⟨kz, hkz⟩ : ∃ x, x = zs.length := ⟨_, rfl⟩
          obtain ⟨gz, cz, e2, hnews⟩ := own_form (R2.out.rs.own1 (v := v2) (xs := zs) (by simp)) hkz.symm (by omega)
          subst e2
          have HKZ := Lib.hid hkz
          have HNW := Lib.hid hnews
          have HZI := Lib.hid hzi
          have hnx : ((ws.take (j + 1)).map fun y => y.size + 1).sum = ((ws.take j).map fun y => y.size + 1).sum + (y.size + 1) := by
            rw [List.take_add_one, HY1.out, List.map_append, List.sum_append]; simp
          have hsm := HSUM.out (j + 1)
          have hm3 := HM.out.2.2.2
          have hb1 : n3 + kz ≤ 1048577 ∧ 1 ≤ kz ∧ n3 + kz ≤ ((ws.take (j + 1)).map fun y => y.size + 1).sum := by omega
          have HB1 := Lib.hid hb1
          have O1 := Lib.hid (R2.out.rs.row (v := .slice a3 n3 c3) (xs := X) (by simp) HM.out.2.2.1)
          obtain ⟨⟨o0, o1, o2⟩, f0, f1, f2⟩ := R2.out.rs.at (r := w.heap.size + 2) (a := .slice a1 n1 c1) (b := .slice a2 n2 c2) (c := .slice a3 n3 c3) (by simp)
          clear hok hzi hzl hkz hnews hnx hsm hm3 hb1 ho hb he HE HR
          go_wp2_with (at_builtin; go_must (refine wpList_append_lies _ rfl _ _ 24 rfl w.heap.size 3 i0 (.int .i64 0) 1 8 Tryd.underlying24 J0.out J1.out J2.out J3.out rfl (by decide) _ n3 (ints X) rfl O1.out ⟨gz, 0, none⟩ kz cz (ints zs) rfl ?c1 HNW.out (one_cells _) ?c2 ?c3 ?c4 ?c5 _ rfl ?_))
          case c1 => rw [ints_len, ← HKZ.out, Nat.mul_one]
          case c2 => exact HB1.out.2.1
          case c3 => unfold maxLen; have := HB1.out; omega
          case c4 => have := HB1.out; omega
          case c5 => exact R2.out.rs.bel.size
          intro g9 cap9 w8 hown hgrow hl1 _
          rw [← ints_append] at hown
          have h1 : (X ++ zs).length = n3 + kz := by rw [List.length_append, HM.out.2.2.1, ← HKZ.out]
          have R3 := ((R2.out.perm (rows' := [(.slice a3 n3 c3, X), (.slice (some ⟨gz, 0, none⟩) kz cz, zs), (.slice a1 n1 c1, L), (.slice a2 n2 c2, D)]) (by exact (List.perm_append_comm (l₁ := [_, _, _]) (l₂ := [_])).trans (List.Perm.refl _))).appR hown h1 hgrow hl1)
          have R4 := Lib.hid ((R3.sub (List.Sublist.cons_cons _ (List.sublist_cons_self _ _))).perm (rows' := [(.slice a1 n1 c1, L), (.slice a2 n2 c2, D), (.slice (some ⟨g9, 0, none⟩) (n3 + kz) cap9, X ++ zs)]) (List.perm_append_comm (l₁ := [_]) (l₂ := [_, _])))
          have HAL2 : Hid (allI L ∧ allI D ∧ allI (X ++ zs)) := Lib.hid ⟨HAL.out.1, HAL.out.2.1, fun z hz => (List.mem_append.1 hz).elim (HAL.out.2.2 z) (HZI.out z)⟩
          have HM2 : Hid (L.length = n1 ∧ D.length = n2 ∧ (X ++ zs).length = n3 + kz ∧ n3 + kz ≤ ((ws.take (j + 1)).map fun y => y.size + 1).sum) := Lib.hid ⟨HM.out.1, HM.out.2.1, h1, HB1.out.2.2⟩
          have hb3 := HB1.out.1
          have R5 := Lib.hid (R4.out.last (.slice (some ⟨g9, 0, none⟩) (n3 + kz) cap9))
          obtain ⟨⟨o0, o1, o2⟩, f0, f1, f2⟩ := R4.out.rs.at (r := w.heap.size + 2) (a := .slice a1 n1 c1) (b := .slice a2 n2 c2) (c := .slice a3 n3 c3) (by simp)
          clear hown hgrow hl1 h1 R3 O1 HNW
          go_wp2
          go_roundw
          case rel => exact ⟨j + 1, true, L, D, X ++ zs, n1, c1, n2, c2, n3 + kz, cap9, a1, a2, some ⟨g9, 0, none⟩, by omega, by go_num, rfl, by omega, by omega, hb3, HM2, HAL2, HML2, R5⟩
          case measure => simp [intOf]; omega
      | false =>
        by_cases heq : isEq y = true
        · have HML2 := Lib.hid (match_eq HMA.out HYW.out heq)
          have h1 : (y.data.toList == [61]) = true := heq
          have h2 : (y.toList == [61]) = true := by rw [ByteArray.toList_eq]; exact h1
          have HM2 : Hid (L.length = n1 ∧ D.length = n2 ∧ X.length = n3 ∧ n3 ≤ ((ws.take (j + 1)).map fun y => y.size + 1).sum) := Lib.hid ⟨HM.out.1, HM.out.2.1, HM.out.2.2.1, by
            have hnx : ((ws.take (j + 1)).map fun y => y.size + 1).sum = ((ws.take j).map fun y => y.size + 1).sum + (y.size + 1) := by
              rw [List.take_add_one, HY1.out, List.map_append, List.sum_append]; simp
            have := HM.out.2.2.2
            omega⟩
          clear h1
          go_wp2
          go_roundw
          case rel => exact ⟨j + 1, true, L, D, X, n1, c1, n2, c2, n3, c3, a1, a2, a3, by omega, by go_num, rfl, by omega, by omega, hn3, HM2, HAL, HML2, HR⟩
          case measure => simp [intOf]; omega
        · have heq2 : isEq y = false := by simpa using heq
          have h1 : (y.data.toList == [61]) = false := heq2
          have h2 : (y.toList == [61]) = false := by rw [ByteArray.toList_eq]; exact h1
          have HAX := Lib.hid (axis_spec y wr HYS.out)
          clear h1 heq
          go_wp2_with fail
          refine HAX.out.mono ?_
          clear HAX o0 o1 o2 f0 f1 f2 r0 r1 r2 hcy
          rintro e w2 ⟨l, d, b, rfl, il, id, ha, hb⟩
          have HE := Lib.hid (match_ax HMA.out HYW.out heq2 ha)
          have R2 := Lib.hid (HR.out.step hb)
          cases b with
          | false =>
            have HPB := Lib.hid (par_no (HE.out.2 rfl) HNE.out)
            obtain ⟨⟨t0, t1, t2⟩, g0, g1, g2⟩ := R2.out.rs.at (r := w.heap.size + 1) (a := nilV) (b := nilV) (c := nilV) (by simp)
            go_wp2
            refine bodyPost_ret (v := .tuple #[tenV nilV nilV nilV, .bool false]) (by simp [results, Tryd.results16, go_sem, t0, t1, t2]) rfl ?_
            refine par_post_no HPB.out (NewTen2.nils ?_)
            exact (((R2.out.rs.bel.setCell (by simp) _).setCell (by simp) _).setCell (by simp) _)
          | true =>
            have HML2 := Lib.hid (HE.out.1 rfl)
            have HIN := Lib.hid (And.intro il id)
            have RA := Lib.hid (R2.out.alloc (.cells #[.int .i64 l] 3))
            have O1 := Lib.hid (RA.out.rs.row (v := .slice a1 n1 c1) (xs := L) (by simp) HM.out.1)
            have hq2 : w.heap.size + 2 < w2.heap.size := (R2.out.rs.bx (w.heap.size + 2, .slice a1 n1 c1, .slice a2 n2 c2, .slice a3 n3 c3) (by simp)).lt
            have hb1 : n1 + 1 ≤ 1048578 ∧ n2 + 1 ≤ 1048578 := by omega
            obtain ⟨⟨o0, o1, o2⟩, f0, f1, f2⟩ := R2.out.rs.at (r := w.heap.size + 2) (a := .slice a1 n1 c1) (b := .slice a2 n2 c2) (c := .slice a3 n3 c3) (by simp)
            clear ha il id hb HE HR heq2 h2
            go_wp2_with (at_builtin; go_must (refine wpList_append_lies _ rfl _ _ 24 rfl w.heap.size 3 i0 (.int .i64 0) 1 8 Tryd.underlying24 J0.out J1.out J2.out J3.out rfl (by decide) _ n1 (ints L) rfl O1.out ⟨w2.heap.size, 0, none⟩ 1 1 (ints [l]) rfl rfl (cell_one_new _ _ _) (one_cells _) ?c2 ?c3 ?c4 ?c5 _ rfl ?_))
            case c2 => omega
            case c3 => unfold maxLen; omega
            case c4 => omega
            case c5 => exact RA.out.rs.bel.size
            intro g7 k7 w7 hown hgrow hl1 _
            rw [← ints_append] at hown
            have h1 : (L ++ [l]).length = n1 + 1 := by rw [List.length_append, HM.out.1]; rfl
            have R7 := Lib.hid (RA.out.appR hown h1 hgrow (by rw [World.size_alloc]; exact hl1))
            obtain ⟨⟨o0, o1, o2⟩, f0, f1, f2⟩ := R7.out.rs.at (r := w.heap.size + 2) (a := .slice a1 n1 c1) (b := .slice a2 n2 c2) (c := .slice a3 n3 c3) (by simp)
            have R8 : Hid (RsS w (w7.setCell ⟨w.heap.size + 2, 0, none⟩ (.slice (some ⟨g7, 0, none⟩) (n1 + 1) k7)) [(w.heap.size + 2, .slice (some ⟨g7, 0, none⟩) (n1 + 1) k7, .slice a2 n2 c2, .slice a3 n3 c3), (w.heap.size + 1, nilV, nilV, nilV), (w.heap.size, .int .i64 k, .int .i64 p, .int .i64 q)] [(.slice (some ⟨g7, 0, none⟩) (n1 + 1) k7, L ++ [l]), (.slice a2 n2 c2, D), (.slice a3 n3 c3, X)] (.slice (some ⟨gw, 0, none⟩) n cw) ws) := Lib.hid (R7.out.setB 0 (.slice (some ⟨g7, 0, none⟩) (n1 + 1) k7))
            have HM1 := Lib.hid h1
            clear hown hgrow hl1 h1 O1 RA R2
            have hc1 := cell_one_new (w7.setCell ⟨w.heap.size + 2, 0, none⟩ (.slice (some ⟨g7, 0, none⟩) (n1 + 1) k7)) (.int .i64 d) 3
            rw [World.size_setCell] at hc1
            have RB := Lib.hid (R8.out.alloc (.cells #[.int .i64 d] 3))
            have O1 := Lib.hid (RB.out.rs.row (v := .slice a2 n2 c2) (xs := D) (by simp) HM.out.2.1)
            have hq3 : w.heap.size + 2 < w7.heap.size := (R7.out.rs.bx (w.heap.size + 2, .slice a1 n1 c1, .slice a2 n2 c2, .slice a3 n3 c3) (by simp)).lt
            go_wp2_with (at_builtin; go_must (refine wpList_append_lies _ rfl _ _ 24 rfl w.heap.size 3 i0 (.int .i64 0) 1 8 Tryd.underlying24 J0.out J1.out J2.out J3.out rfl (by decide) _ n2 (ints D) rfl O1.out ⟨w7.heap.size, 0, none⟩ 1 1 (ints [d]) rfl rfl hc1 (one_cells _) ?c2 ?c3 ?c4 ?c5 _ rfl ?_))
            case c2 => omega
            case c3 => unfold maxLen; omega
            case c4 => omega
            case c5 => exact RB.out.rs.bel.size
            intro g9 k9 w9 hown hgrow hl1 _
            rw [← ints_append] at hown
            have h1 : (D ++ [d]).length = n2 + 1 := by rw [List.length_append, HM.out.2.1]; rfl
            have R9 := Lib.hid ((RB.out.swap.appR hown h1 hgrow (by rw [World.size_alloc, World.size_setCell]; exact hl1)).swap)
            obtain ⟨⟨o0, o1, o2⟩, f0, f1, f2⟩ := R9.out.rs.at (r := w.heap.size + 2) (a := .slice (some ⟨g7, 0, none⟩) (n1 + 1) k7) (b := .slice a2 n2 c2) (c := .slice a3 n3 c3) (by simp)
            have R10 : Hid (RsS w (w9.setCell ⟨w.heap.size + 2, 1, none⟩ (.slice (some ⟨g9, 0, none⟩) (n2 + 1) k9)) [(w.heap.size + 2, .slice (some ⟨g7, 0, none⟩) (n1 + 1) k7, .slice (some ⟨g9, 0, none⟩) (n2 + 1) k9, .slice a3 n3 c3), (w.heap.size + 1, nilV, nilV, nilV), (w.heap.size, .int .i64 k, .int .i64 p, .int .i64 q)] [(.slice (some ⟨g7, 0, none⟩) (n1 + 1) k7, L ++ [l]), (.slice (some ⟨g9, 0, none⟩) (n2 + 1) k9, D ++ [d]), (.slice a3 n3 c3, X)] (.slice (some ⟨gw, 0, none⟩) n cw) ws) := Lib.hid (R9.out.setB 1 (.slice (some ⟨g9, 0, none⟩) (n2 + 1) k9))
            have HAL2 : Hid (allI (L ++ [l]) ∧ allI (D ++ [d]) ∧ allI X) := Lib.hid ⟨fun z hz => (List.mem_append.1 hz).elim (HAL.out.1 z) (fun h => by rw [List.mem_singleton.1 h]; exact HIN.out.1), fun z hz => (List.mem_append.1 hz).elim (HAL.out.2.1 z) (fun h => by rw [List.mem_singleton.1 h]; exact HIN.out.2), HAL.out.2.2⟩
            have HM2 : Hid ((L ++ [l]).length = n1 + 1 ∧ (D ++ [d]).length = n2 + 1 ∧ X.length = n3 ∧ n3 ≤ ((ws.take (j + 1)).map fun y => y.size + 1).sum) := Lib.hid ⟨HM1.out, h1, HM.out.2.2.1, by
              have hnx : ((ws.take (j + 1)).map fun y => y.size + 1).sum = ((ws.take j).map fun y => y.size + 1).sum + (y.size + 1) := by
                rw [List.take_add_one, HY1.out, List.map_append, List.sum_append]; simp
              have := HM.out.2.2.2
              omega⟩
            clear hown hgrow hl1 h1 O1 RB R8 R7
            go_wp2
            go_roundw
            case rel => exact ⟨j + 1, false, L ++ [l], D ++ [d], X, n1 + 1, k7, n2 + 1, k9, n3, c3, some ⟨g7, 0, none⟩, some ⟨g9, 0, none⟩, a3, by omega, by go_num, rfl, by omega, by omega, hn3, HM2, HAL2, HML2, R10⟩
            case measure => simp [intOf]; omega
    · obtain rfl : j = n := by omega
      obtain ⟨⟨o0, o1, o2⟩, f0, f1, f2⟩ := HR.out.rs.at (r := w.heap.size + 2) (a := .slice a1 n1 c1) (b := .slice a2 n2 c2) (c := .slice a3 n3 c3) (by simp)
      obtain ⟨⟨r0, r1, r2⟩, -⟩ := HR.out.rs.at (r := w.heap.size) (a := .int .i64 k) (b := .int .i64 p) (c := .int .i64 q) (by simp)
      have HMA2 : Hid (∀ L' D' X', tensorB k p q L' D' X' = true → s.data.toList = fmtTen k p q L' D' X' → fmtTen k p q L D X = s.data.toList) := Lib.hid (fun L' D' X' ht hs => match_end (dt := dt) (by rw [← HWE.out, ← HN.out]; exact HMA.out) ht hs)
      have HFT := Lib.hid (fmt_ten_spec (k := k) (p := p) (q := q) (lv := .slice a1 n1 c1) (dv := .slice a2 n2 c2) (xv := .slice a3 n3 c3) (L := L) (D := D) (X := X) (w := wr) ⟨HR.out.rs.rd (by simp), HR.out.rs.rd (by simp), HR.out.rs.rd (by simp)⟩ (Nat.le_refl _) ⟨by rw [HM.out.1]; omega, by rw [HM.out.2.1]; omega, by rw [HM.out.2.2.1]; omega⟩ HAL.out.1 HAL.out.2.1 HAL.out.2.2)
      go_wp2_with fail
      refine HFT.out.mono ?_
      clear HFT o0 o1 o2 f0 f1 f2 r0 r1 r2
      rintro e w2 ⟨rfl, hb⟩
      have R2 := Lib.hid (HR.out.step hb)
      clear hb HR
      obtain ⟨⟨o0, o1, o2⟩, f0, f1, f2⟩ := R2.out.rs.at (r := w.heap.size + 2) (a := .slice a1 n1 c1) (b := .slice a2 n2 c2) (c := .slice a3 n3 c3) (by simp)
      by_cases hfs : fmtTen k p q L D X = s.data.toList
      · have hq := list_eq2 (l := fmtTen k p q L D X) (s := s) (by rw [hfs]; simp)
        by_cases h0 : s.data.toList = []
        · have HPB := Lib.hid (par_none (k := k) (p := p) (q := q) h0)
          have he : s.toList.isEmpty = true := by rw [ByteArray.toList_eq, h0]; rfl
          clear hfs h0
          obtain ⟨⟨t0, t1, t2⟩, g0, g1, g2⟩ := R2.out.rs.at (r := w.heap.size + 1) (a := nilV) (b := nilV) (c := nilV) (by simp)
          go_wp2
          refine bodyPost_ret (v := .tuple #[tenV nilV nilV nilV, .bool false]) (by simp [results, Tryd.results16, go_sem, t0, t1, t2]) rfl ?_
          refine par_post_no HPB.out (NewTen2.nils ?_)
          exact (((R2.out.rs.bel.setCell (by simp) _).setCell (by simp) _).setCell (by simp) _)
        · have HOK := Lib.hid (par_ok hfs h0)
          have he : s.toList.isEmpty = false := by
            rw [ByteArray.toList_eq, Bool.eq_false_iff]
            exact fun h => h0 (List.isEmpty_iff.1 h)
          clear hfs h0
          obtain ⟨⟨t0, t1, t2⟩, g0, g1, g2⟩ := R2.out.rs.at (r := w.heap.size + 1) (a := nilV) (b := nilV) (c := nilV) (by simp)
          go_wp2
          refine bodyPost_ret (v := .tuple #[tenV (.slice a1 n1 c1) (.slice a2 n2 c2) (.slice a3 n3 c3), .bool true]) (by simp [results, Tryd.results16, go_sem, t0, t1, t2]) rfl ?_
          refine par_post_yes HOK.out.2.1 ?_
          rw [HOK.out.2.2.1, HOK.out.2.2.2.1, HOK.out.2.2.2.2]
          have h3 := R2.out.rs.swapB.set3 (.slice a1 n1 c1) (.slice a2 n2 c2) (.slice a3 n3 c3)
          exact ⟨_, _, _, rfl, h3.ownG, h3.bel⟩
      · have hq := list_ne2 (l := fmtTen k p q L D X) (s := s) (by simpa using hfs)
        have HPB : Hid (parB k p q s = false) := Lib.hid (by
          by_cases h0 : s.data.toList = []
          · exact par_none h0
          · exact par_no (fun L' D' X' ht hs => hfs (HMA2.out L' D' X' ht hs)) h0)
        clear hfs
        obtain ⟨⟨t0, t1, t2⟩, g0, g1, g2⟩ := R2.out.rs.at (r := w.heap.size + 1) (a := nilV) (b := nilV) (c := nilV) (by simp)
        go_wp2
        refine bodyPost_ret (v := .tuple #[tenV nilV nilV nilV, .bool false]) (by simp [results, Tryd.results16, go_sem, t0, t1, t2]) rfl ?_
        refine par_post_no HPB.out (NewTen2.nils ?_)
        exact (((R2.out.rs.bel.setCell (by simp) _).setCell (by simp) _).setCell (by simp) _)
theorem par_law_spec (k p q : Int) (s : ByteArray) (w : World) (hs : s.size ≤ 1048576) :
    Calls Tryd.prog 16 #[ringV k p q, .string s] w (NewTen2 w (if parB k p q s = true then parL s else []) (if parB k p q s = true then parD s else []) (if parB k p q s = true then parX s else []) (parB k p q s)) := par_ten_spec k p q s w hs
theorem par_law_impl (k p q : Int) (s : ByteArray) (w : World) (hs : s.size ≤ 1048576) (hv : LibVars w) :
    Calls Tryd.prog 17 #[ringV k p q, .string s] w (NewTen2 w (if parB k p q s = true then parL s else []) (if parB k p q s = true then parD s else []) (if parB k p q s = true then parX s else []) (parB k p q s)) := par_ten_impl k p q s w hs hv
theorem par_if_len {b : Bool} {L : List Int} {n : Nat} (h : L.length ≤ n + 1) (hn : n ≤ 1048576) : (if b = true then L else []).length ≤ 17592186044416 := by
  split
  · omega
  · simp
end Go.Proofs.YtceidekfcnmeaaaDoor
