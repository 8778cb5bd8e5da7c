
/- slices.Index at texts, impl.intsIn, impl.takeTurns. -/
import Derived.Test.YtceidekfcnmeaaaDoorParTen
import Derived.Test.YtceidekfcnmeaaaDoorImplParse
import Derived.Test.YtceidekfcnmeaaaDoorAppZero
namespace Go.Proofs.YtceidekfcnmeaaaDoor
set_option maxRecDepth 20000
open Go.RowKit

theorem eqIx_hit {ws : List ByteArray} {j : Nat} {x : ByteArray} (hx : ws[j]? = some x) (he : isEq x = true) (h : ∀ (i : Nat) (y : ByteArray), i < j → ws[i]? = some y → isEq y = false) : eqIx ws = j := by
  have hj := (List.getElem?_eq_some_iff.1 hx).1
  unfold eqIx
  refine (List.findIdx_eq hj).2 ⟨?_, fun i hi => ?_⟩
  · rw [(List.getElem?_eq_some_iff.1 hx).2]; exact he
  · exact h i _ hi (List.getElem?_eq_getElem (by omega))
theorem eqIx_none {ws : List ByteArray} (h : ∀ (i : Nat) (y : ByteArray), i < ws.length → ws[i]? = some y → isEq y = false) : eqIx ws = ws.length := by
  unfold eqIx
  refine List.findIdx_eq_length.2 fun y hy => ?_
  obtain ⟨i, hi⟩ := List.getElem?_of_mem hy
  exact h i y (List.getElem?_eq_some_iff.1 hi).1 hi
/-- Where the index is found. -/
def eqAt (ws : List ByteArray) : Int := if eqIx ws < ws.length then (eqIx ws : Int) else -1

set_option maxHeartbeats 800000 in
theorem index_eq_full (b off cap n : Nat) (ws : List ByteArray) (w : World) (hw : ws.length = n) (hn : n ≤ 70368744177664)
    (hc : ∀ i (h : i < ws.length), w.cell? ⟨b, off + i, none⟩ = some (.string ws[i])) :
    Calls Tryd.prog 38 #[.slice (some ⟨b, off, none⟩) n cap, .string ⟨#[61]⟩] w fun e w' => e = .returned (.int .i64 (eqAt ws)) ∧ w = w' := by
  have HC := Lib.hid hc
  have HN := Lib.hid hw
  clear hc hw
  go_enter Tryd.func38, Tryd.ntmps38
  go_wp2
  go_loop [8] (fun i => ∃ j : Nat, j ≤ n ∧ i = .int .i64 j ∧ Hid (∀ (i : Nat) (y : ByteArray), i < j → ws[i]? = some y → isEq y = false)) (fun i => n - (intOf i).toNat)
  case atStart => exact ⟨0, by omega, rfl, fun i y h => by omega⟩
  case round =>
    obtain ⟨j, hj, rfl, HF⟩ := hrel
    by_cases hlt : j < n
    · obtain ⟨x, c1, X1⟩ := strs_cell HN.out HC.out hlt
      cases he : isEq x with
      | true =>
        have h1 : (([61] : List UInt8) == x.data.toList) = true := by unfold isEq at he; rw [eq_of_beq he]; rfl
        have h2 : (([61] : List UInt8) == x.toList) = true := by rw [ByteArray.toList_eq]; exact h1
        have HX := Lib.hid (eqIx_hit X1.out he HF.out)
        go_wp2
        go_ret
        exact ⟨by unfold eqAt; rw [HX.out, HN.out, if_pos hlt]; rfl, rfl⟩
      | false =>
        have h1 : (([61] : List UInt8) == x.data.toList) = false := by
          unfold isEq at he
          refine beq_eq_false_iff_ne.2 fun e => ?_
          rw [← e] at he
          exact absurd he (by decide)
        have h2 : (([61] : List UInt8) == x.toList) = false := by rw [ByteArray.toList_eq]; exact h1
        have HX : Hid (∀ (i : Nat) (y : ByteArray), i < j + 1 → ws[i]? = some y → isEq y = false) := Lib.hid (fun i y hi hy => by
          by_cases e : i = j
          · subst e
            rw [X1.out] at hy
            cases hy
            exact he
          · exact HF.out i y (by omega) hy)
        go_wp2
        go_round
        case rel => exact ⟨j + 1, by omega, by go_num, HX⟩
        case measure => simp [intOf]; omega
    · obtain rfl : j = n := by omega
      have HX := Lib.hid (eqIx_none (ws := ws) (fun i y hi hy => HF.out i y (by rw [← HN.out]; exact hi) hy))
      go_wp2
      go_ret
      exact ⟨by unfold eqAt; rw [HX.out, if_neg (Nat.lt_irrefl _)]; rfl, rfl⟩
theorem index_eq_none (a : Option Addr) (cap : Nat) (w : World) :
    Calls Tryd.prog 38 #[.slice a 0 cap, .string ⟨#[61]⟩] w fun e w' => e = .returned (.int .i64 (-1)) ∧ w = w' := by
  go_enter Tryd.func38, Tryd.ntmps38
  go_wp2
  go_loop [8] (fun i => i = .int .i64 0) (fun _ => 0)
  case atStart => rfl
  case round =>
    obtain rfl := hrel
    go_wp2
    go_ret
    exact ⟨rfl, rfl⟩
theorem index_eq {B : Nat} {v : Value} {ws : List ByteArray} {w : World} (h : Rd B w v (strs ws)) (hn : ws.length ≤ 70368744177664) :
    Calls Tryd.prog 38 #[v, .string ⟨#[61]⟩] w fun e w' => e = .returned (.int .i64 (eqAt ws)) ∧ w = w' := by
  rcases h.strs_cases with ⟨rfl, a, ca, rfl⟩ | ⟨b, off, ca, rfl, -, -, hc⟩
  · exact index_eq_none a ca w
  · exact index_eq_full b off ca _ ws w rfl hn hc

set_option maxHeartbeats 3200000 in
theorem ints_in {B c n cap : Nat} {a : Option Addr} {ws : List ByteArray} {w : World} (h : Rd B w (.slice a n cap) (strs ws)) (hw : ws.length = n) (hB : B ≤ w.heap.size) (hn : n ≤ 1048577) (hc : c < 128) (hs : ∀ y ∈ ws, y.size ≤ 1048576) (hl : (intsW c ws).length ≤ 4194304) (hv : LibVars w) :
    Calls Tryd.prog 40 #[.slice a n cap, .int .i32 c] w (NewRow w (intsW c ws)) := by
  obtain ⟨i0, hi, hz0, hz1, hz2⟩ := info_parts infoInt
  have J0 := Lib.hid hi
  have J1 := Lib.hid hz0
  have J2 := Lib.hid hz1
  have J3 := Lib.hid hz2
  have HR0 := Lib.hid h
  have HW := Lib.hid hw
  have HB := Lib.hid hB
  have HS := Lib.hid hs
  have HL := Lib.hid hl
  have HV := Lib.hid hv
  clear h hw hB hs hl hv hi hz0 hz1 hz2
  go_enter Tryd.func40, Tryd.ntmps40
  go_wp2
  go_loopw [5, 12] (fun u i wr => ∃ (j m cg : Nat) (ag : Option Addr), j ≤ n ∧ i = .int .i64 j ∧ u = .slice ag m cg ∧ Hid ((intsW c (ws.take j)).length = m) ∧ Hid (Rs w wr [] [(.slice ag m cg, intsW c (ws.take j))])) (fun _ i _ => n - (intOf i).toNat)
  case atStart => exact ⟨0, 0, 0, none, by omega, rfl, rfl, Lib.hid (by simp [intsW]), (Rs.start w).nil⟩
  case round =>
    obtain ⟨j, m, cg, ag, hj, rfl, rfl, HM, HR⟩ := hrel
    by_cases hlt : j < n
    · obtain ⟨y, hy⟩ : ∃ y, ws[j]? = some y := ⟨_, List.getElem?_eq_getElem (by rw [HW.out]; exact hlt)⟩
      obtain ⟨b, off, rfl, hb, hcell⟩ : ∃ b off, a = some ⟨b, off, none⟩ ∧ b < B ∧ w.cell? ⟨b, off + j, none⟩ = some (.string y) := by
        rcases HR0.out.strs_cases with ⟨e, -⟩ | ⟨b, off, ca, e, hb, -, hc⟩
        · rw [e] at hy; simp at hy
        · cases e
          have := hc j (by rw [HW.out]; exact hlt)
          rw [(List.getElem?_eq_some_iff.1 hy).2] at this
          exact ⟨b, off, rfl, hb, this⟩
      have c1 : wr.cell? ⟨b, off + j, none⟩ = some (.string y) := (HR.out.bel.cell (p := ⟨b, off + j, none⟩) (Nat.lt_of_lt_of_le hb HB.out)).trans hcell
      have HNX := Lib.hid (intsW_next (c := c) hy)
      have HTO : Hid ((intsW c (ws.take (j + 1))).length ≤ 4194304) := Lib.hid (by
        have h1 : intsW c ws = intsW c (ws.take (j + 1)) ++ intsW c (ws.drop (j + 1)) := by unfold intsW; rw [← List.flatMap_append, List.take_append_drop]
        have h2 := HL.out
        rw [h1, List.length_append] at h2
        omega)
      have HSP := Lib.hid (splits_any c y wr hc (HS.out y (List.mem_of_getElem? hy)) (HV.out.below HR.out.bel))
      clear hy hcell hb
      go_wp2_with fail
      refine HSP.out.mono ?_
      clear HSP
      rintro e w2 ⟨v, zs, b2, rfl, hsi, ho, hb2⟩
      obtain rfl := siL_of hsi
      obtain ⟨z, hz⟩ : ∃ z, z = siL c y := ⟨_, rfl⟩
      rw [← hz] at ho HNX
      have R2 := Lib.hid (HR.out.new hb2 ⟨ho, fun g hg => (ho.lt g hg).2, Nat.le_refl _⟩)
      obtain ⟨a2, c2, rfl, -⟩ := ints_form (Rd.of_own ho)
      obtain ⟨k, hk⟩ : ∃ k, k = z.length := ⟨_, rfl⟩
      rw [← hk] at R2 ⊢
      have HK := Lib.hid hk
      have HLT : Hid (m + k ≤ 4194304) := Lib.hid (by
        have h1 := HTO.out
        rw [HNX.out, List.length_append, HM.out, ← HK.out] at h1
        exact h1)
      have O1 := Lib.hid (R2.out.row (v := .slice ag m cg) (xs := intsW c (ws.take j)) (by simp) HM.out)
      clear hz hk ho hb2 hsi c1 HR
      by_cases hk0 : k = 0
      · subst hk0
        have hz0 : z = [] := List.length_eq_zero_iff.1 HK.out.symm
        rw [hz0, List.append_nil] at HNX
        have R3 := Lib.hid (R2.out.sub (List.sublist_cons_self _ _))
        clear hz0
        go_wp2_with (at_builtin; go_must (refine wpList_append_zero rfl _ _ 24 rfl w.heap.size 3 i0 1 Tryd.underlying24 J0.out _ m c2 _ _ rfl O1.out rfl ?_))
        go_roundw
        case rel => exact ⟨j + 1, m, cg, ag, by omega, by go_num, rfl, by rw [HNX.out]; exact HM, by rw [HNX.out]; exact R3⟩
        case measure => simp [intOf]; omega
      · obtain ⟨gz, hgz, hnews⟩ : ∃ gz, a2 = some ⟨gz, 0, none⟩ ∧ ∀ i u, (ints z)[i]? = some u → w2.cell? ((⟨gz, 0, none⟩ : Addr).add i) = some u := by
          obtain ⟨gz, cz, e, hnews⟩ := own_form (R2.out.own1 (v := .slice a2 k c2) (xs := z) (by simp)) HK.out.symm (by omega)
          cases e
          exact ⟨gz, rfl, hnews⟩
        subst hgz
        have HNW := Lib.hid hnews
        clear hnews
        go_wp2_with (at_builtin; go_must (refine wpList_append_lies _ rfl _ _ 24 rfl w.heap.size 3 i0 (.int .i64 0) 1 8 Tryd.underlying24 J0.out J1.out J2.out J3.out rfl (by decide) _ m (ints (intsW c (ws.take j))) rfl O1.out ⟨gz, 0, none⟩ k c2 (ints z) rfl ?c1 HNW.out (one_cells _) ?c2 ?c3 ?c4 ?c5 _ rfl ?_))
        case c1 => rw [ints_len, ← HK.out, Nat.mul_one]
        case c2 => omega
        case c3 => unfold maxLen; have := HLT.out; omega
        case c4 => have := HLT.out; omega
        case c5 => exact R2.out.bel.size
        intro g1 cap1 w8 hown hgrow hl1 _
        rw [← ints_append] at hown
        have h1 : (intsW c (ws.take j) ++ z).length = m + k := by rw [List.length_append, HM.out, ← HK.out]
        have happ := (R2.out.swap.app hown h1 hgrow hl1).sub (List.Sublist.cons_cons _ (List.sublist_cons_self _ _))
        rw [← HNX.out] at happ h1
        have R9 := Lib.hid happ
        have M9 := Lib.hid h1
        clear hown hgrow hl1 happ O1 HNW h1
        go_wp2
        go_roundw
        case rel => exact ⟨j + 1, m + k, cap1, some ⟨g1, 0, none⟩, by omega, by go_num, rfl, M9, R9⟩
        case measure => simp [intOf]; omega
    · obtain rfl : j = n := by omega
      have e : ws.take j = ws := List.take_of_length_le (by rw [HW.out]; exact Nat.le_refl _)
      rw [e] at HR
      go_wp2
      go_ret
      exact ⟨_, rfl, HR.out.own1 (v := .slice ag m cg) (by simp), HR.out.bel⟩

/-- What two rows are answered. -/
def TwoRows (w : World) (xs ys : List Int) (e : Ending) (w' : World) : Prop := ∃ u v, e = .returned (.tuple #[u, v]) ∧ Rs w w' [] [(u, xs), (v, ys)]
set_option maxHeartbeats 3200000 in
theorem turns_full {B n cap : Nat} {a : Option Addr} {l : List Int} {w : World} (h : Rd B w (.slice a n cap) (ints l)) (hl : l.length = n) (hB : B ≤ w.heap.size) (hn : n ≤ 4194304) :
    Calls Tryd.prog 39 #[.slice a n cap] w (TwoRows w (evK 0 l) (odK 0 l)) := by
  obtain ⟨i0, hi, hz0, hz1, hz2⟩ := info_parts infoInt
  have J0 := Lib.hid hi
  have J1 := Lib.hid hz0
  have J2 := Lib.hid hz1
  have J3 := Lib.hid hz2
  have HR0 := Lib.hid h
  have HW := Lib.hid hl
  have HB := Lib.hid hB
  clear h hl hB hi hz0 hz1 hz2
  go_enter Tryd.func39, Tryd.ntmps39
  go_wp2
  go_loopw [2, 3, 8] (fun u v i wr => ∃ (j m1 m2 c1 c2 : Nat) (a1 a2 : Option Addr), j ≤ n ∧ m1 ≤ j ∧ m2 ≤ j ∧ i = .int .i64 j ∧ u = .slice a1 m1 c1 ∧ v = .slice a2 m2 c2 ∧ Hid ((evK 0 (l.take j)).length = m1 ∧ (odK 0 (l.take j)).length = m2) ∧ Hid (Rs w wr [] [(.slice a1 m1 c1, evK 0 (l.take j)), (.slice a2 m2 c2, odK 0 (l.take j))])) (fun _ _ i _ => n - (intOf i).toNat)
  case atStart => exact ⟨0, 0, 0, 0, 0, none, none, by omega, by omega, by omega, rfl, rfl, rfl, Lib.hid ⟨rfl, rfl⟩, (Rs.start w).nil.nil⟩
  case round =>
    obtain ⟨j, m1, m2, k1, k2, a1, a2, hj, hm1, hm2, rfl, rfl, rfl, HM, HR⟩ := hrel
    by_cases hlt : j < n
    · obtain ⟨x, hx⟩ : ∃ x, l[j]? = some x := ⟨_, List.getElem?_eq_getElem (by rw [HW.out]; exact hlt)⟩
      obtain ⟨b, off, rfl, hb, hcell⟩ := HR0.out.cellAt hx
      have c1 : wr.cell? ⟨b, off + j, none⟩ = some (.int .i64 x) := (HR.out.bel.cell (p := ⟨b, off + j, none⟩) (Nat.lt_of_lt_of_le hb HB.out)).trans hcell
      have HE := Lib.hid (ev_next hx)
      have HO := Lib.hid (od_next hx)
      have RA := Lib.hid (HR.out.alloc (.cells #[.int .i64 x] 3))
      have e2 : (j : Int).tmod 2 = ((j % 2 : Nat) : Int) := (Int.ofNat_tmod j 2).symm
      clear hx hb hcell
      by_cases h2 : j % 2 = 0
      · rw [h2] at e2
        rw [if_pos h2] at HE HO
        rw [List.append_nil] at HO
        have O1 := Lib.hid (RA.out.row (v := .slice a1 m1 k1) (xs := evK 0 (l.take j)) (by simp) HM.out.1)
        clear h2 HR
        go_wp2_with (at_builtin; go_must (refine wpList_append_lies _ rfl _ _ 24 rfl w.heap.size 3 i0 (.int .i64 0) 1 8 Tryd.underlying24 J0.out J1.out J2.out J3.out rfl (by decide) _ m1 (ints (evK 0 (l.take j))) rfl O1.out ⟨wr.heap.size, 0, none⟩ 1 1 (ints [x]) rfl rfl (cell_one_new _ _ _) (one_cells _) ?c2 ?c3 ?c4 ?c5 _ rfl ?_))
        case c2 => omega
        case c3 => unfold maxLen; omega
        case c4 => omega
        case c5 => exact RA.out.bel.size
        intro g1 cap1 w8 hown hgrow hl1 _
        rw [← ints_append] at hown
        have h1 : (evK 0 (l.take j) ++ [x]).length = m1 + 1 := by rw [List.length_append, HM.out.1]; rfl
        have R9 := Lib.hid (RA.out.app hown h1 hgrow (by rw [World.size_alloc]; exact hl1))
        rw [← HE.out, ← HO.out] at R9
        rw [← HE.out] at h1
        have M9 : Hid ((evK 0 (l.take (j + 1))).length = m1 + 1 ∧ (odK 0 (l.take (j + 1))).length = m2) := Lib.hid ⟨h1, by rw [HO.out]; exact HM.out.2⟩
        clear hown hgrow hl1 O1 h1 RA HE HO
        go_wp2
        go_roundw
        case rel => exact ⟨j + 1, m1 + 1, m2, cap1, k2, some ⟨g1, 0, none⟩, a2, by omega, by omega, by omega, by go_num, rfl, rfl, M9, R9⟩
        case measure => simp [intOf]; omega
      · have h3 : j % 2 = 1 := by omega
        rw [h3] at e2
        rw [if_neg h2] at HE HO
        rw [List.append_nil] at HE
        have O1 := Lib.hid (RA.out.row (v := .slice a2 m2 k2) (xs := odK 0 (l.take j)) (by simp) HM.out.2)
        clear h2 h3 HR
        go_wp2_with (at_builtin; go_must (refine wpList_append_lies _ rfl _ _ 24 rfl w.heap.size 3 i0 (.int .i64 0) 1 8 Tryd.underlying24 J0.out J1.out J2.out J3.out rfl (by decide) _ m2 (ints (odK 0 (l.take j))) rfl O1.out ⟨wr.heap.size, 0, none⟩ 1 1 (ints [x]) rfl rfl (cell_one_new _ _ _) (one_cells _) ?c2 ?c3 ?c4 ?c5 _ rfl ?_))
        case c2 => omega
        case c3 => unfold maxLen; omega
        case c4 => omega
        case c5 => exact RA.out.bel.size
        intro g1 cap1 w8 hown hgrow hl1 _
        rw [← ints_append] at hown
        have h1 : (odK 0 (l.take j) ++ [x]).length = m2 + 1 := by rw [List.length_append, HM.out.2]; rfl
        have R9 := Lib.hid (RA.out.swap.app hown h1 hgrow (by rw [World.size_alloc]; exact hl1)).swap
        rw [← HE.out, ← HO.out] at R9
        rw [← HO.out] at h1
        have M9 : Hid ((evK 0 (l.take (j + 1))).length = m1 ∧ (odK 0 (l.take (j + 1))).length = m2 + 1) := Lib.hid ⟨by rw [HE.out]; exact HM.out.1, h1⟩
        clear hown hgrow hl1 O1 h1 RA HE HO
        go_wp2
        go_roundw
        case rel => exact ⟨j + 1, m1, m2 + 1, k1, cap1, a1, some ⟨g1, 0, none⟩, by omega, by omega, by omega, by go_num, rfl, rfl, M9, R9⟩
        case measure => simp [intOf]; omega
    · obtain rfl : j = n := by omega
      have e : l.take j = l := List.take_of_length_le (by rw [HW.out]; exact Nat.le_refl _)
      rw [e] at HR
      go_wp2
      go_ret2
      exact ⟨_, _, rfl, HR.out⟩
end Go.Proofs.YtceidekfcnmeaaaDoor
