
/- slices.Grow of nil, slices.Concat. -/
import Derived.Test.YtceidekfcnmeaaaGreatPermSpec
import Derived.Test.YtceidekfcnmeaaaGreatAppZero
import Derived.Test.YtceidekfcnmeaaaGreatAxes
import Derived.Test.YtceidekfcnmeaaaGreatElem
import Derived.Lib.AppendZerosOnto
namespace Go.Proofs.YtceidekfcnmeaaaGreat
set_option maxRecDepth 20000
open Go.RowKit

/-- Memory that is given, then nothing. -/
theorem grow_zero (w : World) : Calls Tryz.prog 82 #[.slice none 0 0, .int .i64 0] w fun e w' => e = .returned nilV ∧ w = w' := by
  go_enter Tryz.func82, Tryz.ntmps82
  go_wp2
  go_ret
  exact ⟨rfl, rfl⟩
set_option maxHeartbeats 800000 in
theorem grow_some (n : Nat) (w : World) (h0 : 0 < n) (h1 : n ≤ 4194304) : Calls Tryz.prog 82 #[.slice none 0 0, .int .i64 n] w (NewRow w []) := by
  obtain ⟨i0, hi, hz0, hz1, hz2⟩ := info_parts infoInt
  have hw1 : wrap64 ((n : Int) - 0) = (n : Int) := by unfold wrap64; omega
  have hgt : (n : Int) > 0 := by omega
  have hrun : ∀ ty, (Builtin.append_ #[26, 3] ty #[.slice none 0 0, .int .i64 (n : Int)]).run Tryz.prog w = .ok (.slice (some ⟨w.heap.size, 0, none⟩) (0 + n) (grownCap w (0 + n) 0 3)) (w.drew.alloc (.cells (#[] ++ Builtin.zeroCells (Value.int .i64 0).cells n ++ Builtin.zeroCells (Value.int .i64 0).cells (grownCap w (0 + n) 0 3 - (0 + n))) 3)) := fun ty =>
    Lib.run_append_grow_zeros w 26 3 ty 3 i0 (.int .i64 0) .i64 .i64 Tryz.underlying26 Tryz.underlying3 hi hz0 none 0 0 [] (by rw [hz1]; exact run_firstCells_none w.drew 1 0 0 0) n h0 (by rw [hz1]; exact Nat.one_pos) (by omega) (by omega) (by rw [hz2]; omega) (by rw [hz2]; unfold Builtin.nextslicecap; split <;> omega)
  obtain ⟨c, hc⟩ : ∃ c, c = grownCap w (0 + n) 0 3 := ⟨_, rfl⟩
  have hcn : n ≤ c := by have := grownCap_ge w (0 + n) 0 3; omega
  have hcm : c ≤ maxLen := by rw [hc]; exact grownCap_le_maxLen _ _ _ _ (by unfold maxLen; omega)
  rw [← hc] at hrun
  obtain ⟨Z, hZ⟩ : ∃ Z, Z = Builtin.zeroCells #[Value.int .i64 0] n ++ Builtin.zeroCells #[Value.int .i64 0] (c - n) := ⟨_, rfl⟩
  have hm := World.ownsRow_made (base := w.heap.size) (e := 3) (size := 1) w Z c (Nat.le_refl _) hcm (by rw [hZ]; simp [size_zeroCells]; omega)
  have RES : Hid (NewRow w [] (.returned (.slice (some ⟨w.heap.size, 0, none⟩) 0 c)) (w.alloc (.cells Z 3)).drew) := Lib.hid (by
    have h2 : World.ownsRow (w.alloc (.cells Z 3)).drew w.heap.size 3 1 (.slice (some ⟨w.heap.size, 0, none⟩) 0 c) 0 (ints []) := hm
    exact ⟨_, rfl, Own.of h2 rfl, ((Below.refl w.heap.size w).alloc (Nat.le_refl _) _).drew⟩)
  have HR := Lib.hid hrun
  rw [hZ] at RES
  clear hi hz0 hz1 hz2 hm hc hcn hcm hZ
  go_enter Tryz.func82, Tryz.ntmps82
  go_wp2_with (at_builtin; refine Lib.wpList_append_run _ rfl _ _ _ _ rfl _ _ rfl rfl _ _ (HR.out _) ?_)
  go_ret
  exact RES.out
/-- What rows are together. -/
def catL (rows : List (List Int)) : List Int := rows.flatten
theorem cat_step {rows : List (List Int)} {j : Nat} {x : List Int} (h : rows[j]? = some x) : catL (rows.take j) ++ x = catL (rows.take (j + 1)) := by
  unfold catL; rw [List.take_add_one, h, List.flatten_append]; simp
theorem cat_all {rows : List (List Int)} {j : Nat} (h : rows.length ≤ j) : catL (rows.take j) = catL rows := by rw [List.take_of_length_le h]
theorem cat_le {rows : List (List Int)} (j : Nat) : (catL (rows.take j)).length ≤ (catL rows).length := by
  have h := congrArg List.length (show catL (rows.take j) ++ catL (rows.drop j) = catL rows by unfold catL; rw [← List.flatten_append, List.take_append_drop])
  rw [List.length_append] at h
  omega
/-- One of the rows that are read. -/
theorem RdRows.one_at {B m cap : Nat} {w : World} {p : Option Addr} {rows : List (List Int)} {j : Nat} {x : List Int} (h : RdRows B w (.slice p m cap) rows) (hj : rows[j]? = some x) : ∃ b off a c, p = some ⟨b, off, none⟩ ∧ w.cell? ⟨b, off + j, none⟩ = some (.slice a x.length c) ∧ Rd B w (.slice a x.length c) (ints x) := by
  obtain ⟨vs, h1, h2, h3⟩ := h
  obtain ⟨hl, e⟩ := List.getElem?_eq_some_iff.1 hj
  obtain ⟨u, hu, hr⟩ := h3 j hl
  rw [e] at hr
  obtain ⟨a, c, rfl, -⟩ := ints_form hr
  rcases h1 with ⟨h0, -⟩ | ⟨b, off, ca, ev, -, -, hc⟩
  · rw [h0] at hu; simp at hu
  · cases ev
    exact ⟨b, off, a, c, rfl, hc j _ hu, hr⟩
theorem RdRows.form {B : Nat} {w : World} {v : Value} {rows : List (List Int)} (h : RdRows B w v rows) : ∃ a cap, v = .slice a rows.length cap := by
  obtain ⟨vs, h1, h2, -⟩ := h
  rcases h1 with ⟨h0, a, cap, rfl⟩ | ⟨b, off, cap, rfl, -⟩
  · rw [h0] at h2
    exact ⟨a, cap, by rw [← h2]; rfl⟩
  · exact ⟨_, cap, by rw [h2]⟩
theorem grow_any (n : Nat) (w : World) (h1 : n ≤ 4194304) : Calls Tryz.prog 82 #[.slice none 0 0, .int .i64 n] w (NewRow w []) := by
  rcases Nat.eq_zero_or_pos n with rfl | h0
  · exact (grow_zero w).mono fun e w' ⟨he, hw⟩ => by subst hw; exact ⟨_, he, Own.nil w _, Below.refl _ _⟩
  · exact grow_some n w h0 h1

set_option maxHeartbeats 3200000 in
theorem concat_full {B n cap : Nat} {p : Option Addr} {rows : List (List Int)} {w : World} (h : RdRows B w (.slice p n cap) rows) (hB : B ≤ w.heap.size) (hnn : rows.length = n) (hn : n ≤ 1024) (hs : (catL rows).length ≤ 4194304) :
    Calls Tryz.prog 43 #[.slice p n cap] w (NewRow w (catL rows)) := by
  have HR0 := Lib.hid h
  have HB := Lib.hid hB
  have HN := Lib.hid hnn
  have HS := Lib.hid hs
  obtain ⟨i0, hi, hz0, hz1, hz2⟩ := info_parts infoInt
  have J0 := Lib.hid hi
  have J1 := Lib.hid hz0
  have J2 := Lib.hid hz1
  have J3 := Lib.hid hz2
  clear h hB hnn hs hi hz0 hz1 hz2
  go_enter Tryz.func43, Tryz.ntmps43
  go_wp2
  go_loopw [3, 11] (fun s i wr => ∃ j t : Nat, j ≤ n ∧ i = .int .i64 j ∧ s = .int .i64 t ∧ Hid (t = (catL (rows.take j)).length) ∧ w = wr) (fun _ i _ => n - (intOf i).toNat)
  case atStart => exact ⟨0, 0, by omega, rfl, rfl, by show 0 = _; simp [catL], rfl⟩
  case round =>
    obtain ⟨j, t, hj, rfl, rfl, HT, rfl⟩ := hrel
    have ht4 : t ≤ 4194304 := by have h1 := cat_le (rows := rows) j; have h2 := HS.out; have h3 := HT.out; omega
    by_cases hlt : j < n
    · obtain ⟨x, hx⟩ : ∃ x, rows[j]? = some x := ⟨_, List.getElem?_eq_getElem (by rw [HN.out]; exact hlt)⟩
      obtain ⟨b, off, a, c, rfl, e1, -⟩ := HR0.out.one_at hx
      have h1 := congrArg List.length (cat_step hx)
      rw [List.length_append, ← HT.out] at h1
      obtain ⟨m, hm⟩ : ∃ m, m = x.length := ⟨_, rfl⟩
      rw [← hm] at e1 h1
      have HT1 := Lib.hid h1
      have h4 : t + m ≤ 4194304 := by have h2 := cat_le (rows := rows) (j + 1); have h3 := HS.out; omega
      have hw1 : wrap64 ((t : Int) + (m : Int)) = ((t + m : Nat) : Int) := by unfold wrap64; omega
      have hw2 : ¬ (((t + m : Nat) : Int) < 0) := by omega
      clear hx h1 hm
      go_wp2
      go_roundw
      case rel => exact ⟨j + 1, t + m, by omega, by go_num, rfl, HT1, trivial⟩
      case measure => simp [intOf]; omega
    · obtain rfl : j = n := by omega
      have HG := Lib.hid (grow_any t w (by omega))
      clear HT
      go_wp2_with fail
      refine HG.out.mono ?_
      clear HG
      rintro e w1 ⟨v, rfl, ho, hb⟩
      have R1 : Hid (Rs w w1 [] [(v, catL (rows.take 0))]) := Lib.hid ((Rs.start w).new hb ho)
      obtain ⟨a0, c0, rfl, -⟩ := ints_form ho.rd
      clear hb ho
      go_wp2
      go_loopw [6, 27] (fun u i wr => ∃ (j2 nn ca : Nat) (ga : Option Addr), j2 ≤ j ∧ i = .int .i64 j2 ∧ u = .slice ga nn ca ∧ nn ≤ 4194304 ∧ Hid ((catL (rows.take j2)).length = nn) ∧ Hid (Rs w wr [] [(.slice ga nn ca, catL (rows.take j2))])) (fun _ i _ => j - (intOf i).toNat)
      case atStart => exact ⟨0, 0, c0, a0, by omega, rfl, rfl, by omega, by show _ = 0; simp [catL], R1⟩
      case round =>
        clear R1
        obtain ⟨j2, nn, ca, ga, hj2, rfl, rfl, hnn, HNN, HR⟩ := hrel
        by_cases hlt2 : j2 < j
        · obtain ⟨x, hx⟩ : ∃ x, rows[j2]? = some x := ⟨_, List.getElem?_eq_getElem (by rw [HN.out]; exact hlt2)⟩
          obtain ⟨b, off, a, c, rfl, e1, hrd⟩ := (HR0.out.below HR.out.bel HB.out).one_at hx
          have HCS := Lib.hid (cat_step hx)
          have h1 := congrArg List.length (cat_step hx)
          rw [List.length_append, HNN.out] at h1
          obtain ⟨m, hm⟩ : ∃ m, m = x.length := ⟨_, rfl⟩
          have h4 : nn + m ≤ 4194304 := by have h2 := cat_le (rows := rows) (j2 + 1); have h3 := HS.out; omega
          rw [← hm] at e1 h1 hrd
          have HX1 := Lib.hid h1.symm
          have HXM := Lib.hid hm
          have HRD := Lib.hid hrd
          have O1 := Lib.hid (HR.out.row (List.mem_cons_self) HNN.out : World.ownsRow _ w.heap.size 3 1 (.slice ga nn ca) nn (ints (catL (rows.take j2))))
          clear hx h1 hm hrd
          by_cases hm0 : m = 0
          · subst hm0
            have hx0 : x = [] := List.length_eq_zero_iff.1 HXM.out.symm
            have E3 : Hid (catL (rows.take j2) = catL (rows.take (j2 + 1))) := Lib.hid (by rw [← HCS.out, hx0, List.append_nil])
            clear hx0
            go_wp2_with (at_builtin; go_must (refine wpList_append_zero rfl _ _ 26 rfl w.heap.size 3 i0 1 Tryz.underlying26 J0.out _ nn c _ _ rfl O1.out rfl ?_))
            go_roundw
            case rel => exact ⟨j2 + 1, nn, ca, ga, by omega, by go_num, rfl, by omega, by rw [← E3.out]; exact HNN, by rw [← E3.out]; exact HR⟩
            case measure => simp [intOf]; omega
          · obtain ⟨b2, off2, rfl, hc2⟩ : ∃ b2 off2, a = some ⟨b2, off2, none⟩ ∧ ∀ i (h : i < x.length), wr.cell? ⟨b2, off2 + i, none⟩ = some (.int .i64 x[i]) := by
              rcases HRD.out.ints_cases with ⟨h0, -⟩ | ⟨b2, off2, c2, ev, -, -, hc⟩
              · rw [h0] at HXM; have := HXM.out; simp at this; omega
              · cases ev; exact ⟨b2, off2, rfl, hc⟩
            have HNW := Lib.hid (news_at hc2)
            clear hc2
            go_wp2_with (at_builtin; go_must (refine wpList_append_lies _ rfl _ _ 26 rfl w.heap.size 3 i0 (.int .i64 0) 1 8 Tryz.underlying26 J0.out J1.out J2.out J3.out rfl (by decide) _ nn (ints (catL (rows.take j2))) rfl O1.out ⟨b2, off2, none⟩ m c (ints x) rfl ?c1 HNW.out (one_cells _) ?c2 ?c3 ?c4 ?c5 _ rfl ?_))
            case c1 => rw [ints_len, HXM.out, Nat.mul_one]
            case c2 => omega
            case c3 => unfold maxLen; omega
            case c4 => omega
            case c5 => exact HR.out.bel.size
            intro g1 cap1 w3 hown hgrow hl1 _
            rw [← ints_append] at hown
            have h11 := HR.out.app hown (by rw [List.length_append, HNN.out, HXM.out]) hgrow hl1
            rw [HCS.out] at h11
            have R3 := Lib.hid h11
            clear hown hgrow hl1 h11 O1 e1
            go_wp2
            go_roundw
            case rel => exact ⟨j2 + 1, nn + m, cap1, _, by omega, by go_num, rfl, by omega, HX1, R3⟩
            case measure => simp [intOf]; omega
        · obtain rfl : j2 = j := by omega
          have E1 : Hid (catL (rows.take j2) = catL rows) := Lib.hid (cat_all (by rw [HN.out]; exact Nat.le_refl _))
          rw [E1.out] at HR
          go_wp2
          go_ret
          exact ⟨_, rfl, HR.out.own1 (v := .slice ga nn ca) (by simp), HR.out.bel⟩
theorem concat_any {B : Nat} {v : Value} {rows : List (List Int)} {w : World} (h : RdRows B w v rows) (hB : B ≤ w.heap.size) (hn : rows.length ≤ 1024) (hs : (catL rows).length ≤ 4194304) :
    Calls Tryz.prog 43 #[v] w (NewRow w (catL rows)) := by
  obtain ⟨a, cap, rfl⟩ := h.form
  exact concat_full h hB rfl hn hs
theorem concat_two {B : Nat} {v : Value} {xs ys : List Int} {w : World} (h : RdRows B w v [xs, ys]) (hB : B ≤ w.heap.size) (hs : xs.length + ys.length ≤ 4194304) :
    Calls Tryz.prog 43 #[v] w (NewRow w (xs ++ ys)) := by
  have h1 := concat_any h hB (by simp) (by simpa [catL] using hs)
  have e : catL [xs, ys] = xs ++ ys := by simp [catL]
  rw [e] at h1
  exact h1
end Go.Proofs.YtceidekfcnmeaaaGreat
