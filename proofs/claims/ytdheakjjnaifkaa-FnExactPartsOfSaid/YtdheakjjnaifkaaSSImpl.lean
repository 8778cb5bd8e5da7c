
/- impl.PartsOf. -/
import Derived.Test.YtdheakjjnaifkaaPartsImpl
import Derived.Test.YtdheakjjnaifkaaPartsSpec
namespace Go.Proofs.Ytdheakjjnaifkaa
set_option maxRecDepth 20000
open Go.RowKit

set_option maxHeartbeats 6400000 in
theorem parts_of_full {B n cap m co : Nat} {pa po : Option Addr} {k p q : Int} {ts : List TenE} {O : List Int} {w : World} (ha : RdTs B w (.slice pa n cap) ts) (ho : Rd B w (.slice po m co) (ints O)) (hB : B ≤ w.heap.size) (hn : ts.length = n) (hl : LenTs ts) (hI : ∀ t ∈ ts, allI t.1) (hm : O.length = m) (hmm : m ≤ 1048576) (hJ : allI O) :
    Calls Try.prog 33 #[netV k p q (.slice pa n cap) (.slice po m co)] w (NewSS w (partsR k p q ts O)) := by
  obtain ⟨i1, hy0, hy1, hy2, hy3⟩ := info_parts infoInts
  have I0 := Lib.hid hy0
  have I1 := Lib.hid hy1
  have I2 := Lib.hid hy2
  have I3 := Lib.hid hy3
  obtain ⟨yl, hyl⟩ : ∃ y, y = partsR k p q ts O := ⟨_, rfl⟩
  rw [← hyl]
  have HYL := Lib.hid hyl
  clear hyl
  obtain ⟨w1, hw1⟩ : ∃ W, W = w.alloc (.cells #[.int .i64 k, .int .i64 p, .int .i64 q, .slice pa n cap, .slice po m co] 33) := ⟨_, rfl⟩
  have hb1 : Below w.heap.size w w1 := by rw [hw1]; exact (Below.refl _ _).alloc (Nat.le_refl _) _
  have hc : w1.cell? ⟨w.heap.size, 0, none⟩ = some (.int .i64 k) ∧ w1.cell? ⟨w.heap.size, 1, none⟩ = some (.int .i64 p) ∧ w1.cell? ⟨w.heap.size, 2, none⟩ = some (.int .i64 q) ∧ w1.cell? ⟨w.heap.size, 3, none⟩ = some (.slice pa n cap) ∧ w1.cell? ⟨w.heap.size, 4, none⟩ = some (.slice po m co) := by rw [hw1]; simp
  have HK := Lib.hid (check_full (k := k) (p := p) (q := q) (w := w1) ((ha.below hb1 hB).mono (Nat.le_trans hB hb1.size)) ((ho.below hb1 hB).mono (Nat.le_trans hB hb1.size)) (Nat.le_refl _) hn hl hI hm hmm hJ)
  have HTS0 := Lib.hid (ha.mono hB)
  have HB1 := Lib.hid hb1
  have HW1 := Lib.hid hw1
  have HN := Lib.hid hn
  obtain ⟨c0, c1, c2, c3, c4⟩ := hc
  clear ha ho hB hn hl hI hm hmm hJ hb1 hw1 hy0 hy1 hy2 hy3
  go_enter Try.func33, Try.ntmps33
  go_upto_region 1 with fail
  rw [← HW1.out]
  clear HW1
  go_wp2_with fail
  refine HK.out.mono ?_
  clear HK c0 c1 c2 c3 c4
  rintro e w2 (⟨hv, g, a, b, rfl, hg, ⟨k0, k1, k2, k3, k4, k5, k6⟩, hab, hne, hb2⟩ | ⟨hnv, rfl, hb2⟩)
  · have HV := Lib.hid hv
    have HB2 := Lib.hid (HB1.out.trans (hb2.mono HB1.out.size))
    have HPI := Lib.hid (parts_impl (g := g) (w := w2) ((HTS0.out.below HB2.out (Nat.le_refl _)).mono HB2.out.size) k3 HN.out (by rw [← HN.out]; exact hv.2.1) hv.2.2.1.ax)
    clear hv hab hne hb2 k0 k1 k2 k3 k4 k5 k6 hg
    go_wp2_with fail
    refine HPI.out.mono ?_
    rintro e w3 ⟨v3, sets, rfl, ho3, hp3, hl3, hb3⟩
    obtain ⟨z, hz⟩ : ∃ z, z = sets.length := ⟨_, rfl⟩
    rw [← hz] at ho3
    obtain ⟨asl, cs, rfl⟩ : ∃ a c, v3 = .slice a z c := by
      rcases ho3.2 with ⟨rfl, h0⟩ | ⟨g, cap, cur, rfl, -⟩
      · exact ⟨none, 0, by rw [h0]⟩
      · exact ⟨_, _, rfl⟩
    have HZ := Lib.hid hz
    have HO3 := Lib.hid ho3
    have HP3 := Lib.hid hp3
    have HL3 := Lib.hid hl3
    have HB3 := Lib.hid (HB2.out.trans (hb3.mono HB2.out.size))
    have hz12 : z ≤ 12 := by
      have h1 := congrArg List.length hp3
      rw [List.length_map] at h1
      have h2 := partsL_len ts
      have h3 := HV.out.2.1
      omega
    have RE : Hid (RsE 25 w3 w3 ([] : List RowE) (.slice none 0 0) (([] : List RowE).map (·.1))) := Lib.hid (RsE.start (Rs.start w3))
    clear hz ho3 hp3 hl3 hb3 HPI
    go_wp2
    go_loopw [4, 14] (fun u i wr => ∃ (j : Nat) (us : List RowE) (go : Option Addr) (cr : Nat), j ≤ z ∧ u = .slice go j cr ∧ i = .int .i64 j ∧ Hid (us.length = j) ∧ Hid (us.map (·.2) = (sets.take j).map (fun s => bitsTo s 12)) ∧ Hid (RsE 25 w3 wr us (.slice go j cr) (us.map (·.1)))) (fun _ i _ => z - (intOf i).toNat)
    case atStart => exact ⟨0, [], none, 0, by omega, rfl, rfl, Lib.hid rfl, Lib.hid rfl, RE⟩
    case round =>
      clear RE
      obtain ⟨j, us, go, cr, hj, rfl, rfl, HU, HM, HR⟩ := hrel
      by_cases hlt : j < z
      · obtain ⟨s, S1⟩ : ∃ s, Hid (sets[j]? = some s) := ⟨_, List.getElem?_eq_getElem (by rw [← HZ.out]; exact hlt)⟩
        have hs4 : s < 4096 := HL3.out s (List.mem_of_getElem? S1.out)
        obtain ⟨gs, rfl, hgs⟩ : ∃ g, asl = some ⟨g, 0, none⟩ ∧ g < w3.heap.size := by
          rcases HO3.out.2 with ⟨-, h0⟩ | ⟨g, c', cur, e, hl, -⟩
          · omega
          · injection e with e
            subst e
            exact ⟨g, rfl, (HO3.out.lt g rfl).2⟩
        have c1 : wr.cell? ⟨gs, j, none⟩ = some (.int .u64 (s : Int)) := by
          rw [HR.out.rs.bel.cell (p := ⟨gs, j, none⟩) hgs, HO3.out.cellAt j (by omega), List.getElem?_map, S1.out]; rfl
        have HIX := Lib.hid (indices_impl s wr (by omega))
        obtain ⟨xs, hxs⟩ : ∃ l, l = bitsTo s 12 := ⟨_, rfl⟩
        have HXS := Lib.hid hxs
        rw [← hxs] at HIX
        clear hxs
        go_wp2_with fail
        refine HIX.out.mono ?_
        rintro e w4 ⟨v4, rfl, o4, hb4⟩
        have R4 := Lib.hid (HR.out.new hb4 o4)
        obtain ⟨a4, d4, rfl, -⟩ := ints_form o4.rd
        obtain ⟨y, hy⟩ : ∃ y, y = xs.length := ⟨_, rfl⟩
        rw [← hy] at R4 ⊢
        obtain ⟨cl, hcl⟩ : ∃ cl : List Value, cl = us.map (·.1) := ⟨_, rfl⟩
        rw [← hcl] at R4
        have HCL := Lib.hid hcl
        have HU0 : Hid (cl.length = j) := Lib.hid (by rw [hcl, List.length_map, HU.out])
        have A5 := Lib.hid (R4.out.alloc (.cells #[.slice a4 y d4] 25))
        have O5 := Lib.hid (A5.out.row HU0.out)
        have HU2 : Hid ((us ++ [((.slice a4 y d4, xs) : RowE)]).length = j + 1) := Lib.hid (by rw [List.length_append, HU.out]; rfl)
        have HM2 : Hid ((us ++ [((.slice a4 y d4, xs) : RowE)]).map (·.2) = (sets.take (j + 1)).map (fun s => bitsTo s 12)) := Lib.hid (by
          rw [List.take_add_one, S1.out, List.map_append, List.map_append, HM.out, HXS.out]; rfl)
        clear hb4 o4 hy hcl HIX HR R4 c1
        go_wp2_with (at_builtin; go_must (refine wpList_append_lies _ rfl _ _ 46 rfl w3.heap.size 25 i1 (.slice none 0 0) 1 24 Try.underlying46 I0.out I1.out I2.out I3.out rfl (by decide) _ j cl rfl O5.out ⟨w4.heap.size, 0, none⟩ 1 1 [.slice a4 y d4] rfl rfl (cell_one_new _ _ _) ?c2 (by decide) ?c3 ?c4 ?c5 _ rfl ?_))
        case c2 => first | rfl | (intro u hu; simp at hu; subst hu; rfl)
        case c3 => unfold maxLen; omega
        case c4 => omega
        case c5 => exact A5.out.rs.bel.size
        intro g1 cap1 w5 hown hgrow hl1 _
        have hR5 := A5.out.app HU0.out hown hgrow (by rw [World.size_alloc]; exact hl1)
        have R6 : Hid (RsE 25 w3 w5 (us ++ [((.slice a4 y d4, xs) : RowE)]) (.slice (some ⟨g1, 0, none⟩) (j + 1) cap1) ((us ++ [((.slice a4 y d4, xs) : RowE)]).map (·.1))) := Lib.hid (by
          rw [List.map_append, ← HCL.out]
          refine hR5.perm ?_
          exact (List.perm_append_singleton _ _).symm)
        clear hown hgrow hl1 hR5 A5 O5
        go_wp2
        go_roundw
        case rel => exact ⟨j + 1, us ++ [(.slice a4 y d4, xs)], some ⟨g1, 0, none⟩, cap1, by omega, rfl, by go_num, HU2, HM2, R6⟩
        case measure => simp [intOf]; omega
      · obtain rfl : z = j := by omega
        have hfin : us.map (·.2) = yl := by rw [HM.out, List.take_of_length_le (by rw [← HZ.out]; exact Nat.le_refl _), HP3.out, HYL.out, parts_yes HV.out]
        have HF := Lib.hid hfin
        have BB := Lib.hid (HB3.out.trans (HR.out.rs.bel.mono HB3.out.size))
        have RS := Lib.hid HR.out.ss
        clear hfin
        go_wp2
        go_ret
        exact ⟨_, us, rfl, HF.out, RS.out.wide HB3.out.size, BB.out⟩
  · have hbe := HB1.out.trans (hb2.mono HB1.out.size)
    have HF : Hid (yl = []) := Lib.hid (by rw [HYL.out]; exact parts_no hnv)
    clear hb2
    go_wp2
    go_ret
    rw [HF.out]
    exact NewSS.nil hbe
end Go.Proofs.Ytdheakjjnaifkaa
