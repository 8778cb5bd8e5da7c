
/- spec.ParseElem. -/
import Derived.Test.YtceidekfcnmeaaaDoorElemText
namespace Go.Proofs.YtceidekfcnmeaaaDoor
set_option maxRecDepth 20000
open Go.RowKit

set_option maxHeartbeats 3200000 in
theorem parse_elem_spec (rk p n : Int) (s : ByteArray) (w : World) (hs : s.size ≤ 1048576) :
    Calls Tryd.prog 35 #[ringV rk p n, .string s] w (ElemTPost rk p n s w) := by
  obtain ⟨i0, hi, hz0, hz1, hz2⟩ := info_parts infoInt
  have J0 := Lib.hid hi
  have J1 := Lib.hid hz0
  have J2 := Lib.hid hz1
  have J3 := Lib.hid hz2
  have HS := Lib.hid hs
  obtain ⟨W, hW⟩ : ∃ W, W = w.alloc (.cells (ringC rk p n) 26) := ⟨_, rfl⟩
  have I0 : Hid (Inv w W w.heap.size rk p n) := Lib.hid (by rw [hW]; exact Inv.box w rk p n _)
  have HWW : Hid (w.heap.size ≤ W.heap.size) := Lib.hid (by rw [hW]; simp)
  have HW2 : Hid (W.heap.size = w.heap.size + 1) := Lib.hid (by rw [hW]; simp)
  have HWE := Lib.hid hW
  clear hi hz0 hz1 hz2 hW
  go_enter Tryd.func35, Tryd.ntmps35
  go_wp2
  rw [← HWE.out, ← HW2.out]
  clear HWE HW2
  go_loopw [6, 7, 8] (fun v f i wr => ∃ (k a : Nat) (ps : List ByteArray) (zs : List Int), k ≤ s.size + 1 ∧ a ≤ k ∧ zs.length ≤ k ∧ i = .int .i64 k ∧ f = .int .i64 a ∧ Hid (k ≤ s.size → pst s 44 k = (ps, a) ∧ ps.map pv = zs.map some) ∧ Hid (k = s.size + 1 → (parts s 44).map pv = zs.map some) ∧ Hid (wr.ownsRow W.heap.size 3 1 v zs.length (ints zs)) ∧ Hid (Below W.heap.size W wr)) (fun _ _ i _ => s.size + 1 - (intOf i).toNat)
  case atStart => exact ⟨0, 0, [], [], by omega, by omega, by simp, rfl, rfl, fun _ => ⟨rfl, rfl⟩, fun h => by omega, World.ownsRow_made W #[] 0 (Nat.le_refl _) (by unfold maxLen; omega) rfl, (Below.refl _ _).alloc (Nat.le_refl _) _⟩
  case round =>
    obtain ⟨k, a, ps, zs, hk1, hk2, hk3, rfl, rfl, HP, HE, HO, HB⟩ := hrel
    by_cases hke : k = s.size + 1
    · subst hke
      have E : Hid ((parts s 44).map pv = zs.map some) := HE.out rfl
      have HSI : Hid (SI 44 s zs true) := .inl ⟨rfl, E.out⟩
      have IE := Lib.hid (I0.out.step HB.out)
      have HRE := Lib.hid (Rd.of_own HO.out)
      have hl2 : zs.length ≤ 281474976710656 := by have := HS.out; omega
      have hcall := elem_ok_spec (k := rk) (p := p) (n := n) HRE.out (Nat.le_refl _) hl2
      obtain ⟨c0, c1, c2⟩ := IE.out.cells
      cases hok : okElemB rk p n zs with
      | false =>
        rw [hok] at hcall
        have HCALL := Lib.hid hcall
        have HF := Lib.hid (elem_bad HSI.out hok)
        clear hl2 hcall hok
        go_wp2_with fail
        refine HCALL.out.mono ?_
        rintro e w2 ⟨rfl, hb2⟩
        have I2 := Lib.hid (IE.out.step hb2)
        clear hb2
        go_wp2
        go_ret2
        exact elem_mk _ [] false rfl HF.out (World.ownsRow_nil _ _ _ _) I2.out.1
      | true =>
        rw [hok] at hcall
        have HCALL := Lib.hid hcall
        have HF : Hid (ElemAtT rk p n s zs true) := .inl ⟨rfl, HSI.out, hok⟩
        clear hl2 hcall hok
        go_wp2_with fail
        refine HCALL.out.mono ?_
        rintro e w2 ⟨rfl, hb2⟩
        have I2 := Lib.hid (IE.out.step hb2)
        have HO2 := Lib.hid ((ownb HO.out hb2).mono HWW.out)
        clear hb2
        go_wp2
        go_ret2
        exact elem_mk _ zs true rfl HF.out HO2.out I2.out.1
    · have HP1 := Lib.hid (HP.out (by omega))
      have hkl : k ≤ s.size := by omega
      -- the last part and the parts that a space ends are met alike
      by_cases hgap : k = s.size ∨ ∃ h : k < s.size, s[k].toNat = 44
      · have hmem : s.extract a k ∈ parts s 44 := by
          rcases hgap with rfl | ⟨h, hc⟩
          · unfold parts; rw [HP1.out.1]; simp
          · exact part_mem HP1.out.1 h hc
        have hnext : ∀ z, pv (s.extract a k) = some z → (k + 1 ≤ s.size → pst s 44 (k + 1) = (ps ++ [s.extract a k], k + 1) ∧ (ps ++ [s.extract a k]).map pv = (zs ++ [z]).map some) ∧ (k + 1 = s.size + 1 → (parts s 44).map pv = (zs ++ [z]).map some) := by
          intro z hz
          have e : (ps ++ [s.extract a k]).map pv = (zs ++ [z]).map some := by
            rw [List.map_append, List.map_append, HP1.out.2, List.map_singleton, List.map_singleton, hz]
          refine ⟨fun h => ⟨?_, e⟩, fun h => ?_⟩
          · rcases hgap with h' | ⟨h', hc⟩
            · omega
            · rw [pst_hit h' hc, HP1.out.1]
          · obtain rfl : k = s.size := by omega
            unfold parts; rw [HP1.out.1]; exact e
        have HM := Lib.hid hmem
        have HN := Lib.hid hnext
        have hsz : (s.extract a k).size ≤ 281474976710656 := by rw [ByteArray.size_extract]; omega
        have HSZ := Lib.hid hsz
        clear hmem hnext hsz
        rcases hgap with hgap | ⟨hlt, hc⟩
        · have hq2 : ((k : Int) == (s.size : Int)) = true := by simp [hgap]
          have hge : s.size ≤ k := by omega
          clear hgap
          have HZ := Lib.hid HB.out.size
          go_wp2_with fail
          refine (spec_parse (s.extract a k) wr HSZ.out).mono ?_
          rintro e w1 ⟨he, hb1⟩
          have HO1 := Lib.hid (ownb HO.out hb1)
          have HB1 := Lib.hid (HB.out.trans (hb1.mono HB.out.size))
          clear hb1
          rcases he.val with ⟨z, hz, hp, rfl⟩ | ⟨hp, rfl⟩
          · have HNX := Lib.hid (HN.out z hp)
            have HZ1 := Lib.hid HB1.out.size
            clear he hz hp
            go_wp2_with (at_builtin; go_must (refine wpList_append_own _ rfl _ _ 24 rfl W.heap.size 3 i0 (.int .i64 0) 1 8 Tryd.underlying24 J0.out J1.out J2.out J3.out rfl (by decide) _ _ _ rfl (HO1.out.alloc _) ⟨w1.heap.size, 0, none⟩ 1 1 [.int .i64 z] rfl rfl (cell_one_new _ _ _) ?ca2 ?ca3 ?ca4 ?ca5 ?_))
            case ca2 => first | rfl | (intro u hu; simp at hu; subst hu; rfl)
            case ca3 => unfold maxLen; omega
            case ca4 => omega
            case ca5 => have := HZ1.out; simp; omega
            intro v' w4 hown4 hgrow4 _
            have HO4 := Lib.hid hown4
            have HB4 := Lib.hid ((HB1.out.alloc HB1.out.size _).grown hgrow4 (by have := HZ1.out; simp; omega) (fun g hg => (HO1.out.lt g hg).1))
            clear hown4 hgrow4
            go_wp2
            go_roundw
            case rel => exact ⟨k + 1, k + 1, ps ++ [s.extract a k], zs ++ [z], by omega, by omega, by rw [List.length_append, List.length_singleton]; omega, by go_num, by go_num, HNX.out.1, HNX.out.2, by have h := HO4.out; rw [ints_app] at h; show World.ownsRow _ _ _ _ _ _ _; rw [List.length_append, List.length_singleton]; exact h, HB4.out⟩
            case measure => simp [intOf]; omega
          · have HPN := Lib.hid hp
            clear he hp
            go_wp2
            go_ret2
            exact elem_mk _ [] false rfl (elem_fail (zs := []) (.inr ⟨rfl, rfl, _, HM.out, HPN.out⟩)) (World.ownsRow_nil _ _ _ _) (I0.out.step HB1.out).1
        · have hq2 : ((k : Int) == (s.size : Int)) = false := by simp; omega
          have hq : ((s[k].toNat : Int) == 44) = true := by simp [hc]
          clear hc
          have HZ := Lib.hid HB.out.size
          go_wp2_with fail
          refine (spec_parse (s.extract a k) wr HSZ.out).mono ?_
          rintro e w1 ⟨he, hb1⟩
          have HO1 := Lib.hid (ownb HO.out hb1)
          have HB1 := Lib.hid (HB.out.trans (hb1.mono HB.out.size))
          clear hb1
          rcases he.val with ⟨z, hz, hp, rfl⟩ | ⟨hp, rfl⟩
          · have HNX := Lib.hid (HN.out z hp)
            have HZ1 := Lib.hid HB1.out.size
            clear he hz hp
            go_wp2_with (at_builtin; go_must (refine wpList_append_own _ rfl _ _ 24 rfl W.heap.size 3 i0 (.int .i64 0) 1 8 Tryd.underlying24 J0.out J1.out J2.out J3.out rfl (by decide) _ _ _ rfl (HO1.out.alloc _) ⟨w1.heap.size, 0, none⟩ 1 1 [.int .i64 z] rfl rfl (cell_one_new _ _ _) ?cb2 ?cb3 ?cb4 ?cb5 ?_))
            case cb2 => first | rfl | (intro u hu; simp at hu; subst hu; rfl)
            case cb3 => unfold maxLen; omega
            case cb4 => omega
            case cb5 => have := HZ1.out; simp; omega
            intro v' w4 hown4 hgrow4 _
            have HO4 := Lib.hid hown4
            have HB4 := Lib.hid ((HB1.out.alloc HB1.out.size _).grown hgrow4 (by have := HZ1.out; simp; omega) (fun g hg => (HO1.out.lt g hg).1))
            clear hown4 hgrow4
            go_wp2
            go_roundw
            case rel => exact ⟨k + 1, k + 1, ps ++ [s.extract a k], zs ++ [z], by omega, by omega, by rw [List.length_append, List.length_singleton]; omega, by go_num, by go_num, HNX.out.1, HNX.out.2, by have h := HO4.out; rw [ints_app] at h; show World.ownsRow _ _ _ _ _ _ _; rw [List.length_append, List.length_singleton]; exact h, HB4.out⟩
            case measure => simp [intOf]; omega
          · have HPN := Lib.hid hp
            clear he hp
            go_wp2
            go_ret2
            exact elem_mk _ [] false rfl (elem_fail (zs := []) (.inr ⟨rfl, rfl, _, HM.out, HPN.out⟩)) (World.ownsRow_nil _ _ _ _) (I0.out.step HB1.out).1
      · have hlt : k < s.size := by
          rcases Nat.lt_or_ge k s.size with h | h
          · exact h
          · exact absurd (.inl (by omega)) hgap
        have hc : s[k].toNat ≠ 44 := fun h => hgap (.inr ⟨hlt, h⟩)
        have hq : ((s[k].toNat : Int) == 44) = false := by simp; omega
        have hq2 : ((k : Int) == (s.size : Int)) = false := by simp; omega
        have h2 : pst s 44 (k + 1) = (ps, a) := by rw [pst_miss hlt hc, HP1.out.1]
        have H2 := Lib.hid h2
        clear hgap hc h2
        go_wp2
        go_roundw
        case rel => exact ⟨k + 1, a, ps, zs, by omega, by omega, by omega, by go_num, rfl, fun _ => ⟨H2.out, HP1.out.2⟩, fun h => by omega, HO.out, HB.out⟩
        case measure => simp [intOf]; omega

end Go.Proofs.YtceidekfcnmeaaaDoor
