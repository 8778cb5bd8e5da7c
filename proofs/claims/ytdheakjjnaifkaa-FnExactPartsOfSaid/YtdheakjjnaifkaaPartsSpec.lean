
/- spec.PartsOf. -/
import Derived.Test.YtdheakjjnaifkaaPartsImpl
import Derived.Test.YtdheakjjnaifkaaNbrSpec
namespace Go.Proofs.Ytdheakjjnaifkaa
set_option maxRecDepth 20000
open Go.RowKit

def fL (n : Nat) (f : Nat → Nat) : List Int := (List.range n).map fun a => (f a : Int)
theorem fL_len (n : Nat) (f : Nat → Nat) : (fL n f).length = n := by simp [fL]
theorem fL_at {n a : Nat} (f : Nat → Nat) (h : a < n) : (fL n f)[a]? = some (f a : Int) := by simp [fL, h]
theorem fL_congr {n : Nat} {f g : Nat → Nat} (h : ∀ a, a < n → f a = g a) : fL n f = fL n g := by
  unfold fL
  exact List.map_congr_left fun a ha => by rw [h a (List.mem_range.1 ha)]
theorem fL_snoc (n : Nat) (f : Nat → Nat) : fL n f ++ [(f n : Int)] = fL (n + 1) f := by simp [fL, List.range_succ]
theorem fL_set {n j : Nat} (f : Nat → Nat) (v : Nat) : (fL n f).set j (v : Int) = fL n (fun a => if a = j then v else f a) := by
  apply List.ext_getElem?
  intro a
  by_cases ha : a < n
  · rw [fL_at _ ha]
    by_cases e : a = j
    · subst e
      rw [List.getElem?_set_self (by rw [fL_len]; exact ha), if_pos rfl]
    · rw [List.getElem?_set_ne (fun h => e h.symm), fL_at _ ha, if_neg e]
  · rw [List.getElem?_eq_none (by rw [List.length_set, fL_len]; omega), List.getElem?_eq_none (by rw [fL_len]; omega)]
def midF (f : Nat → Nat) (s t j a : Nat) : Nat := if a < j then mergeF f s t a else f a
theorem mid_zero (n : Nat) (f : Nat → Nat) (s t : Nat) : fL n (midF f s t 0) = fL n f := fL_congr fun a _ => by simp [midF]
theorem mid_full (n : Nat) (f : Nat → Nat) (s t : Nat) : fL n (midF f s t n) = fL n (mergeF f s t) := fL_congr fun a ha => by simp [midF, ha]
theorem mid_yes {n j : Nat} {f : Nat → Nat} {s t : Nat} (h : f j = s) : fL n (fun a => if a = j then t else midF f s t j a) = fL n (midF f s t (j + 1)) := fL_congr fun a _ => by
  by_cases e : a = j
  · subst e
    rw [if_pos rfl]
    simp [midF, mergeF, h]
  · rw [if_neg e]
    have : a < j + 1 ↔ a < j := by omega
    simp [midF, this]
theorem mid_no {n j : Nat} {f : Nat → Nat} {s t : Nat} (h : f j ≠ s) : fL n (midF f s t j) = fL n (midF f s t (j + 1)) := fL_congr fun a _ => by
  by_cases e : a = j
  · subst e
    simp [midF, mergeF, h]
  · have : a < j + 1 ↔ a < j := by omega
    simp [midF, this]
theorem mid_at {f : Nat → Nat} {s t j : Nat} : midF f s t j j = f j := by simp [midF]
/-- The members of a part that are below j. -/
def memL (f : Nat → Nat) (r j : Nat) : List Int := ((List.range j).filter fun a => decide (f a = r)).map fun i : Nat => (i : Int)
theorem memL_yes {f : Nat → Nat} {r j : Nat} (h : f j = r) : memL f r j ++ [(j : Int)] = memL f r (j + 1) := by
  unfold memL
  rw [List.range_succ, List.filter_append, List.map_append]
  simp [h]
theorem memL_no {f : Nat → Nat} {r j : Nat} (h : f j ≠ r) : memL f r j = memL f r (j + 1) := by
  unfold memL
  rw [List.range_succ, List.filter_append, List.map_append]
  simp [h]
theorem memL_len (f : Nat → Nat) (r j : Nat) : (memL f r j).length ≤ j := by
  unfold memL
  rw [List.length_map]
  exact Nat.le_trans (List.length_filter_le _ _) (by simp)
open Classical in
theorem memL_part {ts : List TenE} {f : Nat → Nat} (h : PInv ts ts.length 0 f) {r : Nat} (hr : r < ts.length) (hh : HeadT ts r) : memL f r ts.length = partL ts r := by
  unfold memL partL
  congr 1
  exact List.filter_congr fun a ha => by
    have := h.mem hr hh (List.mem_range.1 ha)
    rw [Bool.eq_iff_iff, decide_eq_true_eq, decide_eq_true_eq]; exact this
theorem memL_none {ts : List TenE} {f : Nat → Nat} (h : PInv ts ts.length 0 f) {r : Nat} (hr : r < ts.length) (hh : ¬ HeadT ts r) : memL f r ts.length = [] := by
  unfold memL
  rw [List.map_eq_nil_iff, List.filter_eq_nil_iff]
  intro a ha e
  exact h.none hr hh (List.mem_range.1 ha) (of_decide_eq_true e)
theorem memL_some {ts : List TenE} {f : Nat → Nat} (h : PInv ts ts.length 0 f) {r : Nat} (hr : r < ts.length) (hh : HeadT ts r) : 0 < (memL f r ts.length).length := by
  have h1 : (r : Int) ∈ memL f r ts.length := by
    unfold memL
    refine List.mem_map.2 ⟨r, List.mem_filter.2 ⟨List.mem_range.2 hr, ?_⟩, rfl⟩
    exact decide_eq_true ((h.head hr).2 hh)
  exact List.length_pos_of_mem h1
theorem infoInts : (Try.prog.info? 25).map (fun i => (i.zero, i.size, i.bytes)) = some (some (.slice none 0 0), 1, 24) := by kernel_rfl
open Classical in
noncomputable def partsR (k p q : Int) (ts : List TenE) (O : List Int) : List (List Int) := if NetOk k p q ts O then partsL ts else []
open Classical in
theorem parts_yes {k p q : Int} {ts : List TenE} {O : List Int} (h : NetOk k p q ts O) : partsR k p q ts O = partsL ts := if_pos h
open Classical in
theorem parts_no {k p q : Int} {ts : List TenE} {O : List Int} (h : ¬ NetOk k p q ts O) : partsR k p q ts O = [] := if_neg h
theorem NewSS.nil {w w' : World} (h : Below w.heap.size w w') : NewSS w [] (.returned (.slice none 0 0)) w' :=
  ⟨_, [], rfl, rfl, ⟨World.ownsRow_nil _ _ _ _, ⟨by simp, List.Pairwise.nil⟩, fun g hg => by simp [Value.ownBlock] at hg, Nat.le_refl _⟩, h⟩
set_option maxHeartbeats 6400000 in
theorem parts_of_spec {B B' : Nat} {tv ov : Value} {k p q : Int} {ts : List TenE} {O : List Int} {w : World} (h : RdTs B w tv ts) (ho : Rd B' w ov (ints O)) (hcap : ∀ a n c, tv = .slice a n c → n ≤ c) (hB : B ≤ w.heap.size) (hB' : B' ≤ w.heap.size) (hn : LenTs ts) (hO : O.length ≤ 1048576) :
    Calls Try.prog 32 #[netV k p q tv ov] w (NewSS w (partsR k p q ts O)) := by
  obtain ⟨i0, hi0, hz0, hz1, hz2⟩ := info_parts infoInt
  have J0 := Lib.hid hi0
  have J1 := Lib.hid hz0
  have J2 := Lib.hid hz1
  have J3 := Lib.hid hz2
  obtain ⟨i1, hy0, hy1, hy2, hy3⟩ := info_parts infoInts
  have I0 := Lib.hid hy0
  have I1 := Lib.hid hy1
  have I2 := Lib.hid hy2
  have I3 := Lib.hid hy3
  obtain ⟨a, cap, rfl⟩ := h.form
  obtain ⟨ao, co, rfl, -⟩ := ints_form ho
  obtain ⟨W0, hW0⟩ : ∃ V, V = w.alloc (.cells #[.int .i64 k, .int .i64 p, .int .i64 q, .slice a ts.length cap, .slice ao O.length co] 33) := ⟨_, rfl⟩
  have hb0 : Below w.heap.size w W0 := by rw [hW0]; exact (Below.refl _ _).alloc (Nat.le_refl _) _
  have N0 : Hid (B5 W0 w.heap.size (.int .i64 k) (.int .i64 p) (.int .i64 q) (.slice a ts.length cap) (.slice ao O.length co)) := Lib.hid (by rw [hW0]; exact B5.new _ _ _ _ _ _ _)
  have HW0 := Lib.hid hW0
  have B0 := Lib.hid hb0
  have HT := Lib.hid ((h.mono hB).below hb0 (Nat.le_refl _) |>.mono hb0.size)
  have HNO := Lib.hid (net_ok_spec (k := k) (p := p) (q := q) (w := W0) HT.out ((ho.mono hB').below hb0 (Nat.le_refl _) |>.mono hb0.size) hcap (Nat.le_refl _) (Nat.le_refl _) hn hO)
  have HLN := Lib.hid hn
  have hncap : ts.length ≤ cap := hcap _ _ _ rfl
  obtain ⟨m, hm⟩ : ∃ m, m = O.length := ⟨_, rfl⟩
  obtain ⟨n, hnn⟩ : ∃ n, n = ts.length := ⟨_, rfl⟩
  rw [← hm] at N0 HW0 HNO
  rw [← hnn] at N0 HW0 HNO HT hncap
  rw [← hm, ← hnn]
  have HN := Lib.hid hnn
  obtain ⟨yl, hyl⟩ : ∃ y, y = partsR k p q ts O := ⟨_, rfl⟩
  rw [← hyl]
  have HYL := Lib.hid hyl
  obtain ⟨c0, c1, c2, c3, c4, -⟩ := N0.out
  clear h ho hB hB' hn hO hb0 hm hnn hW0 hcap hyl hi0 hz0 hz1 hz2 hy0 hy1 hy2 hy3
  go_enter Try.func32, Try.ntmps32
  go_upto_region 1 with fail
  rw [← HW0.out]
  clear HW0
  cases hb : netB k p q ts O with
  | false =>
    have HF : Hid (yl = []) := Lib.hid (by rw [HYL.out]; exact parts_no fun h => by rw [netB_true.2 h] at hb; cases hb)
    rw [hb] at HNO
    clear hb
    go_wp2_with fail
    refine HNO.out.mono ?_
    rintro e w2 ⟨rfl, hb2⟩
    have B2 := Lib.hid (B0.out.trans (hb2.mono B0.out.size))
    clear hb2 HNO c0 c1 c2 c3 c4
    go_wp2
    go_ret
    rw [HF.out]
    exact NewSS.nil B2.out
  | true =>
    have HVT := Lib.hid (netB_true.1 hb)
    rw [hb] at HNO
    have hn12 : n ≤ 12 := by rw [HN.out]; exact HVT.out.2.1
    clear hb
    go_wp2_with fail
    refine HNO.out.mono ?_
    rintro e w2 ⟨rfl, hb2⟩
    have HB2 := Lib.hid hb2
    have HC3 : Hid (∀ W, Below w2.heap.size w2 W → W.cell? ⟨w.heap.size, 3, none⟩ = some (.slice a n cap)) := Lib.hid (fun W hW => ((N0.out.step hb2).step hW).c3)
    have HTS := Lib.hid ((HT.out.below hb2 (Nat.le_refl _)).mono hb2.size)
    have RL : Hid (Rs w2 (w2.alloc (.cells #[] 3)) [] [(.slice (some ⟨w2.heap.size, 0, none⟩) 0 0, fL 0 (fun a => a))]) := Lib.hid (Rs.start w2).lit
    have k3 : (w2.alloc (.cells #[] 3)).cell? ⟨w.heap.size, 3, none⟩ = some (.slice a n cap) := HC3.out _ RL.out.bel
    clear hb2 HNO c0 c1 c2 c3 c4
    go_wp2
    go_loopw [3, 24] (fun u i wr => ∃ (j : Nat) (ga : Option Addr) (ca : Nat), j ≤ n ∧ u = .slice ga j ca ∧ i = .int .i64 j ∧ Hid (Rs w2 wr [] [(.slice ga j ca, fL j (fun a => a))])) (fun _ i _ => n - (intOf i).toNat)
    case atStart => exact ⟨0, _, 0, by omega, rfl, rfl, RL⟩
    case round =>
      clear RL k3
      obtain ⟨j, ga, ca, hj, rfl, rfl, HR⟩ := hrel
      by_cases hlt : j < n
      · have HLL := Lib.hid (fL_len j (fun a => a))
        have HX := Lib.hid (fL_snoc j (fun a => a))
        have A5 := Lib.hid (HR.out.alloc (.cells #[.int .i64 (j : Int)] 3))
        have O5 := Lib.hid (A5.out.row (v := .slice ga j ca) (List.mem_cons_self) HLL.out)
        go_wp2_with (at_builtin; go_must (refine wpList_append_lies _ rfl _ _ 25 rfl w2.heap.size 3 i0 (.int .i64 0) 1 8 Try.underlying25 J0.out J1.out J2.out J3.out rfl (by decide) _ j (ints (fL j (fun a => a))) rfl O5.out ⟨wr.heap.size, 0, none⟩ 1 1 [.int .i64 (j : Int)] rfl rfl (cell_one_new _ _ _) ?c2 (by decide) ?c3 ?c4 ?c5 _ rfl ?_))
        case c2 => first | rfl | (intro u hu; simp at hu; subst hu; rfl)
        case c3 => unfold maxLen; omega
        case c4 => omega
        case c5 => exact A5.out.bel.size
        intro g1 cap1 w5 hown hgrow hl1 _
        have hR5 := A5.out.app1 HLL.out hown hgrow (by rw [World.size_alloc]; exact hl1)
        rw [HX.out] at hR5
        have R6 := Lib.hid hR5
        clear hown hgrow hl1 hR5 A5 O5 HR
        go_wp2
        go_roundw
        case rel => exact ⟨j + 1, some ⟨g1, 0, none⟩, cap1, by omega, rfl, by go_num, R6⟩
        case measure => simp [intOf]; omega
      · obtain rfl : n = j := by omega
        have k3 := HC3.out _ HR.out.bel
        have HPI := Lib.hid (PInv.start ts)
        clear hlt hj
        go_wp2
        go_loopw [35] (fun x wr => ∃ (i : Nat) (f : Nat → Nat), i ≤ n ∧ x = .int .i64 i ∧ Hid (PInv ts i 0 f) ∧ Hid (Rs w2 wr [] [(.slice ga n ca, fL n f)])) (fun x _ => n - (intOf x).toNat)
        case atStart => exact ⟨0, fun a => a, by omega, rfl, HPI, HR⟩
        case round =>
          clear HPI HR k3
          obtain ⟨i, f, hi, rfl, HPI, HR⟩ := hrel
          by_cases hlt : i < n
          · obtain ⟨gp, rfl⟩ : ∃ gp, ga = some ⟨gp, 0, none⟩ := by
              have h1 := HR.out.row (v := .slice ga n ca) (xs := fL n f) (List.mem_cons_self) (fL_len n f)
              rcases h1.2 with ⟨-, h0⟩ | ⟨g, ca', cur, e, -⟩
              · omega
              · injection e with e
                exact ⟨g, e⟩
            obtain ⟨⟨L, D, X⟩, T1⟩ : ∃ t, Hid (ts[i]? = some t) := ⟨_, List.getElem?_eq_getElem (by rw [← HN.out]; exact hlt)⟩
            obtain ⟨b', off, a1, d1, a2, d2, a3, d3, rfl, hbw, k0, k1, k2, hT⟩ := HTS.out.at T1.out
            dsimp only at k0 k1 k2 hT
            have k0 := (HR.out.bel.cell (p := ⟨b', off + i * 3, none⟩) hbw).trans k0
            have k1 := (HR.out.bel.cell (p := ⟨b', off + i * 3 + 1, none⟩) hbw).trans k1
            have k2 := (HR.out.bel.cell (p := ⟨b', off + i * 3 + 2, none⟩) hbw).trans k2
            have HTL := Lib.hid hT.l
            have HLL := Lib.hid (HLN.out.2 _ (List.mem_of_getElem? T1.out)).l
            obtain ⟨mL, hmL⟩ : ∃ m, m = L.length := ⟨_, rfl⟩
            obtain ⟨mD, hmD⟩ : ∃ m, m = D.length := ⟨_, rfl⟩
            obtain ⟨mX, hmX⟩ : ∃ m, m = X.length := ⟨_, rfl⟩
            rw [← hmL] at k0 HTL
            rw [← hmD] at k1
            rw [← hmX] at k2
            obtain ⟨ba, hba⟩ : ∃ b, b = wr.heap.size := ⟨_, rfl⟩
            obtain ⟨WB, hWB⟩ : ∃ W, W = wr.alloc (.cells #[.slice a1 mL d1, .slice a2 mD d2, .slice a3 mX d3] 55) := ⟨_, rfl⟩
            have RB : Hid (Rs w2 WB [(ba, .slice a1 mL d1, .slice a2 mD d2, .slice a3 mX d3)] [(.slice (some ⟨gp, 0, none⟩) n ca, fL n f)]) := Lib.hid (by rw [hWB, hba]; exact HR.out.box _ _ _ _)
            have HWB := Lib.hid hWB
            have HBA := Lib.hid hba
            have k3 := HC3.out _ RB.out.bel
            have hic : i ≤ cap := by omega
            clear hT hmL hmD hmX hWB hba HR
            go_upto_region 12 with fail
            rw [← HWB.out, ← HBA.out]
            clear HWB k0 k1 k2
            go_wp2
            go_loopw [45] (fun x wi => ∃ (kk : Nat) (f : Nat → Nat), kk ≤ i ∧ x = .int .i64 kk ∧ Hid (PInv ts i kk f) ∧ Hid (Rs w2 wi [(ba, .slice a1 mL d1, .slice a2 mD d2, .slice a3 mX d3)] [(.slice (some ⟨gp, 0, none⟩) n ca, fL n f)])) (fun x _ => i - (intOf x).toNat)
            case atStart => exact ⟨0, f, by omega, rfl, HPI, RB⟩
            case round =>
              clear HPI RB k3
              obtain ⟨kk, f, hk, rfl, HPI, HR⟩ := hrel
              by_cases hkl : kk < i
              · obtain ⟨⟨L', D', X'⟩, T2⟩ : ∃ t, Hid (ts[kk]? = some t) := ⟨_, List.getElem?_eq_getElem (by rw [← HN.out]; omega)⟩
                obtain ⟨b2, off2, p1, r1, p2, r2, p3, r3, hbo, hbw2, g0, g1, g2, hU⟩ := HTS.out.at T2.out
                obtain ⟨rfl, rfl⟩ : b' = b2 ∧ off = off2 := by injection hbo with h; injection h with h1 h2; exact ⟨h1, h2⟩
                dsimp only at g0 g1 g2 hU
                have g0 := (HR.out.bel.cell (p := ⟨b', off + kk * 3, none⟩) hbw).trans g0
                have g1 := (HR.out.bel.cell (p := ⟨b', off + kk * 3 + 1, none⟩) hbw).trans g1
                have g2 := (HR.out.bel.cell (p := ⟨b', off + kk * 3 + 2, none⟩) hbw).trans g2
                have HUL := Lib.hid hU.l
                have HLU := Lib.hid (HLN.out.2 _ (List.mem_of_getElem? T2.out)).l
                obtain ⟨nL, hnL⟩ : ∃ m, m = L'.length := ⟨_, rfl⟩
                obtain ⟨nD, hnD⟩ : ∃ m, m = D'.length := ⟨_, rfl⟩
                obtain ⟨nX, hnX⟩ : ∃ m, m = X'.length := ⟨_, rfl⟩
                rw [← hnL] at g0 HUL
                rw [← hnD] at g1
                rw [← hnX] at g2
                obtain ⟨WC, hWC⟩ : ∃ W, W = wr.alloc (.cells #[.slice p1 nL r1, .slice p2 nD r2, .slice p3 nX r3] 55) := ⟨_, rfl⟩
                obtain ⟨bb, hbb⟩ : ∃ b, b = wr.heap.size := ⟨_, rfl⟩
                have RC : Hid (Rs w2 WC [(bb, .slice p1 nL r1, .slice p2 nD r2, .slice p3 nX r3), (ba, .slice a1 mL d1, .slice a2 mD d2, .slice a3 mX d3)] [(.slice (some ⟨gp, 0, none⟩) n ca, fL n f)]) := Lib.hid (by rw [hWC, hbb]; exact HR.out.box _ _ _ _)
                obtain ⟨mb, hmb⟩ : ∃ b, b = meetI L L' := ⟨_, rfl⟩
                have HMB := Lib.hid hmb
                have HMT := Lib.hid (meetT_iff T1.out T2.out)
                have HME := Lib.hid (meet_spec (w := WC) (dv := .slice a2 mD d2) (xv := .slice a3 mX d3) (du := .slice p2 nD r2) (xu := .slice p3 nX r3) (HTL.out.below RC.out.bel (Nat.le_refl _)) (HUL.out.below RC.out.bel (Nat.le_refl _)) RC.out.bel.size RC.out.bel.size HLL.out HLU.out)
                rw [← hmb] at HME
                have HWC := Lib.hid hWC
                have HBB := Lib.hid hbb
                have hkn : kk < n := by omega
                clear hU hnL hnD hnX hWC hbb hmb HR hbo hbw2
                go_upto_region 15 with fail
                rw [← HWC.out, ← HBB.out]
                clear HWC g0 g1 g2
                obtain ⟨⟨t0, t1, t2⟩, -⟩ := RC.out.at (r := ba) (a := .slice a1 mL d1) (b := .slice a2 mD d2) (c := .slice a3 mX d3) (by simp)
                obtain ⟨⟨s0, s1, s2⟩, -⟩ := RC.out.at (r := bb) (a := .slice p1 nL r1) (b := .slice p2 nD r2) (c := .slice p3 nX r3) (by simp)
                go_wp2_with fail
                refine HME.out.mono ?_
                rintro e w5 ⟨rfl, hb5⟩
                have R5 := Lib.hid ((RC.out.step hb5).subB (bs' := [(ba, .slice a1 mL d1, .slice a2 mD d2, .slice a3 mX d3)]) (List.sublist_cons_self _ _))
                clear hb5 HME RC t0 t1 t2 s0 s1 s2
                cases mb with
                | false =>
                  have HP2 := Lib.hid (HPI.out.skip (fun h => by have := HMT.out.1 h; rw [← HMB.out] at this; cases this))
                  go_wp2
                  go_roundw
                  case rel => exact ⟨kk + 1, f, by omega, by go_num, HP2, R5⟩
                  case measure => simp [intOf]; omega
                | true =>
                  have HP2 := Lib.hid (HPI.out.merge (HMT.out.2 HMB.out.symm))
                  have own := R5.out.row (v := .slice (some ⟨gp, 0, none⟩) n ca) (xs := fL n f) (List.mem_cons_self) (fL_len n f)
                  have ci : w5.cell? ⟨gp, i, none⟩ = some (.int .i64 (f i)) := by rw [own.cellAt i (by omega)]; simp [ints, fL_at f hlt]
                  have ck : w5.cell? ⟨gp, kk, none⟩ = some (.int .i64 (f kk)) := by rw [own.cellAt kk (by omega)]; simp [ints, fL_at f hkn]
                  clear own
                  obtain ⟨s, hs⟩ : ∃ s, s = max (f i) (f kk) := ⟨_, rfl⟩
                  obtain ⟨t, ht⟩ : ∃ t, t = min (f i) (f kk) := ⟨_, rfl⟩
                  have hsI : max ((f i : Nat) : Int) ((f kk : Nat) : Int) = (s : Int) := by omega
                  have htI : min ((f i : Nat) : Int) ((f kk : Nat) : Int) = (t : Int) := by omega
                  have HSI := Lib.hid hsI
                  have HTI := Lib.hid htI
                  rw [← hs, ← ht] at HP2
                  clear hs ht hsI htI
                  go_wp2
                  go_quiet (fail)
                  go_wp2
                  go_quiet (fail)
                  go_wp2
                  rw [HSI.out, HTI.out]
                  clear ci ck
                  go_loopw [73] (fun x wi => ∃ j : Nat, j ≤ n ∧ x = .int .i64 j ∧ Hid (Rs w2 wi [(ba, .slice a1 mL d1, .slice a2 mD d2, .slice a3 mX d3)] [(.slice (some ⟨gp, 0, none⟩) n ca, fL n (midF f s t j))])) (fun x _ => n - (intOf x).toNat)
                  case atStart =>
                    refine ⟨0, by omega, rfl, ?_⟩
                    rw [mid_zero]
                    first
                      | exact Lib.hid (R5.out.step (below_drewN (below_drewN (Below.refl _ _) _) _))
                      | exact Lib.hid (R5.out.step (below_drewN (Below.refl _ _) _))
                  case round =>
                    clear R5
                    obtain ⟨j, hj, rfl, HR⟩ := hrel
                    by_cases hjl : j < n
                    · have own := HR.out.row (v := .slice (some ⟨gp, 0, none⟩) n ca) (xs := fL n (midF f s t j)) (List.mem_cons_self) (fL_len n _)
                      have cj : wr.cell? ⟨gp, j, none⟩ = some (.int .i64 (f j)) := by rw [own.cellAt j (by omega)]; simp [ints, fL_at _ hjl, mid_at]
                      have fj := own.frozenAt j
                      clear own
                      by_cases he : f j = s
                      · have q1 : (((f j : Nat) : Int) == (s : Int)) = true := by rw [he]; simp
                        have R6 := Lib.hid (HR.out.put (fL_len n _) j (t : Int))
                        rw [fL_set, mid_yes he] at R6
                        clear he HR
                        go_wp2
                        go_roundw
                        case rel => exact ⟨j + 1, by omega, by go_num, R6⟩
                        case measure => simp [intOf]; omega
                      · have q1 : (((f j : Nat) : Int) == (s : Int)) = false := by simpa using (by omega : ((f j : Nat) : Int) ≠ (s : Int))
                        rw [mid_no he] at HR
                        clear he fj
                        go_wp2
                        go_roundw
                        case rel => exact ⟨j + 1, by omega, by go_num, HR⟩
                        case measure => simp [intOf]; omega
                    · obtain rfl : n = j := by omega
                      rw [mid_full] at HR
                      go_wp2
                      go_roundw
                      case rel => exact ⟨kk + 1, mergeF f s t, by omega, by go_num, HP2, HR⟩
                      case measure => simp [intOf]; omega
              · obtain rfl : kk = i := by omega
                have HP2 := Lib.hid HPI.out.next
                have R9 := Lib.hid (HR.out.subB (List.nil_sublist _))
                go_wp2
                go_roundw
                case rel => exact ⟨kk + 1, f, by omega, by go_num, HP2, R9⟩
                case measure => simp [intOf]; omega
          · obtain rfl : n = i := by omega
            have HPF : Hid (PInv ts ts.length 0 f) := Lib.hid (by rw [← HN.out]; exact HPI.out)
            have RE : Hid (RsE 25 w2 (wr.alloc (.cells #[] 25)) (([] : List RowE) ++ [(.slice ga n ca, fL n f)]) (.slice (some ⟨wr.heap.size, 0, none⟩) 0 0) (([] : List RowE).map (·.1))) := Lib.hid (RsE.litE HR.out)
            clear HR HPI hlt hi
            go_wp2
            go_loopw [12, 92] (fun u x wr => ∃ (r z : Nat) (us : List RowE) (go : Option Addr) (cr : Nat), r ≤ n ∧ z ≤ r ∧ u = .slice go z cr ∧ x = .int .i64 r ∧ Hid (us.length = z) ∧ Hid (us.map (·.2) = (headsTo ts r).map (partL ts)) ∧ Hid (RsE 25 w2 wr (us ++ [(.slice ga n ca, fL n f)]) (.slice go z cr) (us.map (·.1)))) (fun _ x _ => n - (intOf x).toNat)
            case atStart => exact ⟨0, 0, [], _, 0, by omega, by omega, rfl, rfl, Lib.hid rfl, Lib.hid rfl, RE⟩
            case round =>
              clear RE
              obtain ⟨r, z, us, go, cr, hr, hzr, rfl, rfl, HZ, HU, HR⟩ := hrel
              by_cases hlt : r < n
              · have RL : Hid (RsE 25 w2 (wr.alloc (.cells #[] 3)) ((.slice (some ⟨wr.heap.size, 0, none⟩) 0 0, memL f r 0) :: (us ++ [(.slice ga n ca, fL n f)])) (.slice go z cr) (us.map (·.1))) := Lib.hid HR.out.lit
                have hrt : r < ts.length := by rw [← HN.out]; exact hlt
                have HRT := Lib.hid hrt
                clear HR hrt
                go_wp2
                go_loopw [14, 98] (fun l x wi => ∃ (j y : Nat) (gl : Option Addr) (cl : Nat), j ≤ n ∧ y ≤ j ∧ l = .slice gl y cl ∧ x = .int .i64 j ∧ Hid ((memL f r j).length = y) ∧ Hid (RsE 25 w2 wi ((.slice gl y cl, memL f r j) :: (us ++ [(.slice ga n ca, fL n f)])) (.slice go z cr) (us.map (·.1)))) (fun _ x _ => n - (intOf x).toNat)
                case atStart => exact ⟨0, 0, _, 0, by omega, by omega, rfl, rfl, Lib.hid rfl, RL⟩
                case round =>
                  clear RL
                  obtain ⟨j, y, gl, cl, hj, hyj, rfl, rfl, HY, HR⟩ := hrel
                  by_cases hjl : j < n
                  · obtain ⟨b1, o1, rfl, -, e1⟩ := (HR.out.rs.rd (v := .slice ga n ca) (xs := fL n f) (by simp)).cellAt (fL_at f hjl)
                    by_cases he : f j = r
                    · have q1 : (((f j : Nat) : Int) == (r : Int)) = true := by rw [he]; simp
                      have HE := Lib.hid (memL_yes he)
                      have A5 := Lib.hid (HR.out.alloc (.cells #[.int .i64 (j : Int)] 3))
                      have O5 := Lib.hid (A5.out.rs.row (v := .slice gl y cl) (List.mem_cons_self) HY.out)
                      clear he
                      go_wp2_with (at_builtin; go_must (refine wpList_append_lies _ rfl _ _ 25 rfl w2.heap.size 3 i0 (.int .i64 0) 1 8 Try.underlying25 J0.out J1.out J2.out J3.out rfl (by decide) _ y (ints (memL f r j)) rfl O5.out ⟨wr.heap.size, 0, none⟩ 1 1 [.int .i64 (j : Int)] rfl rfl (cell_one_new _ _ _) ?c2 (by decide) ?c3 ?c4 ?c5 _ rfl ?_))
                      case c2 => first | rfl | (intro u hu; simp at hu; subst hu; rfl)
                      case c3 => unfold maxLen; omega
                      case c4 => omega
                      case c5 => exact A5.out.rs.bel.size
                      intro g1 cap1 w5 hown hgrow hl1 _
                      have hR5 := A5.out.appR (news := [(j : Int)]) (by simpa [ints] using hown) (by rw [List.length_append, HY.out]; rfl) hgrow (by rw [World.size_alloc]; exact hl1)
                      rw [HE.out] at hR5
                      have R6 := Lib.hid hR5
                      have HY6 : Hid ((memL f r (j + 1)).length = y + 1) := Lib.hid (by rw [← HE.out, List.length_append, HY.out]; rfl)
                      clear hown hgrow hl1 hR5 A5 O5 HR e1
                      go_wp2
                      go_roundw
                      case rel => exact ⟨j + 1, y + 1, some ⟨g1, 0, none⟩, cap1, by omega, by omega, rfl, by go_num, HY6, R6⟩
                      case measure => simp [intOf]; omega
                    · have q1 : (((f j : Nat) : Int) == (r : Int)) = false := by simpa using (by omega : ((f j : Nat) : Int) ≠ (r : Int))
                      have HE := Lib.hid (memL_no he)
                      have HY6 : Hid ((memL f r (j + 1)).length = y) := Lib.hid (by rw [← HE.out, HY.out])
                      rw [HE.out] at HR
                      clear he
                      go_wp2
                      go_roundw
                      case rel => exact ⟨j + 1, y, gl, cl, by omega, by omega, rfl, by go_num, HY6, HR⟩
                      case measure => simp [intOf]; omega
                  · obtain rfl : n = j := by omega
                    by_cases hh : HeadT ts r
                    · have HML : Hid (memL f r n = partL ts r) := Lib.hid (by rw [HN.out]; exact memL_part HPF.out HRT.out hh)
                      have hy0 : 0 < y := by rw [← HY.out, HN.out]; exact memL_some HPF.out HRT.out hh
                      have q1 : (0 : Int) < (y : Int) := by omega
                      have HH := Lib.hid (headsTo_yes hh)
                      obtain ⟨cs, hcs⟩ : ∃ cs : List Value, cs = us.map (·.1) := ⟨_, rfl⟩
                      rw [← hcs] at HR
                      have HCS := Lib.hid hcs
                      have HZ0 : Hid (cs.length = z) := Lib.hid (by rw [hcs, List.length_map, HZ.out])
                      have A5 := Lib.hid (HR.out.alloc (.cells #[.slice gl y cl] 25))
                      have O5 := Lib.hid (A5.out.row HZ0.out)
                      have HU2 : Hid ((us ++ [((.slice gl y cl, memL f r n) : RowE)]).map (·.2) = (headsTo ts (r + 1)).map (partL ts)) := Lib.hid (by
                        rw [← HH.out, List.map_append, List.map_append, HU.out, HML.out]; rfl)
                      have HZ2 : Hid ((us ++ [((.slice gl y cl, memL f r n) : RowE)]).length = z + 1) := Lib.hid (by rw [List.length_append, HZ.out]; rfl)
                      clear hh hy0 hcs
                      go_wp2_with (at_builtin; go_must (refine wpList_append_lies _ rfl _ _ 46 rfl w2.heap.size 25 i1 (.slice none 0 0) 1 24 Try.underlying46 I0.out I1.out I2.out I3.out rfl (by decide) _ z cs rfl O5.out ⟨wr.heap.size, 0, none⟩ 1 1 [.slice gl y cl] rfl rfl (cell_one_new _ _ _) ?c2 (by decide) ?c3 ?c4 ?c5 _ rfl ?_))
                      case c2 => first | rfl | (intro u hu; simp at hu; subst hu; rfl)
                      case c3 => unfold maxLen; omega
                      case c4 => omega
                      case c5 => exact A5.out.rs.bel.size
                      intro g1 cap1 w5 hown hgrow hl1 _
                      have hR5 := A5.out.app HZ0.out hown hgrow (by rw [World.size_alloc]; exact hl1)
                      have R6 : Hid (RsE 25 w2 w5 ((us ++ [((.slice gl y cl, memL f r n) : RowE)]) ++ [(.slice ga n ca, fL n f)]) (.slice (some ⟨g1, 0, none⟩) (z + 1) cap1) ((us ++ [((.slice gl y cl, memL f r n) : RowE)]).map (·.1))) := Lib.hid (by
                        rw [List.map_append, ← HCS.out]
                        refine hR5.perm ?_
                        rw [List.append_assoc]
                        exact List.perm_middle.symm)
                      clear hown hgrow hl1 hR5 A5 O5 HR
                      go_wp2
                      go_roundw
                      case rel => exact ⟨r + 1, z + 1, us ++ [(.slice gl y cl, memL f r n)], some ⟨g1, 0, none⟩, cap1, by omega, by omega, rfl, by go_num, HZ2, HU2, R6⟩
                      case measure => simp [intOf]; omega
                    · have hy0 : y = 0 := by
                        have h1 := memL_none HPF.out HRT.out hh
                        rw [← HN.out] at h1
                        rw [← HY.out, h1]; rfl
                      subst hy0
                      have HU2 := Lib.hid (HU.out.trans (congrArg (List.map (partL ts)) (headsTo_no hh)))
                      have R6 := Lib.hid (HR.out.sub (List.sublist_cons_self _ _))
                      clear hh
                      go_wp2
                      go_roundw
                      case rel => exact ⟨r + 1, z, us, go, cr, by omega, by omega, rfl, by go_num, HZ, HU2, R6⟩
                      case measure => simp [intOf]; omega
              · obtain rfl : n = r := by omega
                have hfin : us.map (·.2) = yl := by rw [HU.out, HYL.out, parts_yes HVT.out]; unfold partsL; rw [HN.out]
                have HF := Lib.hid hfin
                have B2 := Lib.hid (B0.out.trans (HB2.out.mono B0.out.size))
                have BB := Lib.hid (B2.out.trans (HR.out.rs.bel.mono B2.out.size))
                have RS := Lib.hid (HR.out.sub (List.sublist_append_left us _)).ss
                clear hfin
                go_wp2
                go_ret
                exact ⟨_, us, rfl, HF.out, RS.out.wide B2.out.size, BB.out⟩
end Go.Proofs.Ytdheakjjnaifkaa
