
/- spec.l12Weight, spec.WeightOf. -/
import Derived.Test.YtdheakjjnaifkaaWeightMath
import Derived.Test.YtdheakjjnaifkaaNetSpec2
import Derived.Test.YtdheakjjnaifkaaElemAt
import Derived.Test.YtdheakjjnaifkaaZero
import Derived.Test.YtdheakjjnaifkaaPermSpec
import Derived.Deep.RegionHeld3
namespace Go.Proofs.Ytdheakjjnaifkaa
set_option maxRecDepth 20000
open Go.RowKit

set_option maxHeartbeats 6400000 in
theorem l12_weight_full {n m mv mo cap co cl cv : Nat} {a ao al av : Option Addr} {k p q : Int} {ts : List TenE} {K V : List Int} {w : World} (hm1 : n = ts.length) (hm2 : m = K.length) (hm3 : mv = V.length) (h : RdTs w.heap.size w (.slice a n cap) ts) (hl : Rd w.heap.size w (.slice al m cl) (ints K)) (hv : Rd w.heap.size w (.slice av mv cv) (ints V)) (hn : LenTs ts) (hr : ringB k p q = true) (hK : K.length ≤ 100) (hKV : K.length = V.length) (hT : ∀ t ∈ ts, tensorB k p q t.1 t.2.1 t.2.2 = true ∧ InIx t.2.1 (viaL t.1 K V) ∧ ∀ x ∈ t.1, x ∈ K) :
    Calls Try.prog 60 #[netV k p q (.slice a n cap) (.slice ao mo co), .slice al m cl, .slice av mv cv] w (NewRow w (wtL k p (widthI k q).toNat K V (oneL k p q) ts)) := by
  obtain ⟨i0, hi0, hz0, hz1, hz2⟩ := info_parts infoInt
  have J0 := Lib.hid hi0
  have J1 := Lib.hid hz0
  have J2 := Lib.hid hz1
  have J3 := Lib.hid hz2
  have HLN := Lib.hid hn
  have HR := Lib.hid hr
  have HT := Lib.hid hT
  have HN := Lib.hid hm1
  have HM := Lib.hid hm2
  have HMV := Lib.hid hm3
  have hm100 : m ≤ 100 := by omega
  have hmv : mv = m := by omega
  have hn1 : n ≤ 1048576 := by have := hn.1; omega
  obtain ⟨W0, hW0⟩ : ∃ X, X = w.alloc (.cells #[.int .i64 k, .int .i64 p, .int .i64 q, .slice a n cap, .slice ao mo co] 33) := ⟨_, rfl⟩
  have hb0 : Below w.heap.size w W0 := by rw [hW0]; exact (Below.refl _ _).alloc (Nat.le_refl _) _
  have N0 : Hid (B5 W0 w.heap.size (.int .i64 k) (.int .i64 p) (.int .i64 q) (.slice a n cap) (.slice ao mo co)) := Lib.hid (by rw [hW0]; exact B5.new _ _ _ _ _ _ _)
  have B0 := Lib.hid hb0
  have HTS := Lib.hid ((h.below hb0 (Nat.le_refl _)).mono hb0.size)
  have HK := Lib.hid ((hl.below hb0 (Nat.le_refl _)).mono hb0.size)
  have HV := Lib.hid ((hv.below hb0 (Nat.le_refl _)).mono hb0.size)
  have HW0 := Lib.hid hW0
  obtain ⟨c0, c1, c2, c3, c4, -⟩ := N0.out
  clear h hl hv hn hr hT hm1 hm2 hm3 hb0 hW0 hi0 hz0 hz1 hz2 hK hKV
  go_enter Try.func60, Try.ntmps60
  go_upto_region 1 with fail
  rw [← HW0.out]
  clear HW0
  go_wp2_with fail
  refine (one_spec k p q W0 HR.out).mono ?_
  clear c0 c1 c2 c3 c4
  rintro e w1 ⟨v1, rfl, o1, hb1⟩
  have R1 := Lib.hid ((Rs.start W0).new hb1 o1)
  have N1 := Lib.hid (N0.out.step hb1)
  clear o1 hb1
  obtain ⟨c0, c1, c2, c3, c4, -⟩ := N1.out
  go_wp2
  go_loopw [7, 19] (fun u i wr => ∃ j : Nat, j ≤ n ∧ i = .int .i64 j ∧ Hid (Rs W0 wr [] [(u, wtL k p (widthI k q).toNat K V (oneL k p q) (ts.take j))])) (fun _ i _ => n - (intOf i).toNat)
  case atStart => exact ⟨0, by omega, rfl, by rw [List.take_zero]; exact R1⟩
  case round =>
    clear R1 N1 c0 c1 c2 c3 c4
    obtain ⟨j, hj, rfl, HRS⟩ := hrel
    by_cases hlt : j < n
    · obtain ⟨⟨L, D, X⟩, T1⟩ : ∃ t, Hid (ts[j]? = some t) := ⟨_, List.getElem?_eq_getElem (by rw [← HN.out]; exact hlt)⟩
      obtain ⟨b, off, a1, d1, a2, d2, a3, d3, rfl, hbw, k0, k1, k2, hT⟩ := HTS.out.at T1.out
      dsimp only at k0 k1 k2 hT
      have k0 := (HRS.out.bel.cell (p := ⟨b, off + j * 3, none⟩) hbw).trans k0
      have k1 := (HRS.out.bel.cell (p := ⟨b, off + j * 3 + 1, none⟩) hbw).trans k1
      have k2 := (HRS.out.bel.cell (p := ⟨b, off + j * 3 + 2, none⟩) hbw).trans k2
      have hmem := List.mem_of_getElem? T1.out
      have HTI := Lib.hid (HT.out _ hmem)
      have HLX := Lib.hid (HLN.out.2 _ hmem)
      have hax := (tensorB_axes HTI.out.1).1
      obtain ⟨wt, hwt⟩ : ∃ l, l = wtL k p (widthI k q).toNat K V (oneL k p q) (ts.take j) := ⟨_, rfl⟩
      rw [← hwt] at HRS
      have HWT : Hid (ElemV k p q wt) := Lib.hid (by rw [hwt]; exact wt_elem HR.out (fun t ht => ⟨(HT.out t (List.mem_of_mem_take ht)).1, (HT.out t (List.mem_of_mem_take ht)).2.1⟩))
      have HWS : Hid (timesL k p wt (getL (widthI k q).toNat X (offI D (viaL L K V)).toNat) = wtL k p (widthI k q).toNat K V (oneL k p q) (ts.take (j + 1))) := Lib.hid (by
        have e : ts.take (j + 1) = ts.take j ++ [(L, D, X)] := by rw [List.take_add_one, T1.out]; rfl
        rw [e, wtL_snoc, hwt])
      have HEL := Lib.hid (ten_elem HTI.out.1 HTI.out.2.1)
      have HW := Lib.hid (ring_width HR.out)
      dsimp only at hax
      obtain ⟨o, ho⟩ : ∃ o, o = (offI D (viaL L K V)).toNat := ⟨_, rfl⟩
      have hoI : offI D (viaL L K V) = (o : Int) := by
        have h1 := offP_range (fun d hd => (hax.2.2.2.1 d hd).1) HTI.out.2.1 D.length (Nat.le_refl _)
        have h2 : 0 ≤ offI D (viaL L K V) := h1.1
        omega
      have HOI := Lib.hid hoI
      dsimp only at HEL
      rw [← ho] at HWS HEL
      obtain ⟨wd, hwd⟩ : ∃ x, x = (widthI k q).toNat := ⟨_, rfl⟩
      have HWD : Hid (widthI k q = (wd : Int) ∧ 1 ≤ wd ∧ wd ≤ 6) := Lib.hid (by have := HW.out; omega)
      rw [← hwd] at HWS HEL
      have HWE := Lib.hid hwd
      obtain ⟨mL, hmL⟩ : ∃ m, m = L.length := ⟨_, rfl⟩
      obtain ⟨mD, hmD⟩ : ∃ m, m = D.length := ⟨_, rfl⟩
      obtain ⟨mX, hmX⟩ : ∃ m, m = X.length := ⟨_, rfl⟩
      have hld : mD = mL := by rw [hmL, hmD]; exact hax.2.1.symm
      subst hld
      have hl12 : mD ≤ 12 := by rw [hmL]; exact hax.1
      have HAX := Lib.hid hax
      have HML := Lib.hid (And.intro hmL hmD)
      have HPR : Hid (prodL D ≤ 4096) := Lib.hid (by have F := TF.of HTI.out.1; have h1 := F.pr; have h2 := F.n1; dsimp only at h1 h2; omega)
      rw [← hmL] at k0 hT
      rw [← hmD] at k1 hT
      rw [← hmX] at k2 hT
      have RB := Lib.hid ((HRS.out.box (.slice a1 mD d1) (.slice a2 mD d2) (.slice a3 mX d3) 55).lit)
      have HRD := Lib.hid hT
      obtain ⟨WB, hWB⟩ : ∃ X, X = wr.alloc (.cells #[.slice a1 mD d1, .slice a2 mD d2, .slice a3 mX d3] 55) := ⟨_, rfl⟩
      have HWB := Lib.hid hWB
      rw [← hWB] at RB
      have hbt2 : WB.heap.size = wr.heap.size + 1 := by rw [hWB]; simp
      rw [hbt2] at RB
      clear hT hax hmem hwt ho hoI hwd hmL hmD hmX HRS hWB hbw
      go_wp2
      rw [← HWB.out]
      obtain ⟨bt, hbt⟩ : ∃ b, b = wr.heap.size := ⟨_, rfl⟩
      rw [← hbt] at RB ⊢
      clear k0 k1 k2 hbt2 hbt
      go_loopw [10, 27] (fun x i ws => ∃ (c ca : Nat) (ga : Option Addr), c ≤ mD ∧ i = .int .i64 c ∧ x = .slice ga c ca ∧ Hid (Rs W0 ws [(bt, .slice a1 mD d1, .slice a2 mD d2, .slice a3 mX d3)] [(.slice ga c ca, (viaL L K V).take c), (u7, wt)])) (fun _ i _ => mD - (intOf i).toNat)
      case atStart => exact ⟨0, 0, _, by omega, rfl, rfl, RB⟩
      case round =>
        clear RB
        obtain ⟨c, ca, ga, hc, rfl, rfl, HRI⟩ := hrel
        by_cases hcl : c < mD
        · obtain ⟨x, X1⟩ : ∃ x, Hid (L[c]? = some x) := ⟨_, List.getElem?_eq_getElem (by rw [← HML.out.1]; exact hcl)⟩
          obtain ⟨b1, o1, rfl, -, e1⟩ := (HRD.out.l.below HRI.out.bel (Nat.le_refl _)).cellAt X1.out
          have hxK : x ∈ K := HTI.out.2.2 x (List.mem_of_getElem? X1.out)
          have hzl := List.idxOf_lt_length_iff.2 hxK
          obtain ⟨z, hz⟩ : ∃ z, z = K.idxOf x := ⟨_, rfl⟩
          rw [← hz] at hzl
          have hzm : z < m := by rw [HM.out]; exact hzl
          obtain ⟨y, Y1⟩ : ∃ y, Hid (V[z]? = some y) := ⟨_, List.getElem?_eq_getElem (by rw [← HMV.out]; omega)⟩
          obtain ⟨b2, o2, rfl, -, e2⟩ := (HV.out.below HRI.out.bel (Nat.le_refl _)).cellAt Y1.out
          have HF := Lib.hid (find_spec (w := wr) x ((HK.out.below HRI.out.bel (Nat.le_refl _))) (by rw [← HM.out]; omega))
          rw [findI_hit hxK, ← hz] at HF
          have HX : Hid ((viaL L K V).take c ++ [y] = (viaL L K V).take (c + 1)) := Lib.hid (by
            have h1 : (viaL L K V)[c]? = some y := by
              unfold viaL
              rw [List.getElem?_map, X1.out]
              show some (V.getD (K.idxOf x) 0) = some y
              rw [← hz, List.getD_eq_getElem?_getD, Y1.out]; rfl
            rw [List.take_add_one, h1]; rfl)
          have HLL : Hid (((viaL L K V).take c).length = c) := Lib.hid (by rw [List.length_take]; unfold viaL; rw [List.length_map, ← HML.out.1]; omega)
          have hzv : z < mv := by omega
          clear hxK hzl hz
          go_wp2_with fail
          refine HF.out.mono ?_
          rintro e w2 ⟨rfl, rfl⟩
          have A1 := Lib.hid (HRI.out.alloc (.cells #[.int .i64 y] 3))
          have O1 := Lib.hid (A1.out.row (List.mem_cons_self) HLL.out : World.ownsRow _ W0.heap.size 3 1 (.slice ga c ca) c (ints ((viaL L K V).take c)))
          clear HF e1 HRI
          go_wp2_with (at_builtin; go_must (refine wpList_append_lies _ rfl _ _ 25 rfl W0.heap.size 3 i0 (.int .i64 0) 1 8 Try.underlying25 J0.out J1.out J2.out J3.out rfl (by decide) _ c (ints ((viaL L K V).take c)) rfl O1.out ⟨wr.heap.size, 0, none⟩ 1 1 [.int .i64 y] rfl rfl (cell_one_new _ _ _) ?c2 (by decide) ?c3 ?c4 ?c5 _ rfl ?_))
          case c2 => first | rfl | (intro u hu; simp at hu; subst hu; rfl)
          case c3 => unfold maxLen; omega
          case c4 => omega
          case c5 => exact A1.out.bel.size
          intro g1 cap1 w3 hown hgrow hl1 _
          have R2 := Lib.hid (A1.out.app1 HLL.out hown hgrow (by rw [World.size_alloc]; exact hl1))
          rw [HX.out] at R2
          clear hown hgrow hl1 O1 A1
          go_wp2
          go_roundw
          case rel => exact ⟨c + 1, cap1, _, by omega, by go_num, rfl, R2⟩
          case measure => simp [intOf]; omega
        · obtain rfl : c = mD := by omega
          have e2 : (viaL L K V).take c = viaL L K V := List.take_of_length_le (by unfold viaL; rw [List.length_map, ← HML.out.1]; exact Nat.le_refl _)
          rw [e2] at HRI
          have RD := Lib.hid HRI.out.drew
          have NW := Lib.hid (N0.out.step HRI.out.bel)
          have HVL : Hid ((viaL L K V).length = c) := Lib.hid (by unfold viaL; rw [List.length_map, ← HML.out.1])
          obtain ⟨c0, c1, c2, c3, c4, -⟩ := NW.out
          obtain ⟨⟨t0, t1, t2⟩, -⟩ := HRI.out.at (r := bt) (List.mem_cons_self)
          clear e2
          go_wp2
          go_region_held3 (fun W => W.cell? ⟨w.heap.size, 0, none⟩ = some (.int .i64 k) ∧ W.cell? ⟨w.heap.size, 1, none⟩ = some (.int .i64 p) ∧ W.cell? ⟨w.heap.size, 2, none⟩ = some (.int .i64 q) ∧ W.cell? ⟨bt, 0, none⟩ = some (.slice a1 c d1) ∧ W.cell? ⟨bt, 1, none⟩ = some (.slice a2 c d2) ∧ W.cell? ⟨bt, 2, none⟩ = some (.slice a3 mX d3)) (first | exact ⟨c0, c1, c2, t0, t1, t2⟩) (first
            | (go_at_call 91; refine (offset_spec_full a2 d2 ga ca c wr.heap.size D (viaL L K V) _ HML.out.2.symm HVL.out (by omega) HAX.out.2.2.2.1 HPR.out HTI.out.2.1 ((HRD.out.d.below RD.out.bel (Nat.le_refl _)).mono HRI.out.bel.size) (RD.out.rd List.mem_cons_self)).mono ?_; rw [HOI.out]; rintro e w4 ⟨rfl, rfl⟩)
            | (go_at_call 90; refine (get_spec wd o ⟨(HRD.out.l.below RD.out.bel (Nat.le_refl _)), (HRD.out.d.below RD.out.bel (Nat.le_refl _)), (HRD.out.x.below RD.out.bel (Nat.le_refl _))⟩ RD.out.bel.size HWD.out.1 HWD.out.2.1 HWD.out.2.2 HEL.out.2.1 HEL.out.2.2 (by have := HLX.out.x; omega)).mono ?_; rintro e w5 ⟨v5, rfl, o5, hb5⟩; have R5 := Lib.hid (RD.out.new hb5 o5); have NX := Lib.hid (N0.out.step R5.out.bel); clear o5 hb5; obtain ⟨c0, c1, c2, c3, c4, -⟩ := NX.out; obtain ⟨⟨t0, t1, t2⟩, -⟩ := R5.out.at (r := bt) (List.mem_cons_self))
            | (go_at_call 89; refine (mul_spec HR.out (R5.out.rd (v := u7) (xs := wt) (by simp)) (R5.out.rd (v := v5) List.mem_cons_self) (Nat.le_refl _) HWT.out HEL.out.1).mono ?_; rw [HWS.out]; rintro e w6 ⟨v6, rfl, o6, hb6⟩; have R6 := Lib.hid (R5.out.new hb6 o6); have NY := Lib.hid (N0.out.step R6.out.bel); clear o6 hb6; obtain ⟨c0, c1, c2, c3, c4, -⟩ := NY.out; obtain ⟨⟨t0, t1, t2⟩, -⟩ := R6.out.at (r := bt) (List.mem_cons_self)))
          have R7 := Lib.hid ((R6.out.subB (List.nil_sublist _)).sub (List.Sublist.cons_cons _ (List.nil_sublist _)))
          rw [HWE.out] at R7
          clear c0 c1 c2 c3 c4 t0 t1 t2
          go_wp2
          go_roundw
          case rel => exact ⟨j + 1, by omega, by go_num, R7⟩
          case measure => simp [intOf]; omega
    · obtain rfl : j = n := by omega
      have e2 : ts.take j = ts := List.take_of_length_le (by rw [← HN.out]; exact Nat.le_refl _)
      rw [e2] at HRS
      have RES := Lib.hid (HRS.out.own1 (List.mem_cons_self))
      have BB := Lib.hid (B0.out.trans (HRS.out.bel.mono B0.out.size))
      have BS := Lib.hid B0.out.size
      go_wp2
      go_ret
      exact ⟨_, rfl, RES.out.wide BS.out (Nat.le_refl _) (Nat.le_refl _), BB.out⟩
theorem wok_to {ts : List TenE} {V : List Int} (h1 : V.length = (labT ts).length) (h2 : ∀ i, i < (labT ts).length → 0 ≤ V.getD i 0 ∧ V.getD i 0 < ((labT ts).map (dimT ts)).getD i 0) : WOk ts V :=
  ⟨by rw [List.length_map, h1], fun i hi => h2 i (by rw [List.length_map] at hi; exact hi)⟩
set_option maxHeartbeats 6400000 in
theorem weight_of_spec {B B' B2 : Nat} {tv ov vv : Value} {k p q : Int} {ts : List TenE} {O V : List Int} {w : World} (h : RdTs B w tv ts) (ho : Rd B' w ov (ints O)) (hcap : ∀ a n c, tv = .slice a n c → n ≤ c) (hB : B ≤ w.heap.size) (hB' : B' ≤ w.heap.size) (hn : LenTs ts) (hO : O.length ≤ 1048576) (hv : Rd B2 w vv (ints V)) (hB2 : B2 ≤ w.heap.size) (hV : V.length ≤ 1048576) :
    Calls Try.prog 27 #[netV k p q tv ov, vv] w (NewRow w (weightL k p q ts O V)) := by
  obtain ⟨a, cap, rfl⟩ := h.form
  obtain ⟨ao, co, rfl, -⟩ := ints_form ho
  obtain ⟨av, cv, rfl, -⟩ := ints_form hv
  obtain ⟨W0, hW0⟩ : ∃ V, V = w.alloc (.cells #[.int .i64 k, .int .i64 p, .int .i64 q, .slice a ts.length cap, .slice ao O.length co] 33) := ⟨_, rfl⟩
  have hb0 : Below w.heap.size w W0 := by rw [hW0]; exact (Below.refl _ _).alloc (Nat.le_refl _) _
  have N0 : Hid (B5 W0 w.heap.size (.int .i64 k) (.int .i64 p) (.int .i64 q) (.slice a ts.length cap) (.slice ao O.length co)) := Lib.hid (by rw [hW0]; exact B5.new _ _ _ _ _ _ _)
  have HW0 := Lib.hid hW0
  have B0 := Lib.hid hb0
  have HT := Lib.hid ((h.mono hB).below hb0 (Nat.le_refl _) |>.mono hb0.size)
  have HO := Lib.hid ((ho.mono hB').below hb0 (Nat.le_refl _) |>.mono hb0.size)
  have HV := Lib.hid ((hv.mono hB2).below hb0 (Nat.le_refl _) |>.mono hb0.size)
  have HLN := Lib.hid hn
  have HOL := Lib.hid hO
  have HCP := Lib.hid hcap
  have HLS := Lib.hid (labels_of_spec (k := k) (p := p) (q := q) (w := W0) HT.out HO.out hcap (Nat.le_refl _) (Nat.le_refl _) hn hO)
  have HNO := Lib.hid (fun (W : World) (hW : Below W0.heap.size W0 W) => net_ok_spec (k := k) (p := p) (q := q) (w := W) (HT.out.below hW (Nat.le_refl _)) (HO.out.below hW (Nat.le_refl _)) hcap hW.size hW.size hn hO)
  obtain ⟨m, hm⟩ : ∃ m, m = O.length := ⟨_, rfl⟩
  obtain ⟨n, hnn⟩ : ∃ n, n = ts.length := ⟨_, rfl⟩
  obtain ⟨mv, hmv⟩ : ∃ n, n = V.length := ⟨_, rfl⟩
  rw [← hm] at N0 HW0 HLS HNO HO
  rw [← hnn] at N0 HW0 HLS HNO HT
  rw [← hmv] at HV hV
  rw [← hm, ← hnn, ← hmv]
  have HM := Lib.hid hm
  have HN := Lib.hid hnn
  have HMV := Lib.hid hmv
  obtain ⟨yl, hyl⟩ : ∃ y, y = weightL k p q ts O V := ⟨_, rfl⟩
  rw [← hyl]
  have HYL := Lib.hid hyl
  obtain ⟨c0, c1, c2, c3, c4, -⟩ := N0.out
  clear h ho hv hB hB' hB2 hn hO hb0 hm hnn hmv hW0 hcap hyl
  go_enter Try.func27, Try.ntmps27
  go_upto_region 1 with fail
  rw [← HW0.out]
  clear HW0
  cases hb : netB k p q ts O with
  | false =>
    have HF : Hid (yl = []) := Lib.hid (by rw [HYL.out]; exact weight_no fun h => by rw [netB_true.2 h.1] at hb; cases hb)
    rw [hb] at HNO HLS
    clear hb
    go_wp2_with fail
    refine HLS.out.mono ?_
    rintro e w1 ⟨v1, rfl, -, hb1⟩
    have B1 := Lib.hid hb1
    have N1 := Lib.hid (N0.out.step hb1)
    clear hb1 HLS c0 c1 c2 c3 c4
    obtain ⟨c0, c1, c2, c3, c4, -⟩ := N1.out
    go_wp2_with fail
    refine (HNO.out _ B1.out).mono ?_
    rintro e w2 ⟨rfl, hb2⟩
    have B2 := Lib.hid (B0.out.trans ((B1.out.trans (hb2.mono B1.out.size)).mono B0.out.size))
    clear hb2 HNO c0 c1 c2 c3 c4
    go_wp2
    go_ret
    exact ⟨_, rfl, by rw [HF.out]; exact Own.nil _ _, B2.out⟩
  | true =>
    have HVT := Lib.hid (netB_true.1 hb)
    rw [hb] at HNO HLS
    clear hb
    rw [if_pos rfl] at HLS
    go_wp2_with fail
    refine HLS.out.mono ?_
    rintro e w1 ⟨v1, rfl, o1, hb1⟩
    have R1 := Lib.hid ((Rs.start W0).new hb1 o1)
    have N1 := Lib.hid (N0.out.step hb1)
    obtain ⟨a1, d1, rfl, -⟩ := ints_form o1.rd
    obtain ⟨l, hl⟩ : ∃ l, l = (labT ts).length := ⟨_, rfl⟩
    have hl100 : l ≤ 100 := by rw [hl]; exact labT_len ts
    have HL := Lib.hid hl
    rw [← hl] at R1 ⊢
    clear hb1 o1 HLS c0 c1 c2 c3 c4 hl
    obtain ⟨c0, c1, c2, c3, c4, -⟩ := N1.out
    go_wp2_with fail
    refine (HNO.out _ R1.out.bel).mono ?_
    rintro e w2 ⟨rfl, hb2⟩
    have R2 := Lib.hid (R1.out.step hb2)
    have N2 := Lib.hid (N1.out.step hb2)
    clear hb2 HNO c0 c1 c2 c3 c4 N1 R1
    obtain ⟨c0, c1, c2, c3, c4, -⟩ := N2.out
    by_cases hlv : mv = l
    · have q1 : ((mv : Int) != (l : Int)) = false := by simp; omega
      have HLV := Lib.hid hlv
      clear hlv
      have HDS := Lib.hid (dims_spec (w := w2) (HT.out.below R2.out.bel (Nat.le_refl _)) (R2.out.rd (v := .slice a1 l d1) (xs := labT ts) List.mem_cons_self) R2.out.bel.size (Nat.le_refl _) HLN.out HVT.out.2.2.1.ax (by have := HL.out; omega))
      go_wp2_with fail
      refine HDS.out.mono ?_
      rintro e w3 ⟨v3, rfl, o3, hb3⟩
      have R3 := Lib.hid (R2.out.new hb3 o3)
      obtain ⟨a3, d3, rfl, -⟩ := ints_form o3.rd
      have N3 := Lib.hid (N2.out.step hb3)
      rw [List.length_map, ← HL.out] at R3 ⊢
      clear hb3 o3 HDS c0 c1 c2 c3 c4 N2 R2 q1
      obtain ⟨c0, c1, c2, c3, c4, -⟩ := N3.out
      go_wp2
      go_loopw [25] (fun i wr => ∃ j : Nat, j ≤ l ∧ i = .int .i64 j ∧ wr = w3 ∧ Hid (∀ i, i < j → 0 ≤ V.getD i 0 ∧ V.getD i 0 < ((labT ts).map (dimT ts)).getD i 0)) (fun i _ => l - (intOf i).toNat)
      case atStart => exact ⟨0, by omega, rfl, rfl, Lib.hid (fun i hi => absurd hi (Nat.not_lt_zero _))⟩
      case round =>
        obtain ⟨j, hj, rfl, rfl, HI⟩ := hrel
        by_cases hlt : j < l
        · obtain ⟨y, Y1⟩ : ∃ y, Hid (V[j]? = some y) := ⟨_, List.getElem?_eq_getElem (by rw [← HMV.out]; have := HLV.out; omega)⟩
          obtain ⟨d, D1⟩ : ∃ d, Hid (((labT ts).map (dimT ts))[j]? = some d) := ⟨_, List.getElem?_eq_getElem (by rw [List.length_map, ← HL.out]; exact hlt)⟩
          obtain ⟨b1, o1, rfl, -, e1⟩ := (HV.out.below R3.out.bel (Nat.le_refl _)).cellAt Y1.out
          obtain ⟨b2, o2, rfl, -, e2⟩ := (R3.out.rd (v := .slice a3 l d3) (xs := (labT ts).map (dimT ts)) List.mem_cons_self).cellAt D1.out
          have hdr : 1 ≤ d ∧ d ≤ 8 := by
            have h1 := D1.out
            rw [List.getElem?_map] at h1
            cases hx : (labT ts)[j]? with
            | none => rw [hx] at h1; cases h1
            | some x =>
              rw [hx] at h1
              have h2 : dimT ts x = d := by simpa using h1
              rw [← h2]
              exact dimT_in HVT.out.2.2.1.ax ((mem_labT HVT.out.2.2.1.ax).1 (List.mem_of_getElem? hx))
          have hw : IntKind.i64.wrap (d - 1) = d - 1 := IntWalk.i64_in _ (by omega)
          have hjv : j < mv := by have := HLV.out; omega
          have HG : Hid (V.getD j 0 = y ∧ ((labT ts).map (dimT ts)).getD j 0 = d) := Lib.hid ⟨by rw [List.getD_eq_getElem?_getD, Y1.out]; rfl, by rw [List.getD_eq_getElem?_getD, D1.out]; rfl⟩
          by_cases hy : 0 ≤ y ∧ y ≤ d - 1
          · have HIN : Hid (inB y 0 (d - 1) = true) := Lib.hid (inB_true.2 hy)
            have HI2 : Hid (∀ i, i < j + 1 → 0 ≤ V.getD i 0 ∧ V.getD i 0 < ((labT ts).map (dimT ts)).getD i 0) := Lib.hid (fun i hi => by
              by_cases e : i = j
              · subst e
                rw [HG.out.1, HG.out.2]; omega
              · exact HI.out i (by omega))
            clear hy
            go_wp2_with fail
            refine (l01_in y 0 (d - 1) _).mono ?_
            rintro e w4 ⟨rfl, rfl⟩
            rw [HIN.out]
            clear e1 e2
            go_wp2
            go_roundw
            case rel => exact ⟨j + 1, by omega, by go_num, trivial, HI2⟩
            case measure => simp [intOf]; omega
          · have HIN : Hid (inB y 0 (d - 1) = false) := Lib.hid (by
              cases hq : inB y 0 (d - 1) with
              | false => rfl
              | true => exact absurd (inB_true.1 hq) hy)
            have hno : ¬ (NetOk k p q ts O ∧ WOk ts V) := fun h => hy (by
              have h1 := h.2.2 j (by rw [List.length_map, ← HL.out]; exact hlt)
              rw [HG.out.1, HG.out.2] at h1
              omega)
            have HF : Hid (yl = []) := Lib.hid (by rw [HYL.out]; exact weight_no hno)
            clear hy hno
            go_wp2_with fail
            refine (l01_in y 0 (d - 1) _).mono ?_
            rintro e w4 ⟨rfl, rfl⟩
            rw [HIN.out]
            clear e1 e2 c0 c1 c2 c3 c4
            go_wp2
            go_ret
            exact ⟨_, rfl, by rw [HF.out]; exact Own.nil _ _, B0.out.trans (R3.out.bel.mono B0.out.size)⟩
        · obtain rfl : j = l := by omega
          have hwok : WOk ts V := wok_to (by rw [← HMV.out, ← HL.out]; exact HLV.out) (fun i hi => HI.out i (by rw [HL.out]; exact hi))
          have HF : Hid (yl = wtL k p (widthI k q).toNat (labT ts) V (oneL k p q) ts) := Lib.hid (by rw [HYL.out]; exact weight_yes HVT.out hwok)
          have HWT := Lib.hid (l12_weight_full (co := co) (mo := m) (ao := ao) HN.out HL.out HMV.out ((HT.out.below R3.out.bel (Nat.le_refl _)).mono R3.out.bel.size) (R3.out.rd (v := .slice a1 j d1) (xs := labT ts) (by simp)) ((HV.out.below R3.out.bel (Nat.le_refl _)).mono R3.out.bel.size) HLN.out HVT.out.1 (labT_len ts) (by rw [← HL.out, ← HMV.out]; exact HLV.out.symm) (fun t ht => ⟨HVT.out.2.2.1.ten ht, hwok.ten HVT.out.2.2.1 ht, fun x hx => (mem_labT HVT.out.2.2.1.ax).2 ⟨t, ht, hx⟩⟩))
          rw [← HF.out] at HWT
          clear hwok
          go_wp2_with fail
          refine HWT.out.mono ?_
          rintro e w4 ⟨v4, rfl, o4, hb4⟩
          have RES := Lib.hid (NewRow.after (w0 := w) (B0.out.trans (R3.out.bel.mono B0.out.size)) ⟨v4, rfl, o4, hb4⟩)
          clear HWT o4 hb4 c0 c1 c2 c3 c4
          go_wp2
          go_ret
          exact RES.out
    · have q1 : ((mv : Int) != (l : Int)) = true := by simp; omega
      have hno : ¬ (NetOk k p q ts O ∧ WOk ts V) := fun h => hlv (by
        have h1 := h.2.1
        rw [List.length_map, ← HL.out, ← HMV.out] at h1
        exact h1)
      have HF : Hid (yl = []) := Lib.hid (by rw [HYL.out]; exact weight_no hno)
      clear hno
      clear hlv c0 c1 c2 c3 c4
      go_wp2
      go_ret
      exact ⟨_, rfl, by rw [HF.out]; exact Own.nil _ _, B0.out.trans (R2.out.bel.mono B0.out.size)⟩
end Go.Proofs.Ytdheakjjnaifkaa
