
/- spec.NetworkOk. -/
import Derived.Test.YtdheakjjnaifkaaNetSpec
namespace Go.Proofs.Ytdheakjjnaifkaa
set_option maxRecDepth 20000
open Go.RowKit

abbrev netV (k p q : Int) (tv ov : Value) : Value := .agg #[.int .i64 k, .int .i64 p, .int .i64 q, tv, ov]
/-- A valid network. -/
def NetOk (k p q : Int) (ts : List TenE) (O : List Int) : Prop := ringB k p q = true ∧ ts.length ≤ 12 ∧ NetV k p q ts ∧ 0 ≤ sizeI O (O.map (dimT ts))
open Classical in
noncomputable def netB (k p q : Int) (ts : List TenE) (O : List Int) : Bool := decide (NetOk k p q ts O)
open Classical in
theorem netB_true {k p q : Int} {ts : List TenE} {O : List Int} : netB k p q ts O = true ↔ NetOk k p q ts O := decide_eq_true_iff
theorem netB_false {k p q : Int} {ts : List TenE} {O : List Int} (h : ¬ NetOk k p q ts O) : netB k p q ts O = false := by
  cases hb : netB k p q ts O with
  | false => rfl
  | true => exact absurd (netB_true.1 hb) h
theorem agree_step {ts : List TenE} {t : TenE} {c : Nat} {x : Int} (h : AgreeTo ts t c) (hx : t.1[c]? = some x) (he : 0 < dimT ts x → dimT ts x = t.2.1.getD c 0) : AgreeTo ts t (c + 1) := fun i y hi hy hp => by
  by_cases e : i = c
  · subst e
    rw [hx] at hy
    cases hy
    exact he hp
  · exact h i y (by omega) hy hp
theorem netV_take {k p q : Int} {ts : List TenE} {j : Nat} {t : TenE} (h : NetV k p q (ts.take j)) (ht : ts[j]? = some t) (h1 : tensorB k p q t.1 t.2.1 t.2.2 = true) (h2 : AgreeTo (ts.take j) t t.1.length) : NetV k p q (ts.take (j + 1)) := by
  rw [List.take_add_one, ht]
  exact netV_snoc h h1 h2
set_option maxHeartbeats 6400000 in
theorem net_ok_full {B B' n m cap co : Nat} {a ao : Option Addr} {k p q : Int} {ts : List TenE} {O : List Int} {w : World} (hm1 : n = ts.length) (hm2 : m = O.length) (hcap : n ≤ cap) (h : RdTs B w (.slice a n cap) ts) (ho : Rd B' w (.slice ao m co) (ints O)) (hB : B ≤ w.heap.size) (hB' : B' ≤ w.heap.size) (hn : LenTs ts) (hO : m ≤ 1048576) :
    Calls Try.prog 13 #[netV k p q (.slice a n cap) (.slice ao m co)] w fun e w' => e = .returned (.bool (netB k p q ts O)) ∧ Below w.heap.size w w' := by
  have HN := Lib.hid hm1
  have HM := Lib.hid hm2
  have HLN := Lib.hid hn
  have hn1 : n ≤ 1048576 := by have := hn.1; omega
  obtain ⟨r, hr⟩ : ∃ r, r = netB k p q ts O := ⟨_, rfl⟩
  rw [← hr]
  have HR := Lib.hid hr
  obtain ⟨W0, hW0⟩ : ∃ V, V = w.alloc (.cells #[.int .i64 k, .int .i64 p, .int .i64 q, .slice a n cap, .slice ao m co] 33) := ⟨_, rfl⟩
  have hb0 : Below w.heap.size w W0 := by rw [hW0]; exact (Below.refl _ _).alloc (Nat.le_refl _) _
  have N0 : Hid (B5 W0 w.heap.size (.int .i64 k) (.int .i64 p) (.int .i64 q) (.slice a n cap) (.slice ao m co)) := Lib.hid (by rw [hW0]; exact B5.new _ _ _ _ _ _ _)
  have B0 := Lib.hid hb0
  have HT := Lib.hid (((h.mono hB).below hb0 (Nat.le_refl _)).mono hb0.size)
  have HO := Lib.hid (((ho.mono hB').below hb0 (Nat.le_refl _)).mono hb0.size)
  have HRO := Lib.hid (ring_ok_spec k p q W0)
  have HC : Hid (∀ V, Below W0.heap.size W0 V → V.cell? ⟨w.heap.size, 0, none⟩ = some (.int .i64 k) ∧ V.cell? ⟨w.heap.size, 1, none⟩ = some (.int .i64 p) ∧ V.cell? ⟨w.heap.size, 2, none⟩ = some (.int .i64 q) ∧ V.cell? ⟨w.heap.size, 3, none⟩ = some (.slice a n cap) ∧ V.cell? ⟨w.heap.size, 4, none⟩ = some (.slice ao m co)) := Lib.hid (fun V hV => by
    have h := N0.out.step hV
    exact ⟨h.c0, h.c1, h.c2, h.c3, h.c4⟩)
  clear hm1 hm2 h ho hB hB' hn hr hb0
  obtain ⟨c0, c1, c2, c3, c4⟩ := HC.out _ (Below.refl _ _)
  go_enter Try.func13, Try.ntmps13
  go_wp2_with fail
  rw [← hW0]
  clear hW0
  cases hrb : ringB k p q with
  | false =>
    have HF : Hid (r = false) := Lib.hid (by rw [HR.out]; exact netB_false fun h => by rw [h.1] at hrb; cases hrb)
    rw [hrb] at HRO
    clear hrb
    refine HRO.out.mono ?_
    rintro e w1 ⟨rfl, hb⟩
    have B1 := Lib.hid (B0.out.trans (hb.mono B0.out.size))
    clear hb HRO c0 c1 c2 c3 c4
    go_wp2
    go_ret
    exact ⟨by rw [HF.out]; rfl, B1.out⟩
  | true =>
    rw [hrb] at HRO
    have HRB := Lib.hid hrb
    clear hrb
    refine HRO.out.mono ?_
    rintro e w1 ⟨rfl, hb⟩
    have B1 := Lib.hid hb
    clear hb HRO c0 c1 c2 c3 c4
    obtain ⟨c0, c1, c2, c3, c4⟩ := HC.out _ B1.out
    by_cases h12 : 12 < n
    · have HF : Hid (r = false) := Lib.hid (by rw [HR.out]; exact netB_false fun h => by have := h.2.1; have := HN.out; omega)
      have q1 : decide ((12 : Int) < (n : Int)) = true := by simp; omega
      have B2 := Lib.hid (B0.out.trans (B1.out.mono B0.out.size))
      go_wp2
      go_ret
      exact ⟨by rw [HF.out]; rfl, B2.out⟩
    have q1 : decide ((12 : Int) < (n : Int)) = false := by simp; omega
    have hle : n ≤ 12 := by omega
    clear h12
    go_wp2
    go_loopw [21] (fun i wr => ∃ j : Nat, j ≤ n ∧ i = .int .i64 j ∧ Hid (NetV k p q (ts.take j)) ∧ Hid (Below W0.heap.size W0 wr)) (fun i _ => n - (intOf i).toNat)
    case atStart => exact ⟨0, by omega, rfl, Lib.hid (fun i t h => by simp at h), B1⟩
    case round =>
      clear B1 c0 c1 c2 c3 c4
      obtain ⟨j, hj, rfl, HV, HW⟩ := hrel
      obtain ⟨c0, c1, c2, c3, c4⟩ := HC.out _ HW.out
      by_cases hlt : j < n
      · obtain ⟨⟨L, D, X⟩, T1⟩ : ∃ t, Hid (ts[j]? = some t) := ⟨_, List.getElem?_eq_getElem (by rw [← HN.out]; exact hlt)⟩
        obtain ⟨b, off, a1, d1, a2, d2, a3, d3, rfl, -, k0, k1, k2, hT⟩ := (HT.out.below HW.out (Nat.le_refl _)).at T1.out
        dsimp only at k0 k1 k2 hT
        have hln := HLN.out.2 _ (List.mem_of_getElem? T1.out)
        dsimp only at hln
        obtain ⟨WB, hWB⟩ : ∃ V, V = wr.alloc (.cells #[.slice a1 L.length d1, .slice a2 D.length d2, .slice a3 X.length d3] 55) := ⟨_, rfl⟩
        have hbW : Below wr.heap.size wr WB := by rw [hWB]; exact (Below.refl _ _).alloc (Nat.le_refl _) _
        have TB : Hid (Bx wr WB wr.heap.size (.slice a1 L.length d1) (.slice a2 D.length d2) (.slice a3 X.length d3)) := Lib.hid (by rw [hWB]; exact Bx.new (Below.refl _ wr) _ _ _ _)
        have HW2 := Lib.hid (HW.out.trans (hbW.mono HW.out.size))
        have HTW := Lib.hid (hT.below (hbW.mono HW.out.size) (Nat.le_refl _))
        have HTO := Lib.hid (tensor_ok_spec (k := k) (p := p) (n := q) HTW.out HW2.out.size hln)
        have hl0 : w.heap.size < wr.heap.size := Nat.lt_of_lt_of_le N0.out.lt HW.out.size
        clear hbW hT
        cases htb : tensorB k p q L D X with
        | false =>
          have HF : Hid (r = false) := Lib.hid (by
            rw [HR.out]
            exact netB_false fun h => by
              have := (h.2.2.1 j _ T1.out).1
              rw [htb] at this; cases this)
          rw [htb] at HTO
          clear htb
          go_wp2_with fail
          rw [← hWB]
          clear hWB
          refine HTO.out.mono ?_
          rintro e w2 ⟨rfl, hb⟩
          have B2 := Lib.hid (B0.out.trans ((HW2.out.trans (hb.mono HW2.out.size)).mono B0.out.size))
          clear hb HTO c0 c1 c2 c3 c4
          go_wp2
          go_ret
          exact ⟨by rw [HF.out]; rfl, B2.out⟩
        | true =>
          have HAX := Lib.hid (tensorB_axes htb).1
          have HTBT := Lib.hid htb
          rw [htb] at HTO
          clear htb
          obtain ⟨mL, hmL⟩ : ∃ m, m = L.length := ⟨_, rfl⟩
          obtain ⟨mD, hmD⟩ : ∃ m, m = D.length := ⟨_, rfl⟩
          rw [← hmL, ← hmD] at TB HTW
          rw [← hmL] at k0
          rw [← hmD] at k1
          have HML := Lib.hid (And.intro hmL hmD)
          have hld : mL = mD := by rw [hmL, hmD]; exact HAX.out.2.1
          have hl12 : mL ≤ 12 := by rw [hmL]; exact HAX.out.1
          go_wp2_with fail
          rw [← hWB, ← hmL, ← hmD]
          rw [← hmL, ← hmD] at HTO
          have HTC : Hid (∀ V, Below WB.heap.size WB V → V.cell? ⟨wr.heap.size, 0, none⟩ = some (.slice a1 mL d1) ∧ V.cell? ⟨wr.heap.size, 1, none⟩ = some (.slice a2 mD d2)) := Lib.hid (fun V hV => by
            have h := TB.out.step hV
            exact ⟨h.c0, h.c1⟩)
          have HWW := Lib.hid HW.out.size
          obtain ⟨bt, hbt⟩ : ∃ b, b = wr.heap.size := ⟨_, rfl⟩
          rw [← hbt] at HTC ⊢
          clear hWB hmL hmD hln hbt TB
          refine HTO.out.mono ?_
          rintro e w2 ⟨rfl, hb⟩
          have HB2 := Lib.hid hb
          clear hb HTO c0 c1 c2 c3 c4 k0 k1 k2
          obtain ⟨s0, s1⟩ := HTC.out _ HB2.out
          go_wp2
          go_loopw [34] (fun i ws => ∃ c : Nat, c ≤ mL ∧ i = .int .i64 c ∧ Hid (AgreeTo (ts.take j) (L, D, X) c) ∧ Hid (Below WB.heap.size WB ws)) (fun i _ => mL - (intOf i).toNat)
          case atStart => exact ⟨0, by omega, rfl, Lib.hid (fun i x hi => absurd hi (Nat.not_lt_zero _)), HB2⟩
          case round =>
            clear HB2 s0 s1
            obtain ⟨c, hc, rfl, HA, HWs⟩ := hrel
            have HW3 := Lib.hid (HW2.out.trans (HWs.out.mono HW2.out.size))
            by_cases hcl : c < mL
            · obtain ⟨x, X1⟩ : ∃ x, Hid (L[c]? = some x) := ⟨_, List.getElem?_eq_getElem (by rw [← HML.out.1]; exact hcl)⟩
              obtain ⟨y, Y1⟩ : ∃ y, Hid (D[c]? = some y) := ⟨_, List.getElem?_eq_getElem (by rw [← HML.out.2]; omega)⟩
              obtain ⟨b1, o1, rfl, -, e1⟩ := (HTW.out.l.below (HWs.out.mono HW2.out.size) (Nat.le_refl _)).cellAt X1.out
              have HD := Lib.hid (dim_spec (x := x) ((HT.out.below HW3.out (Nat.le_refl _)).take j (by rw [← HN.out]; omega)) HW3.out.size (HLN.out.take j) HV.out.ax)
              obtain ⟨d, hd⟩ : ∃ d, d = dimT (ts.take j) x := ⟨_, rfl⟩
              rw [← hd] at HD
              have HDD := Lib.hid hd
              have hjc : j ≤ cap := by omega
              obtain ⟨c0, c1, c2, c3, c4⟩ := HC.out _ HW3.out
              clear hd
              go_wp2_with fail
              refine HD.out.mono ?_
              rintro e w3 ⟨rfl, hb⟩
              have HWt := Lib.hid (HWs.out.trans (hb.mono HWs.out.size))
              have HW4 := Lib.hid (HW2.out.trans (HWt.out.mono HW2.out.size))
              clear hb HD c0 c1 c2 c3 c4 e1
              obtain ⟨s0, s1⟩ := HTC.out _ HWt.out
              obtain ⟨b2, o2, rfl, -, e2⟩ := (HTW.out.d.below (HWt.out.mono HW2.out.size) (Nat.le_refl _)).cellAt Y1.out
              have hcD : c < mD := by omega
              by_cases h0 : 0 < d
              · have q2 : decide (0 < d) = true := by simpa using h0
                by_cases hdy : d = y
                · have HA2 : Hid (AgreeTo (ts.take j) (L, D, X) (c + 1)) := Lib.hid (agree_step HA.out X1.out (fun _ => by
                    rw [← HDD.out, hdy]
                    show y = D.getD c 0
                    rw [List.getD_eq_getElem?_getD, Y1.out]; rfl))
                  have q3 : (d != y) = false := by simp; exact hdy
                  clear hdy
                  go_wp2
                  go_roundw
                  case rel => exact ⟨c + 1, by omega, by go_num, HA2, HWt⟩
                  case measure => simp [intOf]; omega
                · have HF : Hid (r = false) := Lib.hid (by
                    rw [HR.out]
                    exact netB_false fun h => by
                      have h1 := (h.2.2.1 j _ T1.out).2 c x (by show c < L.length; rw [← HML.out.1]; exact hcl) X1.out (by rw [← HDD.out]; exact h0)
                      rw [← HDD.out] at h1
                      apply hdy
                      rw [h1]
                      show D.getD c 0 = y
                      rw [List.getD_eq_getElem?_getD, Y1.out]; rfl)
                  have q3 : (d != y) = true := by simp; exact hdy
                  have B4 := Lib.hid (B0.out.trans (HW4.out.mono B0.out.size))
                  clear hdy
                  go_wp2
                  go_ret
                  exact ⟨by rw [HF.out]; rfl, B4.out⟩
              · have q2 : decide (0 < d) = false := by simpa using h0
                have HA2 : Hid (AgreeTo (ts.take j) (L, D, X) (c + 1)) := Lib.hid (agree_step HA.out X1.out (fun h => absurd (by rw [← HDD.out] at h; exact h) h0))
                go_wp2
                go_roundw
                case rel => exact ⟨c + 1, by omega, by go_num, HA2, HWt⟩
                case measure => simp [intOf]; omega
            · obtain rfl : c = mL := by omega
              have HV2 : Hid (NetV k p q (ts.take (j + 1))) := Lib.hid (netV_take HV.out T1.out HTBT.out (by
                show AgreeTo (ts.take j) (L, D, X) L.length
                rw [← HML.out.1]; exact HA.out))
              go_wp2
              go_roundw
              case rel => exact ⟨j + 1, by omega, by go_num, HV2, HW3⟩
              case measure => simp [intOf]; omega
      · obtain rfl : j = n := by omega
        have HVT : Hid (NetV k p q ts) := Lib.hid (by
          have h := HV.out
          rw [List.take_of_length_le (by rw [← HN.out]; exact Nat.le_refl _)] at h
          exact h)
        have HDS := Lib.hid (fun (W : World) (hW : Below W0.heap.size W0 W) => dims_spec (HT.out.below hW (Nat.le_refl _)) (HO.out.below hW (Nat.le_refl _)) hW.size hW.size HLN.out HVT.out.ax (by rw [← HM.out]; exact hO))
        obtain ⟨ds, hds⟩ : ∃ l, l = O.map (dimT ts) := ⟨_, rfl⟩
        rw [← hds] at HDS
        have HDL : Hid (ds.length = m) := Lib.hid (by rw [hds, List.length_map, ← HM.out])
        have HRS : Hid (decide (0 ≤ sizeI O ds) = r) := Lib.hid (by
          rw [HR.out, hds]
          by_cases h0 : 0 ≤ sizeI O (O.map (dimT ts))
          · rw [netB_true.2 ⟨HRB.out, by rw [← HN.out]; exact hle, HVT.out, h0⟩, decide_eq_true h0]
          · rw [netB_false fun h => h0 h.2.2.2, decide_eq_false h0])
        have HWD := Lib.hid HW.out.drew
        clear hds c0 c1 c2 c3 c4
        obtain ⟨c0, c1, c2, c3, c4⟩ := HC.out _ HWD.out
        go_wp2
        go_region_held3 (fun V => V.cell? ⟨w.heap.size, 3, none⟩ = some (.slice a j cap) ∧ V.cell? ⟨w.heap.size, 4, none⟩ = some (.slice ao m co)) (exact ⟨c3, c4⟩) (first
          | (go_at_call 48; refine (HDS.out _ HWD.out).mono ?_; rintro e w4 ⟨vD, rfl, oD, hb⟩; have RDs := Lib.hid oD.rd; obtain ⟨aD, cD, rfl, -⟩ := ints_form oD.rd; have HWE := Lib.hid (HWD.out.trans (hb.mono HWD.out.size)); clear hb oD c0 c1 c2 c3 c4; obtain ⟨c0, c1, c2, c3, c4⟩ := HC.out _ HWE.out)
          | (go_at_call 47; refine (size_spec (B := w4.heap.size) (L := O) (D := ds) (X := []) ⟨(HO.out.below HWE.out (Nat.le_refl _)).mono HWE.out.size, RDs.out, .inl ⟨rfl, none, 0, rfl⟩⟩ (Nat.le_refl _) ⟨by rw [← HM.out]; omega, by rw [HDL.out]; omega, by simp⟩).mono ?_; rintro e w5 ⟨rfl, hb⟩; have HWF := Lib.hid (HWE.out.trans (hb.mono HWE.out.size)); clear hb c0 c1 c2 c3 c4; obtain ⟨c0, c1, c2, c3, c4⟩ := HC.out _ HWF.out))
        have BF := Lib.hid (B0.out.trans (HWF.out.mono B0.out.size))
        clear c0 c1 c2 c3 c4
        go_wp2
        go_ret
        exact ⟨by rw [← HRS.out]; rfl, BF.out⟩
/-- spec.NetworkOk. -/
theorem net_ok_spec {B B' : Nat} {tv ov : Value} {k p q : Int} {ts : List TenE} {O : List Int} {w : World} (h : RdTs B w tv ts) (ho : Rd B' w ov (ints O)) (hcap : ∀ a n c, tv = .slice a n c → n ≤ c) (hB : B ≤ w.heap.size) (hB' : B' ≤ w.heap.size) (hn : LenTs ts) (hO : O.length ≤ 1048576) :
    Calls Try.prog 13 #[netV k p q tv ov] w fun e w' => e = .returned (.bool (netB k p q ts O)) ∧ Below w.heap.size w w' := by
  obtain ⟨a, cap, rfl⟩ := h.form
  obtain ⟨ao, co, rfl, -⟩ := ints_form ho
  exact net_ok_full rfl rfl (hcap _ _ _ rfl) h ho hB hB' hn hO
end Go.Proofs.Ytdheakjjnaifkaa
