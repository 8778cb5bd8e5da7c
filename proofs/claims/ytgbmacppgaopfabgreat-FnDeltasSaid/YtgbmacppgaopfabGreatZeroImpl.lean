
/- slices.Repeat. -/
import Derived.Test.YtgbmacppgaopfabGreatZero
import Derived.Test.YtgbmacppgaopfabGreatShelfMul
import Derived.Laws.CopyOwn
import Derived.Deep.RegionLaw
import Derived.Test.YtgbmacppgaopfabGreatRs
import Derived.Deep.RegionHeld3
import Derived.Test.YtgbmacppgaopfabGreatSizeImpl
namespace Go.Proofs.YtgbmacppgaopfabGreat
set_option maxRecDepth 20000
open Go.RowKit

theorem repL_add (z : List Int) (a b : Nat) : repL z (a + b) = repL z a ++ repL z b := by
  unfold repL
  rw [← List.flatten_append, List.replicate_append_replicate]
theorem repL_one (z : List Int) : repL z 1 = z := by simp [repL]
theorem repL_take (z : List Int) {a b : Nat} (h : a ≤ b) : (repL z b).take (a * z.length) = repL z a := by
  obtain ⟨d, rfl⟩ : ∃ d, b = a + d := ⟨b - a, by omega⟩
  rw [repL_add, List.take_append_of_le_length (by rw [repL_len]; exact Nat.le_refl _), List.take_of_length_le (by rw [repL_len]; exact Nat.le_refl _)]
theorem cell_heap {w : World} {g j : Nat} {t : TypeId} {f : Nat × Nat} {cur : List Value} {v : Value} (h : w.heap[g]? = some (.cells cur.toArray t f)) (hj : cur[j]? = some v) : w.cell? ⟨g, j, none⟩ = some v := by
  simp [World.cell?, h, hj]
/-- A row under way: the first q cells are z, j times. -/
structure Rep (w wr : World) (g m c N j q : Nat) (z : List Int) (cur : List Value) : Prop where
  hq : q = j * m
  hj : 1 ≤ j ∧ j ≤ c
  len : cur.length = N
  pre : cur.take q = ints (repL z j)
  heap : wr.heap[g]? = some (.cells cur.toArray 3 (0, 0))
  bel : Below w.heap.size w wr
theorem ints_take (xs : List Int) (n : Nat) : (ints xs).take n = ints (xs.take n) := by simp [ints, List.map_take]
theorem Rep.more {w wr w' : World} {g m c N j q : Nat} {z : List Int} {cur : List Value} (h : Rep w wr g m c N j q z cur) (hz : z.length = m) (hN : N = c * m) (hlt : q < N)
    (hh : w'.heap[g]? = some (.cells (splice cur q (cur.take (Nat.min q (N - q)))).toArray 3 (0, 0))) (hb : Below w.heap.size w w') :
    Rep w w' g m c N (j + Nat.min j (c - j)) (q + Nat.min q (N - q)) z (splice cur q (cur.take (Nat.min q (N - q)))) := by
  obtain ⟨hq, ⟨hj1, hj2⟩, hl, hp, -, -⟩ := h
  have hd : Nat.min q (N - q) = Nat.min j (c - j) * m := by
    show min q (N - q) = min j (c - j) * m
    rw [hN, hq, ← Nat.sub_mul, Nat.mul_min_mul_right]
  have hdle : Nat.min q (N - q) ≤ q := Nat.min_le_left _ _
  have hdle2 : Nat.min q (N - q) ≤ N - q := Nat.min_le_right _ _
  have hm1 : Nat.min j (c - j) ≤ c - j := Nat.min_le_right _ _
  have hm2 : Nat.min j (c - j) ≤ j := Nat.min_le_left _ _
  have e2 : (cur.take (Nat.min q (N - q))).length = Nat.min q (N - q) := by rw [List.length_take]; omega
  refine ⟨by rw [hd, Nat.add_mul, ← hq], ⟨by omega, by omega⟩, by rw [length_splice _ _ _ (by omega), hl], ?_, hh, hb⟩
  have e1 : cur.take (Nat.min q (N - q)) = ints (repL z (Nat.min j (c - j))) := by
    rw [← repL_take z hm2, ← ints_take, ← hp, List.take_take, hz, ← hd, Nat.min_eq_left hdle]
  rw [repL_add, ints_append, ← hp, ← e1]
  unfold splice
  have e3 : (cur.take q).length = q := by rw [List.length_take]; omega
  rw [← List.append_assoc, List.take_append_of_le_length (by rw [List.length_append, e2, e3]; exact Nat.le_refl _), List.take_of_length_le (by rw [List.length_append, e2, e3]; exact Nat.le_refl _)]

set_option maxHeartbeats 3200000 in
theorem repeat_full (b off cap m c N : Nat) (z : List Int) (w : World) (hm : z.length = m) (hm1 : 1 ≤ m) (hm2 : m ≤ 6) (hc1 : 1 ≤ c) (hc2 : c ≤ 4194304) (hN : N = c * m) (hb : b < w.heap.size) (hz : ∀ j u, (ints z)[j]? = some u → w.cell? ((⟨b, off, none⟩ : Addr).add j) = some u) :
    Calls Tryz.prog 42 #[.slice (some ⟨b, off, none⟩) m cap, .int .i64 c] w (NewRow w (repL z c)) := by
  have hN1 : N ≤ 25165824 := by rw [hN]; exact Nat.mul_le_mul hc2 hm2
  have hN2 : m ≤ N := by rw [hN]; exact Nat.le_mul_of_pos_left m hc1
  have HMUL : Hid (Calls Tryz.prog 82 #[.int .u64 m, .int .u64 c] w fun e w' => e = .returned (.tuple #[.int .u64 0, .int .u64 (N : Int)]) ∧ w' = w) := Lib.hid (by
    have h := Tryz.bits_Mul m c (by omega) (by omega) w
    have e1 : m * c = N := by rw [hN, Nat.mul_comm]
    rw [e1, show N / 18446744073709551616 = 0 by omega, show N % 18446744073709551616 = N by omega] at h
    exact h)
  have HM := Lib.hid hm
  have HN := Lib.hid hN
  have HBW := Lib.hid hb
  obtain ⟨Z, hZ⟩ : ∃ Z, Z = ints z := ⟨_, rfl⟩
  rw [← hZ] at hz
  have HZ := Lib.hid hz
  have HZI := Lib.hid hZ
  have HZL : Hid (Z.length = m) := Lib.hid (by rw [hZ, ints_len, hm])
  have HZ1 : Hid (∀ u ∈ Z, u.oneCell' = true) := Lib.hid (by rw [hZ]; exact one_cells z)
  have hu1 : IntKind.u64.wrap (m : Int) = m := by rw [IntKind.wrap_u64]; omega
  have hu2 : IntKind.u64.wrap (c : Int) = c := by rw [IntKind.wrap_u64]; omega
  have hu3 : IntKind.i64.wrap (N : Int) = N := IntWalk.i64_in _ (by omega)
  have hq1 : decide ((9223372036854775807 : Int) < (N : Int)) = false := by simp; omega
  have hq2 : decide ((c : Int) < 0) = false := by simp
  obtain ⟨i0, hi, hz0, hz1, hz2⟩ := info_parts infoInt
  clear hm hN hz hZ hb
  go_enter Tryz.func42, Tryz.ntmps42
  go_wp2_with fail
  refine HMUL.out.mono ?_
  rintro e w1 ⟨rfl, rfl⟩
  go_wp2_with (at_make; refine wpList_make_full _ rfl _ _ 26 rfl w1.heap.size 3 i0 (.int .i64 0) 1 Tryz.underlying26 hi hz0 hz1 .i64 .i64 _ _ N rfl rfl rfl rfl (by rw [hz2]; omega) (by unfold maxLen; omega) (Nat.le_refl _) ?_)
  intro w2 hown hgrow
  obtain ⟨cur0, hl0, hh0⟩ : ∃ cur : List Value, cur.length = N ∧ w2.heap[w1.heap.size]? = some (.cells cur.toArray 3 (0, 0)) := by
    rcases hown.2 with ⟨h, -⟩ | ⟨g, cap, cur, e, hb, hg, hnc, hcm, hcs, hct⟩
    · cases h
    · simp only [Value.slice.injEq, Option.some.injEq, Addr.mk.injEq, and_true, true_and] at e
      obtain ⟨rfl, rfl⟩ := e
      exact ⟨cur.toList, by simp; omega, by simpa using hg⟩
  have HH0 := Lib.hid hh0
  have HL0 := Lib.hid hl0
  have HB2 := Lib.hid ((Below.refl w1.heap.size w1).grown hgrow (Nat.le_refl _) (fun j hj => by cases hj))
  clear hown hgrow hh0 hl0
  go_wp2_with ((with_reducible show wpList _ _ _ (⟨some 33, _, _, _, _, _⟩ :: _) _ _); go_must (refine wpList_copy_splice rfl _ _ 26 26 rfl 3 Tryz.underlying26 ?ci (some ⟨w1.heap.size, 0, none⟩) (some ⟨b, off, none⟩) N N m cap rfl rfl w1.heap.size 0 cur0 3 HH0.out Z ?cn ?cp ?cf HZ1.out w1.heap.size w1 HB2.out (Nat.le_refl _) ?_))
  case ci => rw [hi]; simp [hz1]
  case cn => rw [HZL.out]; exact (Nat.min_eq_left hN2).symm
  case cp =>
    intro _ j v hj
    have h := HZ.out j v hj
    rw [Addr.add_lit] at h
    exact (HB2.out.cell (p := ⟨b, off + j, none⟩) HBW.out).trans h
  case cf => rw [HZL.out, HL0.out]; omega
  intro w3 hh3 hb3
  rw [HZL.out]
  have HR3 : Hid (Rep w1 w3 w1.heap.size m c N 1 m z (splice cur0 0 Z)) := Lib.hid ⟨by rw [Nat.one_mul], ⟨Nat.le_refl _, hc1⟩, by rw [length_splice _ _ _ (by rw [HZL.out, HL0.out]; omega), HL0.out], by
    have e1 : (splice cur0 0 Z).take m = Z := by
      unfold splice
      rw [List.take_zero, List.nil_append, List.take_append_of_le_length (by rw [HZL.out]; exact Nat.le_refl _), List.take_of_length_le (by rw [HZL.out]; exact Nat.le_refl _)]
    rw [e1, HZI.out, repL_one], hh3.out, hb3⟩
  clear hh3 hb3 HH0 HB2
  go_wp2
  go_loopw [8] (fun s wr => ∃ (j q : Nat) (cur : List Value), s = .int .i64 q ∧ 1 ≤ q ∧ q ≤ N ∧ Hid (Rep w1 wr w1.heap.size m c N j q z cur)) (fun s _ => N - (intOf s).toNat)
  case atStart => exact ⟨1, m, _, rfl, hm1, hN2, HR3⟩
  case round =>
    clear HR3
    obtain ⟨j, q, cur, rfl, hq0, hqN, HR⟩ := hrel
    by_cases hlt : q < N
    · have hne : ¬ N = q := by omega
      have hltI : (q : Int) < (N : Int) := by omega
      have hgq : (q : Int) ≤ (N : Int) := by omega
      have hmin1 : 1 ≤ Nat.min q (N - q) := by show 1 ≤ min q (N - q); omega
      have hmin2 : Nat.min q (N - q) ≤ N - q := Nat.min_le_right _ _
      obtain ⟨d, hd⟩ : ∃ d, d = Nat.min q (N - q) := ⟨_, rfl⟩
      have HD := Lib.hid hd
      obtain ⟨cs, hcs⟩ : ∃ cs, cs = cur.take d := ⟨_, rfl⟩
      have HCS := Lib.hid hcs
      have HCL : Hid (cs.length = d) := Lib.hid (by rw [hcs, List.length_take]; have := HR.out.len; omega)
      rw [← hd] at hmin1 hmin2
      have hwd : IntKind.i64.wrap ((q : Int) + (d : Int)) = (q : Int) + d := IntWalk.i64_in _ (by omega)
      have HC1 : Hid (∀ u ∈ cs, u.oneCell' = true) := Lib.hid (by
        intro u hu
        rw [hcs] at hu
        have h1 : u ∈ cur.take q := List.mem_of_mem_take (i := d) (by rw [List.take_take, Nat.min_eq_left (by rw [hd]; exact Nat.min_le_left _ _)]; exact hu)
        rw [HR.out.pre] at h1
        exact one_cells _ u h1)
      clear hd hcs
      go_wp2
      go_region_law (refine step_copy_splice rfl (.tmp 41) (.tmp 44) 26 26 rfl 3 Tryz.underlying26 ?_ (some ⟨w1.heap.size, q, none⟩) (some ⟨w1.heap.size, 0, none⟩) (N - q) (N - q) q N ?_ ?_ w1.heap.size q cur 3 HR.out.heap cs ?_ ?_ ?_ HC1.out w1.heap.size w1 HR.out.bel.drew (Nat.le_refl _) ?_
                     · rw [hi]; simp [hz1]
                     · simp [Act.eval, Act.put]
                     · simp [Act.eval, Act.put]
                     · rw [HCL.out, HD.out]
                     · exact fun _ => ⟨rfl, _, rfl, fun j v hj => by
                         rw [Addr.add_lit, Nat.zero_add]
                         refine cell_heap (w := wr.drew) HR.out.heap ?_
                         rw [HCS.out] at hj
                         have hlt := (List.getElem?_eq_some_iff.1 hj).1
                         rw [List.length_take] at hlt
                         rw [List.getElem?_take_of_lt (by omega)] at hj
                         exact hj⟩
                     · rw [HCL.out, HR.out.len]; omega
                     intro w4 hh4 hb4
                     rw [HCL.out]
                     have HR4 : Hid (Rep w1 w4 w1.heap.size m c N (j + Nat.min j (c - j)) (q + d) z (splice cur q cs)) := Lib.hid (by
                       have h1 := hh4.out
                       rw [HCS.out, HD.out] at h1 ⊢
                       exact HR.out.more HM.out HN.out hlt h1 hb4)
                     clear hh4 hb4)
      all_goals
        go_wp2
        simp only [Act.put, List.getElem_toArray, List.getElem_cons_succ, List.getElem_cons_zero, List.setIfInBounds_toArray, List.set_cons_zero, List.set_cons_succ]
        go_roundw
        case rel => exact ⟨_, q + d, _, by go_num, by omega, by omega, HR4⟩
        case measure => simp [intOf]; omega
    · obtain rfl : q = N := by omega
      have hltI : ¬ (q : Int) < (q : Int) := by omega
      go_wp2
      go_ret
      have h := HR.out
      have hjc : j = c := by
        have h1 := h.hq
        rw [HN.out] at h1
        exact (Nat.eq_of_mul_eq_mul_right (by omega) h1).symm
      subst hjc
      have hcur : cur = ints (repL z j) := by
        rw [← h.pre, List.take_of_length_le (by rw [h.len]; exact Nat.le_refl _)]
      have hlen : (repL z j).length = q := by rw [repL_len, HM.out, ← h.hq]
      refine ⟨_, rfl, Own.of (n := q) ⟨by rw [ints_len, hlen, Nat.mul_one], .inr ⟨w1.heap.size, q, cur.toArray, rfl, Nat.le_refl _, h.heap, Nat.le_refl _, by unfold maxLen; omega, by simp [h.len], ?_⟩⟩ hlen, h.bel⟩
      show List.take (q * 1) cur = _
      rw [Nat.mul_one, List.take_of_length_le (by rw [h.len]; exact Nat.le_refl _), hcur]
set_option maxHeartbeats 1600000 in
theorem repeat_none (b off cap m : Nat) (w : World) (hm2 : m ≤ 6) :
    Calls Tryz.prog 42 #[.slice (some ⟨b, off, none⟩) m cap, .int .i64 0] w (NewRow w []) := by
  have HMUL : Hid (Calls Tryz.prog 82 #[.int .u64 m, .int .u64 0] w fun e w' => e = .returned (.tuple #[.int .u64 0, .int .u64 0]) ∧ w' = w) := Lib.hid (by
    have h := Tryz.bits_Mul m 0 (by omega) (by omega) w
    simpa using h)
  have hu1 : IntKind.u64.wrap (m : Int) = m := by rw [IntKind.wrap_u64]; omega
  obtain ⟨i0, hi, hz0, hz1, hz2⟩ := info_parts infoInt
  go_enter Tryz.func42, Tryz.ntmps42
  go_wp2_with fail
  refine HMUL.out.mono ?_
  rintro e w1 ⟨rfl, rfl⟩
  go_wp2_with (at_make; refine wpList_make_full _ rfl _ _ 26 rfl w1.heap.size 3 i0 (.int .i64 0) 1 Tryz.underlying26 hi hz0 hz1 .i64 .i64 _ _ 0 rfl rfl rfl rfl (by rw [hz2]; omega) (by unfold maxLen; omega) (Nat.le_refl _) ?_)
  intro w2 hown hgrow
  have HB2 := Lib.hid ((Below.refl w1.heap.size w1).grown hgrow (Nat.le_refl _) (fun j hj => by cases hj))
  have HO := Lib.hid hown
  clear hown hgrow
  go_wp2_with ((with_reducible show wpList _ _ _ (⟨some 33, _, _, _, _, _⟩ :: _) _ _); go_must (refine wpList_copy_nothing rfl _ _ 26 26 rfl 3 Tryz.underlying26 ?ci (some ⟨w1.heap.size, 0, none⟩) (some ⟨b, off, none⟩) 0 0 m cap rfl rfl (Nat.min_zero m) ?_))
  case ci => rw [hi]; simp [hz1]
  go_wp2
  go_loopw [8] (fun s wr => s = .int .i64 0 ∧ w2 = wr) (fun s _ => 0)
  case atStart => exact ⟨rfl, rfl⟩
  case round =>
    obtain ⟨rfl, rfl⟩ := hrel
    go_wp2
    go_ret
    refine ⟨_, rfl, ?_, HB2.out⟩
    have h2 : w2.ownsRow w1.heap.size 3 1 (.slice (some ⟨w1.heap.size, 0, none⟩) 0 0) 0 (ints []) := by
      have h := HO.out
      have e := List.length_eq_zero_iff.1 (show _ = 0 from by have e1 := h.1; rw [Nat.zero_mul] at e1; exact e1)
      rw [e] at h
      exact h
    exact Own.of h2 rfl
end Go.Proofs.YtgbmacppgaopfabGreat
namespace Go.Proofs.YtgbmacppgaopfabGreat
set_option maxRecDepth 20000
open Go.RowKit

set_option maxHeartbeats 1600000 in
theorem clone_ten {B : Nat} {lv dv xv : Value} {L D X : List Int} {w : World} (h : RdT B w lv dv xv L D X) (hB : B ≤ w.heap.size) (h1 : L.length ≤ 1099511627776) (h2 : D.length ≤ 1099511627776) (h3 : X.length ≤ 1099511627776) :
    Calls Tryz.prog 41 #[tenV lv dv xv] w (NewTen w L D X) := by
  have H0 := Lib.hid h
  have HB := Lib.hid hB
  obtain ⟨al, cl, rfl, -⟩ := ints_form h.l
  obtain ⟨ad, cd, rfl, -⟩ := ints_form h.d
  obtain ⟨ax, cx, rfl, -⟩ := ints_form h.x
  have T0 := Lib.hid (Bx.two w (.slice al L.length cl) (.slice ad D.length cd) (.slice ax X.length cx) nilV nilV nilV 28 28)
  have HI1 := Lib.hid (fun (w1 : World) (hb : Below w.heap.size w w1) => clone_any (H0.out.below hb HB.out).l (Nat.le_trans HB.out hb.size) h1)
  have HI2 := Lib.hid (fun (w1 : World) (hb : Below w.heap.size w w1) => clone_any (H0.out.below hb HB.out).d (Nat.le_trans HB.out hb.size) h2)
  have HI3 := Lib.hid (fun (w1 : World) (hb : Below w.heap.size w w1) => clone_any (H0.out.below hb HB.out).x (Nat.le_trans HB.out hb.size) h3)
  obtain ⟨ml, hml⟩ : ∃ m, m = L.length := ⟨_, rfl⟩
  obtain ⟨md, hmd⟩ : ∃ m, m = D.length := ⟨_, rfl⟩
  obtain ⟨mx, hmx⟩ : ∃ m, m = X.length := ⟨_, rfl⟩
  rw [← hml, ← hmd, ← hmx] at T0 ⊢
  rw [← hml] at HI1
  rw [← hmd] at HI2
  rw [← hmx] at HI3
  clear h hB h1 h2 h3 H0 hml hmd hmx
  go_enter Tryz.func41, Tryz.ntmps41
  go_wp2
  generalize hW : (w.alloc (.cells #[.slice al ml cl, .slice ad md cd, .slice ax mx cx] 28)).alloc (.cells #[nilV, nilV, nilV] 28) = w1 at T0 ⊢
  clear hW
  have T1 := Lib.hid (And.intro (T0.out.1.step ((Below.refl _ _).drew)) (T0.out.2.step ((Below.refl _ _).drew)))
  clear T0
  obtain ⟨-, s0, s1, s2, -⟩ := T1.out.1
  have AR1 := Lib.hid True.intro
  have AR2 := Lib.hid True.intro
  have AR3 := Lib.hid True.intro
  go_region_held3 (fun w' => w'.cell? ⟨w.heap.size, 0, none⟩ = some (.slice al ml cl) ∧ w'.cell? ⟨w.heap.size, 1, none⟩ = some (.slice ad md cd) ∧ w'.cell? ⟨w.heap.size, 2, none⟩ = some (.slice ax mx cx)) (first | exact ⟨s0, s1, s2⟩ | with_reducible exact set3_keep (Nat.ne_of_lt (Nat.lt_succ_self _)) s0 s1 s2) (first
    | (go_at_call 81; have AR := AR1; clear AR AR1; refine (HI1.out _ T1.out.1.bel).mono ?_; rintro e w2 ⟨u1, rfl, ho, hb⟩; obtain ⟨a1, c1, rfl, -⟩ := ints_form ho.rd; have T2 := Lib.hid (And.intro (T1.out.1.step hb) (T1.out.2.step hb)); have Z2 := Lib.hid hb.size; have O12 := Lib.hid ho; clear ho hb s0 s1 s2; obtain ⟨-, s0, s1, s2, -⟩ := T2.out.1)
    | (go_at_call 81; have AR := AR2; clear AR AR2; refine (HI2.out _ T2.out.1.bel).mono ?_; rintro e w3 ⟨u2, rfl, ho, hb⟩; obtain ⟨a2, c2, rfl, -⟩ := ints_form ho.rd; have T3 := Lib.hid (And.intro (T2.out.1.step hb) (T2.out.2.step hb)); have Z3 := Lib.hid hb.size; have O13 := Lib.hid (O12.out.below hb (Nat.le_refl _)); have O23 := Lib.hid ho; clear ho hb s0 s1 s2; obtain ⟨-, s0, s1, s2, -⟩ := T3.out.1)
    | (go_at_call 81; have AR := AR3; clear AR AR3; refine (HI3.out _ T3.out.1.bel).mono ?_; rintro e w4 ⟨u3, rfl, ho, hb⟩; obtain ⟨a3, c3, rfl, -⟩ := ints_form ho.rd; have T4 := Lib.hid (And.intro (T3.out.1.step hb) (T3.out.2.step hb)); have Z4 := Lib.hid hb.size; have O14 := Lib.hid (O13.out.below hb (Nat.le_refl _)); have O24 := Lib.hid (O23.out.below hb (Nat.le_refl _)); have O34 := Lib.hid ho; clear ho hb s0 s1 s2; obtain ⟨-, s0, s1, s2, -⟩ := T4.out.1; obtain ⟨-, t0, t1, t2, fr, -, -⟩ := T4.out.2; have f0 := fr 0; have f1 := fr 1; have f2 := fr 2; clear fr))
  clear s0 s1 s2
  go_wp2
  refine bodyPost_ret (v := tenV (.slice a1 L.length c1) (.slice a2 D.length c2) (.slice a3 X.length c3)) (by simp [results, Tryz.results41, go_sem, t0, t1, t2]) rfl ?_
  have z1 := T1.out.2.lt
  have z1' := T1.out.1.bel.size
  have z2 := Z2.out
  have z3 := Z3.out
  have z4 := Z4.out
  refine ⟨_, _, _, rfl, ?_, ((T4.out.2.bel.setCell (by simp) _).setCell (by simp) _).setCell (by simp) _⟩
  exact OwnG.wide (lo := w1.drew.heap.size) (hi := w4.heap.size) (OwnG.three (m1 := w2.heap.size) (m2 := w3.heap.size) (Own.set (Own.set (Own.set O14.out (by omega) _) (by omega) _) (by omega) _) (Own.set (Own.set (Own.set O24.out (by omega) _) (by omega) _) (by omega) _) (Own.set (Own.set (Own.set O34.out (by omega) _) (by omega) _) (by omega) _) z2 z3 z4) z1' (by simp) (by simp)
end Go.Proofs.YtgbmacppgaopfabGreat
namespace Go.Proofs.YtgbmacppgaopfabGreat
set_option maxRecDepth 20000
open Go.RowKit

/-- What a function answers that makes a tensor and says whether. -/
def NewTenB (w : World) (L D X : List Int) (b : Bool) (e : Ending) (w' : World) : Prop := ∃ lv dv xv, e = .returned (.tuple #[tenV lv dv xv, .bool b]) ∧ OwnG w' w.heap.size w'.heap.size [(lv, L), (dv, D), (xv, X)] ∧ Below w.heap.size w w'
theorem NewTenB.nils {w w' : World} {b : Bool} (h : Below w.heap.size w w') : NewTenB w [] [] [] b (.returned (.tuple #[tenV nilV nilV nilV, .bool b])) w' :=
  ⟨_, _, _, rfl, OwnG.three (Own.nils h.size) (Own.nils (Nat.le_refl _)) (Own.nils (Nat.le_refl _)) (Nat.le_refl _) h.size (Nat.le_refl _), h⟩
noncomputable def zeroTenB (k p q : Int) (L D : List Int) : Bool := ringB k p q && decide (0 ≤ sizeI L D)
noncomputable def zeroTenL (k p q : Int) (D : List Int) : List Int := repL (zeroL k p q) (prodL D).toNat
end Go.Proofs.YtgbmacppgaopfabGreat
namespace Go.Proofs.YtgbmacppgaopfabGreat
set_option maxRecDepth 20000
open Go.RowKit

set_option maxHeartbeats 3200000 in
theorem zero_tensor_impl {B : Nat} {lv dv : Value} {k p q : Int} {L D : List Int} {w : World} (hl : Rd B w lv (ints L)) (hd : Rd B w dv (ints D)) (hB : B ≤ w.heap.size) (h1 : L.length ≤ 281474976710656) (h2 : D.length ≤ 281474976710656) (hI : allI L) :
    Calls Tryz.prog 10 #[ringV k p q, lv, dv] w (NewTenB w (if zeroTenB k p q L D = true then L else []) (if zeroTenB k p q L D = true then D else []) (if zeroTenB k p q L D = true then zeroTenL k p q D else []) (zeroTenB k p q L D)) := by
  have HL0 := Lib.hid hl
  have HD0 := Lib.hid hd
  have HB := Lib.hid hB
  have T0 := Lib.hid (Three.start w k p q nilV nilV nilV lv dv nilV 24 28 28)
  have HT := Lib.hid (fun (w1 : World) (hb : Below w.heap.size w w1) => (⟨HL0.out.below hb HB.out, HD0.out.below hb HB.out, .inl ⟨rfl, none, 0, rfl⟩⟩ : RdT B w1 lv dv nilV L D []))
  have HS := Lib.hid (size_impl (HT.out _ T0.out.1.bel) (Nat.le_trans HB.out T0.out.1.bel.size) ⟨h1, h2, by simp⟩ hI)
  have HR := Lib.hid (fun (w1 : World) => ring_ok_impl k p q w1)
  obtain ⟨rb, hrb⟩ : ∃ b, b = ringB k p q := ⟨_, rfl⟩
  obtain ⟨s, hs⟩ : ∃ s, s = sizeI L D := ⟨_, rfl⟩
  obtain ⟨zb, hzb⟩ : ∃ b, b = zeroTenB k p q L D := ⟨_, rfl⟩
  rw [← hrb] at HR
  rw [← hs] at HS
  rw [← hzb]
  have HZB : Hid (zb = (rb && decide (0 ≤ s))) := by show _ = _; rw [hzb, hrb, hs]; rfl
  have HRB := Lib.hid hrb
  have HSI := Lib.hid hs
  obtain ⟨al, cl, rfl, -⟩ := ints_form hl
  obtain ⟨ad, cd, rfl, -⟩ := ints_form hd
  have HML := Lib.hid (And.intro h1 h2)
  obtain ⟨ml, hml⟩ : ∃ m, m = L.length := ⟨_, rfl⟩
  obtain ⟨md, hmd⟩ : ∃ m, m = D.length := ⟨_, rfl⟩
  rw [← hml, ← hmd] at HT HS T0 ⊢
  clear hl hd hB h1 h2 hI hrb hs hzb
  have HLD := Lib.hid (And.intro hml hmd)
  clear hml hmd
  obtain ⟨t0, t1, t2, f0, f1, f2⟩ := T0.out.ans
  by_cases h0 : 0 ≤ s
  · have q1 : decide (s < 0) = false := by simpa using h0
    cases rb with
    | false =>
      obtain rfl : zb = false := by rw [HZB.out]; rfl
      simp only [Bool.false_eq_true, if_false]
      clear h0
      go_enter Tryz.func10, Tryz.ntmps10
      go_wp2_with fail
      refine HS.out.mono ?_
      clear t0 t1 t2 f0 f1 f2
      rintro e w1 ⟨rfl, hb⟩
      have T1 := Lib.hid (T0.out.step hb)
      clear hb
      obtain ⟨r0, r1, r2⟩ := T1.out.ring
      go_wp2_with fail
      refine (HR.out _).mono ?_
      clear r0 r1 r2
      rintro e w2 ⟨rfl, hb⟩
      have T2 := Lib.hid (T1.out.step hb)
      clear hb
      obtain ⟨s0, s1, s2, g0, g1, g2⟩ := T2.out.second
      go_wp2
      refine bodyPost_ret (v := .tuple #[tenV nilV nilV nilV, .bool false]) (by simp [results, Tryz.results10, go_sem, s0, s1, s2]) rfl ?_
      exact NewTenB.nils (((T2.out.1.bel.setCell (by simp) _).setCell (by simp) _).setCell (by simp) _)
    | true =>
      obtain rfl : zb = true := by rw [HZB.out]; simpa using h0
      simp only [if_true]
      have hsz := sizeI_cases L D
      rw [← HSI.out] at hsz
      obtain ⟨hs1, hax, hp1, hp2⟩ : s = prodL D ∧ AxesV L D ∧ 1 ≤ prodL D ∧ prodL D ≤ 4096 := by
        rcases hsz with h | h
        · omega
        · exact h
      obtain ⟨c, rfl⟩ : ∃ c : Nat, s = (c : Int) := ⟨s.toNat, by omega⟩
      have hc1 : 1 ≤ c := by omega
      have hc2 : c ≤ 4096 := by omega
      have HC12 := Lib.hid (And.intro hc1 hc2)
      obtain ⟨wd, hwd, hwd1, hwd2⟩ := width_nat HRB.out.symm
      have HZL : Hid ((zeroL k p q).length = wd) := Lib.hid (by unfold zeroL; simp [hwd])
      have HWD := Lib.hid (And.intro hwd1 hwd2)
      have HZT : Hid (zeroTenL k p q D = repL (zeroL k p q) c) := Lib.hid (by unfold zeroTenL; congr 1; omega)
      have HCP := Lib.hid (fun (w1 : World) (hb : Below w.heap.size w w1) => clone_ten (HT.out w1 hb) (Nat.le_trans HB.out hb.size) (by have := hax.1; omega) (by have := hax.1; have := hax.2.1; omega) (by simp))
      have HZ := Lib.hid (fun (w1 : World) => zero_impl k p q w1 HRB.out.symm)
      clear hsz hs1 hax hp1 hp2 h0 hwd hwd1 hwd2 hc1 hc2
      go_enter Tryz.func10, Tryz.ntmps10
      go_wp2_with fail
      refine HS.out.mono ?_
      clear t0 t1 t2 f0 f1 f2
      rintro e w1 ⟨rfl, hb⟩
      have T1 := Lib.hid (T0.out.step hb)
      clear hb
      obtain ⟨r0, r1, r2⟩ := T1.out.ring
      go_wp2_with fail
      refine (HR.out _).mono ?_
      clear r0 r1 r2
      rintro e w2 ⟨rfl, hb⟩
      have T2 := Lib.hid (T1.out.step hb)
      clear hb
      obtain ⟨t0, t1, t2, f0, f1, f2⟩ := T2.out.ans
      go_wp2_with fail
      refine (HCP.out _ T2.out.1.bel).mono ?_
      clear t0 t1 t2 f0 f1 f2
      rintro e w3 ⟨l', d', x', rfl, hO, hb⟩
      have T3 := Lib.hid (T2.out.step hb)
      have Z3 := Lib.hid hb.size
      have AP := Lib.hid hO.2
      obtain ⟨o1, o2, o3⟩ := hO.rows
      obtain ⟨a1, c1, rfl, -⟩ := ints_form o1.rd
      obtain ⟨a2, c2, rfl, -⟩ := ints_form o2.rd
      obtain ⟨a3, c3, rfl, -⟩ := ints_form o3.rd
      have lt2 := T2.out.2.2.lt
      have hz2 := T2.out.1.bel.size
      have P1 := Lib.hid (Own.set (Own.set (Own.set o1 (b := w.heap.size + 1 + 1) (i := 0) lt2 (.slice a1 L.length c1)) (b := w.heap.size + 1 + 1) (i := 1) lt2 (.slice a2 D.length c2)) (b := w.heap.size + 1 + 1) (i := 2) lt2 (.slice a3 0 c3))
      have P2 := Lib.hid (Own.set (Own.set (Own.set o2 (b := w.heap.size + 1 + 1) (i := 0) lt2 (.slice a1 L.length c1)) (b := w.heap.size + 1 + 1) (i := 1) lt2 (.slice a2 D.length c2)) (b := w.heap.size + 1 + 1) (i := 2) lt2 (.slice a3 0 c3))
      have T4 := Lib.hid (T3.out.put (.slice a1 L.length c1) (.slice a2 D.length c2) (.slice a3 0 c3))
      obtain ⟨t0, t1, t2, f0, f1, f2⟩ := T3.out.ans
      obtain ⟨r0, r1, r2⟩ := T4.out.ring
      simp only [List.length_nil]
      clear hO hb o1 o2 o3
      go_wp2_with fail
      generalize hW4 : ((w3.setCell ⟨w.heap.size + 1 + 1, 0, none⟩ (.slice a1 L.length c1)).setCell ⟨w.heap.size + 1 + 1, 1, none⟩ (.slice a2 D.length c2)).setCell ⟨w.heap.size + 1 + 1, 2, none⟩ (.slice a3 0 c3) = w4 at T4 P1 P2 r0 r1 r2 ⊢
      have Z4 : Hid (w4.heap.size = w3.heap.size) := Lib.hid (by rw [← hW4]; simp)
      clear hW4
      refine (HZ.out _).mono ?_
      clear t0 t1 t2 f0 f1 f2 r0 r1 r2
      rintro e w5 ⟨z, rfl, ho, hb⟩
      obtain ⟨gz, cz, rfl, hnews⟩ := own_form ho HZL.out HWD.out.1
      have T5 := Lib.hid (T4.out.step hb)
      have Q1 := Lib.hid (P1.out.below hb (Nat.le_refl _))
      have Q2 := Lib.hid (P2.out.below hb (Nat.le_refl _))
      have Z5 := Lib.hid hb.size
      have HRP := Lib.hid (repeat_full gz 0 cz wd c (c * wd) (zeroL k p q) w5 HZL.out HWD.out.1 HWD.out.2 HC12.out.1 (Nat.le_trans HC12.out.2 (by omega)) rfl (Nat.lt_of_lt_of_le (ho.2.1 gz rfl) ho.2.2) hnews)
      clear hb ho hnews
      go_wp2_with fail
      refine HRP.out.mono ?_
      rintro e w6 ⟨z2, rfl, ho, hb⟩
      obtain ⟨a4, c4, rfl, -⟩ := ints_form ho.rd
      have T6 := Lib.hid (T5.out.step hb)
      have O6 := Lib.hid ho
      have Q1' := Lib.hid (Q1.out.below hb (Nat.le_refl _))
      have Q2' := Lib.hid (Q2.out.below hb (Nat.le_refl _))
      have Z6 := Lib.hid hb.size
      clear ho hb
      obtain ⟨N, hN⟩ : ∃ N, N = (repL (zeroL k p q) c).length := ⟨_, rfl⟩
      rw [← hN] at O6 ⊢
      have HN := Lib.hid hN
      clear hN
      obtain ⟨t0, t1, t2, f0, f1, f2⟩ := T6.out.ans
      have T7 := Lib.hid (T6.out.putLast (.slice a4 N c4))
      obtain ⟨u0, u1, u2, -, -, -⟩ := T7.out.ans
      obtain ⟨s0, s1, s2, g0, g1, g2⟩ := T7.out.second
      go_wp2
      refine bodyPost_ret (v := .tuple #[tenV (.slice a1 L.length c1) (.slice a2 D.length c2) (.slice a4 N c4), .bool true]) (by simp [results, Tryz.results10, go_sem, s0, s1, s2]) rfl ?_
      rw [HZT.out]
      have z3 := Z3.out
      have z4 := Z4.out
      have z5 := Z5.out
      have z6 := Z6.out
      have R1 := Own.set (Own.set (Own.set (Own.set Q1'.out (b := w.heap.size + 1 + 1) (i := 2) lt2 (.slice a4 N c4)) (b := w.heap.size + 1) (i := 0) (by omega) (.slice a1 L.length c1)) (b := w.heap.size + 1) (i := 1) (by omega) (.slice a2 D.length c2)) (b := w.heap.size + 1) (i := 2) (by omega) (.slice a4 N c4)
      have R2 := Own.set (Own.set (Own.set (Own.set Q2'.out (b := w.heap.size + 1 + 1) (i := 2) lt2 (.slice a4 N c4)) (b := w.heap.size + 1) (i := 0) (by omega) (.slice a1 L.length c1)) (b := w.heap.size + 1) (i := 1) (by omega) (.slice a2 D.length c2)) (b := w.heap.size + 1) (i := 2) (by omega) (.slice a4 N c4)
      have R3 := Own.set (Own.set (Own.set (Own.set O6.out (b := w.heap.size + 1 + 1) (i := 2) (by omega) (.slice a4 N c4)) (b := w.heap.size + 1) (i := 0) (by omega) (.slice a1 L.length c1)) (b := w.heap.size + 1) (i := 1) (by omega) (.slice a2 D.length c2)) (b := w.heap.size + 1) (i := 2) (by omega) (.slice a4 N c4)
      refine ⟨_, _, _, rfl, ?_, ((T7.out.1.bel.setCell (by simp) _).setCell (by simp) _).setCell (by simp) _⟩
      refine OwnG.wide (lo := w2.heap.size) (hi := w6.heap.size) (OwnG.of3 (ApartG.three (x := L) (y := D) (z := L) AP.out.out.1 (fun g hg hg' => ?_) (fun g hg hg' => ?_)) (R1.wide (Nat.le_refl _) (by omega) (by simp)) (R2.wide (Nat.le_refl _) (by omega) (by simp)) (R3.wide (by omega) (Nat.le_refl _) (by simp))) hz2 (by simp) (by simp)
      · have h1 := R1.2.1 g hg; have h2 := R3.lo g hg'; omega
      · have h1 := R2.2.1 g hg; have h2 := R3.lo g hg'; omega
  · obtain rfl : zb = false := by rw [HZB.out]; simp; omega
    simp only [Bool.false_eq_true, if_false]
    have q1 : decide (s < 0) = true := by simpa using h0
    clear h0
    go_enter Tryz.func10, Tryz.ntmps10
    go_wp2_with fail
    refine HS.out.mono ?_
    clear t0 t1 t2 f0 f1 f2
    rintro e w1 ⟨rfl, hb⟩
    have T1 := Lib.hid (T0.out.step hb)
    clear hb
    obtain ⟨s0, s1, s2, g0, g1, g2⟩ := T1.out.second
    go_wp2
    refine bodyPost_ret (v := .tuple #[tenV nilV nilV nilV, .bool false]) (by simp [results, Tryz.results10, go_sem, s0, s1, s2]) rfl ?_
    exact NewTenB.nils (((T1.out.1.bel.setCell (by simp) _).setCell (by simp) _).setCell (by simp) _)
end Go.Proofs.YtgbmacppgaopfabGreat
