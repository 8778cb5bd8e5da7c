
/- slices.Repeat. -/
import Derived.Test.YtlmhnlepdfdceaaZeroTen
import Derived.Test.YtlmhnlepdfdceaaShelfMul
import Derived.Laws.CopyOwn
import Derived.Deep.RegionLaw
namespace Go.Proofs.Ytlmhnlepdfdceaa
set_option maxRecDepth 20000
set_option maxRecDepth 20000
open Go.RowKit

theorem repL_add (z : List Int) (a b : Nat) : repL z (a + b) = repL z a ++ repL z b := by
  unfold repL
  rw [← List.flatten_append, List.replicate_append_replicate]
theorem repL_one (z : List Int) : repL z 1 = z := by simp [repL]
theorem repL_take (z : List Int) {a b : Nat} (h : a ≤ b) : (repL z b).take (a * z.length) = repL z a := by
  obtain ⟨d, rfl⟩ : ∃ d, b = a + d := ⟨b - a, by omega⟩
  rw [repL_add, List.take_append_of_le_length (by rw [repL_len]; exact Nat.le_refl _), List.take_of_length_le (by rw [repL_len]; exact Nat.le_refl _)]
theorem cell_heap {w : World} {g j : Nat} {t : TypeId} {f : Nat × Nat} {cur : List Value} {v : Value} (h : w.heap[g]? = some (.cells cur.toArray t f)) (hj : cur[j]? = some v) : w.cell? ⟨g, j, none⟩ = some v := by
  simp [World.cell?, h, hj]
/-- A row under way: the first q cells are z, j times. -/
structure Rep (w wr : World) (g m c N j q : Nat) (z : List Int) (cur : List Value) : Prop where
  hq : q = j * m
  hj : 1 ≤ j ∧ j ≤ c
  len : cur.length = N
  pre : cur.take q = ints (repL z j)
  heap : wr.heap[g]? = some (.cells cur.toArray 3 (0, 0))
  bel : Below w.heap.size w wr
theorem ints_take (xs : List Int) (n : Nat) : (ints xs).take n = ints (xs.take n) := by simp [ints, List.map_take]
theorem ints_append (xs ys : List Int) : ints (xs ++ ys) = ints xs ++ ints ys := by simp [ints]
theorem Rep.more {w wr w' : World} {g m c N j q : Nat} {z : List Int} {cur : List Value} (h : Rep w wr g m c N j q z cur) (hz : z.length = m) (hN : N = c * m) (hlt : q < N)
    (hh : w'.heap[g]? = some (.cells (splice cur q (cur.take (Nat.min q (N - q)))).toArray 3 (0, 0))) (hb : Below w.heap.size w w') :
    Rep w w' g m c N (j + Nat.min j (c - j)) (q + Nat.min q (N - q)) z (splice cur q (cur.take (Nat.min q (N - q)))) := by
  obtain ⟨hq, ⟨hj1, hj2⟩, hl, hp, -, -⟩ := h
  have hd : Nat.min q (N - q) = Nat.min j (c - j) * m := by
    show min q (N - q) = min j (c - j) * m
    rw [hN, hq, ← Nat.sub_mul, Nat.mul_min_mul_right]
  have hdle : Nat.min q (N - q) ≤ q := Nat.min_le_left _ _
  have hdle2 : Nat.min q (N - q) ≤ N - q := Nat.min_le_right _ _
  have hm1 : Nat.min j (c - j) ≤ c - j := Nat.min_le_right _ _
  have hm2 : Nat.min j (c - j) ≤ j := Nat.min_le_left _ _
  have e2 : (cur.take (Nat.min q (N - q))).length = Nat.min q (N - q) := by rw [List.length_take]; omega
  refine ⟨by rw [hd, Nat.add_mul, ← hq], ⟨by omega, by omega⟩, by rw [length_splice _ _ _ (by omega), hl], ?_, hh, hb⟩
  have e1 : cur.take (Nat.min q (N - q)) = ints (repL z (Nat.min j (c - j))) := by
    rw [← repL_take z hm2, ← ints_take, ← hp, List.take_take, hz, ← hd, Nat.min_eq_left hdle]
  rw [repL_add, ints_append, ← hp, ← e1]
  unfold splice
  have e3 : (cur.take q).length = q := by rw [List.length_take]; omega
  rw [← List.append_assoc, List.take_append_of_le_length (by rw [List.length_append, e2, e3]; exact Nat.le_refl _), List.take_of_length_le (by rw [List.length_append, e2, e3]; exact Nat.le_refl _)]

set_option maxHeartbeats 3200000 in
theorem repeat_full (b off cap m c N : Nat) (z : List Int) (w : World) (hm : z.length = m) (hm1 : 1 ≤ m) (hm2 : m ≤ 6) (hc1 : 1 ≤ c) (hc2 : c ≤ 4096) (hN : N = c * m) (hb : b < w.heap.size) (hz : ∀ j u, (ints z)[j]? = some u → w.cell? ((⟨b, off, none⟩ : Addr).add j) = some u) :
    Calls Try.prog 62 #[.slice (some ⟨b, off, none⟩) m cap, .int .i64 c] w (NewRow w (repL z c)) := by
  have hN1 : N ≤ 24576 := by rw [hN]; exact Nat.mul_le_mul hc2 hm2
  have hN2 : m ≤ N := by rw [hN]; exact Nat.le_mul_of_pos_left m hc1
  have HMUL : Hid (Calls Try.prog 74 #[.int .u64 m, .int .u64 c] w fun e w' => e = .returned (.tuple #[.int .u64 0, .int .u64 (N : Int)]) ∧ w' = w) := Lib.hid (by
    have h := Try.bits_Mul m c (by omega) (by omega) w
    have e1 : m * c = N := by rw [hN, Nat.mul_comm]
    rw [e1, show N / 18446744073709551616 = 0 by omega, show N % 18446744073709551616 = N by omega] at h
    exact h)
  have HM := Lib.hid hm
  have HN := Lib.hid hN
  have HBW := Lib.hid hb
  obtain ⟨Z, hZ⟩ : ∃ Z, Z = ints z := ⟨_, rfl⟩
  rw [← hZ] at hz
  have HZ := Lib.hid hz
  have HZI := Lib.hid hZ
  have HZL : Hid (Z.length = m) := Lib.hid (by rw [hZ, ints_len, hm])
  have HZ1 : Hid (∀ u ∈ Z, u.oneCell' = true) := Lib.hid (by rw [hZ]; exact one_cells z)
  have hu1 : IntKind.u64.wrap (m : Int) = m := by rw [IntKind.wrap_u64]; omega
  have hu2 : IntKind.u64.wrap (c : Int) = c := by rw [IntKind.wrap_u64]; omega
  have hu3 : IntKind.i64.wrap (N : Int) = N := IntWalk.i64_in _ (by omega)
  have hq1 : decide ((9223372036854775807 : Int) < (N : Int)) = false := by simp; omega
  have hq2 : decide ((c : Int) < 0) = false := by simp
  obtain ⟨i0, hi, hz0, hz1, hz2⟩ := info_parts infoInt
  clear hm hN hz hZ hb
  go_enter Try.func62, Try.ntmps62
  go_wp2_with fail
  refine HMUL.out.mono ?_
  rintro e w1 ⟨rfl, rfl⟩
  go_wp2_with (at_make; refine wpList_make_full _ rfl _ _ 22 rfl w1.heap.size 3 i0 (.int .i64 0) 1 Try.underlying22 hi hz0 hz1 .i64 .i64 _ _ N rfl rfl rfl rfl (by rw [hz2]; omega) (by unfold maxLen; omega) (Nat.le_refl _) ?_)
  intro w2 hown hgrow
  obtain ⟨cur0, hl0, hh0⟩ : ∃ cur : List Value, cur.length = N ∧ w2.heap[w1.heap.size]? = some (.cells cur.toArray 3 (0, 0)) := by
    rcases hown.2 with ⟨h, -⟩ | ⟨g, cap, cur, e, hb, hg, hnc, hcm, hcs, hct⟩
    · cases h
    · simp only [Value.slice.injEq, Option.some.injEq, Addr.mk.injEq, and_true, true_and] at e
      obtain ⟨rfl, rfl⟩ := e
      exact ⟨cur.toList, by simp; omega, by simpa using hg⟩
  have HH0 := Lib.hid hh0
  have HL0 := Lib.hid hl0
  have HB2 := Lib.hid ((Below.refl w1.heap.size w1).grown hgrow (Nat.le_refl _) (fun j hj => by cases hj))
  clear hown hgrow hh0 hl0
  go_wp2_with ((with_reducible show wpList _ _ _ (⟨some 33, _, _, _, _, _⟩ :: _) _ _); go_must (refine wpList_copy_splice rfl _ _ 22 22 rfl 3 Try.underlying22 ?ci (some ⟨w1.heap.size, 0, none⟩) (some ⟨b, off, none⟩) N N m cap rfl rfl w1.heap.size 0 cur0 3 HH0.out Z ?cn ?cp ?cf HZ1.out w1.heap.size w1 HB2.out (Nat.le_refl _) ?_))
  case ci => rw [hi]; simp [hz1]
  case cn => rw [HZL.out]; exact (Nat.min_eq_left hN2).symm
  case cp =>
    intro _ j v hj
    have h := HZ.out j v hj
    rw [Addr.add_lit] at h
    exact (HB2.out.cell (p := ⟨b, off + j, none⟩) HBW.out).trans h
  case cf => rw [HZL.out, HL0.out]; omega
  intro w3 hh3 hb3
  rw [HZL.out]
  have HR3 : Hid (Rep w1 w3 w1.heap.size m c N 1 m z (splice cur0 0 Z)) := Lib.hid ⟨by rw [Nat.one_mul], ⟨Nat.le_refl _, hc1⟩, by rw [length_splice _ _ _ (by rw [HZL.out, HL0.out]; omega), HL0.out], by
    have e1 : (splice cur0 0 Z).take m = Z := by
      unfold splice
      rw [List.take_zero, List.nil_append, List.take_append_of_le_length (by rw [HZL.out]; exact Nat.le_refl _), List.take_of_length_le (by rw [HZL.out]; exact Nat.le_refl _)]
    rw [e1, HZI.out, repL_one], hh3.out, hb3⟩
  clear hh3 hb3 HH0 HB2
  go_wp2
  go_loopw [8] (fun s wr => ∃ (j q : Nat) (cur : List Value), s = .int .i64 q ∧ 1 ≤ q ∧ q ≤ N ∧ Hid (Rep w1 wr w1.heap.size m c N j q z cur)) (fun s _ => N - (intOf s).toNat)
  case atStart => exact ⟨1, m, _, rfl, hm1, hN2, HR3⟩
  case round =>
    clear HR3
    obtain ⟨j, q, cur, rfl, hq0, hqN, HR⟩ := hrel
    by_cases hlt : q < N
    · have hne : ¬ N = q := by omega
      have hltI : (q : Int) < (N : Int) := by omega
      have hgq : (q : Int) ≤ (N : Int) := by omega
      have hmin1 : 1 ≤ Nat.min q (N - q) := by show 1 ≤ min q (N - q); omega
      have hmin2 : Nat.min q (N - q) ≤ N - q := Nat.min_le_right _ _
      obtain ⟨d, hd⟩ : ∃ d, d = Nat.min q (N - q) := ⟨_, rfl⟩
      have HD := Lib.hid hd
      obtain ⟨cs, hcs⟩ : ∃ cs, cs = cur.take d := ⟨_, rfl⟩
      have HCS := Lib.hid hcs
      have HCL : Hid (cs.length = d) := Lib.hid (by rw [hcs, List.length_take]; have := HR.out.len; omega)
      rw [← hd] at hmin1 hmin2
      have hwd : IntKind.i64.wrap ((q : Int) + (d : Int)) = (q : Int) + d := IntWalk.i64_in _ (by omega)
      have HC1 : Hid (∀ u ∈ cs, u.oneCell' = true) := Lib.hid (by
        intro u hu
        rw [hcs] at hu
        have h1 : u ∈ cur.take q := List.mem_of_mem_take (i := d) (by rw [List.take_take, Nat.min_eq_left (by rw [hd]; exact Nat.min_le_left _ _)]; exact hu)
        rw [HR.out.pre] at h1
        exact one_cells _ u h1)
      clear hd hcs
      go_wp2
      go_region_law (refine step_copy_splice rfl (.tmp 41) (.tmp 44) 22 22 rfl 3 Try.underlying22 ?_ (some ⟨w1.heap.size, q, none⟩) (some ⟨w1.heap.size, 0, none⟩) (N - q) (N - q) q N ?_ ?_ w1.heap.size q cur 3 HR.out.heap cs ?_ ?_ ?_ HC1.out w1.heap.size w1 HR.out.bel.drew (Nat.le_refl _) ?_
                     · rw [hi]; simp [hz1]
                     · simp [Act.eval, Act.put]
                     · simp [Act.eval, Act.put]
                     · rw [HCL.out, HD.out]
                     · exact fun _ => ⟨rfl, _, rfl, fun j v hj => by
                         rw [Addr.add_lit, Nat.zero_add]
                         refine cell_heap (w := wr.drew) HR.out.heap ?_
                         rw [HCS.out] at hj
                         have hlt := (List.getElem?_eq_some_iff.1 hj).1
                         rw [List.length_take] at hlt
                         rw [List.getElem?_take_of_lt (by omega)] at hj
                         exact hj⟩
                     · rw [HCL.out, HR.out.len]; omega
                     intro w4 hh4 hb4
                     rw [HCL.out]
                     have HR4 : Hid (Rep w1 w4 w1.heap.size m c N (j + Nat.min j (c - j)) (q + d) z (splice cur q cs)) := Lib.hid (by
                       have h1 := hh4.out
                       rw [HCS.out, HD.out] at h1 ⊢
                       exact HR.out.more HM.out HN.out hlt h1 hb4)
                     clear hh4 hb4)
      all_goals
        go_wp2
        simp only [Act.put, List.getElem_toArray, List.getElem_cons_succ, List.getElem_cons_zero, List.setIfInBounds_toArray, List.set_cons_zero, List.set_cons_succ]
        go_roundw
        case rel => exact ⟨_, q + d, _, by go_num, by omega, by omega, HR4⟩
        case measure => simp [intOf]; omega
    · obtain rfl : q = N := by omega
      have hltI : ¬ (q : Int) < (q : Int) := by omega
      go_wp2
      go_ret
      have h := HR.out
      have hjc : j = c := by
        have h1 := h.hq
        rw [HN.out] at h1
        exact (Nat.eq_of_mul_eq_mul_right (by omega) h1).symm
      subst hjc
      have hcur : cur = ints (repL z j) := by
        rw [← h.pre, List.take_of_length_le (by rw [h.len]; exact Nat.le_refl _)]
      have hlen : (repL z j).length = q := by rw [repL_len, HM.out, ← h.hq]
      refine ⟨_, rfl, Own.of (n := q) ⟨by rw [ints_len, hlen, Nat.mul_one], .inr ⟨w1.heap.size, q, cur.toArray, rfl, Nat.le_refl _, h.heap, Nat.le_refl _, by unfold maxLen; omega, by simp [h.len], ?_⟩⟩ hlen, h.bel⟩
      show List.take (q * 1) cur = _
      rw [Nat.mul_one, List.take_of_length_le (by rw [h.len]; exact Nat.le_refl _), hcur]
end Go.Proofs.Ytlmhnlepdfdceaa
