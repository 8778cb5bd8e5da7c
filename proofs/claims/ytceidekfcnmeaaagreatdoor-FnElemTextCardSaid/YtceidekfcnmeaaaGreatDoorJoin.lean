
/- spec.Join and impl.Join: the texts with by between them. -/
import Derived.Test.YtceidekfcnmeaaaGreatDoorAppTexts
namespace Go.Proofs.YtceidekfcnmeaaaGreatDoor
set_option maxRecDepth 20000
open Go.RowKit

def joinL (by' : List UInt8) : List ByteArray → List UInt8
  | [] => []
  | x :: r => x.data.toList ++ (r.map fun y => by' ++ y.data.toList).flatten
theorem joinL_snoc (b : List UInt8) (l : List ByteArray) (y : ByteArray) (h : l ≠ []) : joinL b (l ++ [y]) = joinL b l ++ (b ++ y.data.toList) := by
  cases l with
  | nil => exact absurd rfl h
  | cons x r => simp [joinL]
theorem joinL_one (b : List UInt8) (y : ByteArray) : joinL b [y] = y.data.toList := by simp [joinL]
theorem joinL_step (b : List UInt8) (ss : List ByteArray) (k : Nat) (y : ByteArray) (hk : 0 < k) (h : ss[k]? = some y) : joinL b (ss.take (k + 1)) = joinL b (ss.take k) ++ (b ++ y.data.toList) := by
  rw [List.take_add_one, h]
  exact joinL_snoc b _ y (by
    intro e
    have hl := (List.getElem?_eq_some_iff.1 h).1
    have h2 := congrArg List.length e
    rw [List.length_take, List.length_nil] at h2
    omega)
theorem joinL_first (b : List UInt8) (ss : List ByteArray) (y : ByteArray) (h : ss[0]? = some y) : joinL b (ss.take 1) = y.data.toList := by
  rw [List.take_add_one, h]; simp [joinL]
theorem joinL_le (b : List UInt8) (ss : List ByteArray) (k : Nat) : (joinL b (ss.take k)).length ≤ (joinL b ss).length := by
  cases ss with
  | nil => simp [joinL]
  | cons x r =>
    cases k with
    | zero => simp [joinL]
    | succ k =>
      rw [List.take_succ_cons]
      have h : r = r.take k ++ r.drop k := (List.take_append_drop k r).symm
      have h2 : joinL b (x :: r) = joinL b (x :: r.take k) ++ ((r.drop k).map fun y => b ++ y.data.toList).flatten := by
        simp only [joinL]
        rw [List.append_assoc, ← List.flatten_append, ← List.map_append, ← h]
      rw [h2, List.length_append]; omega
theorem str_app (a : List UInt8) (s : ByteArray) : (⟨a.toArray⟩ : ByteArray) ++ s = ⟨(a ++ s.data.toList).toArray⟩ := by
  apply ByteArray.ext; apply Array.ext'; simp

theorem joinL_rest (b : ByteArray) (ss : List ByteArray) (k : Nat) (y : ByteArray) (hk : 0 < k) (h : ss[k]? = some y) : joinL b.data.toList (ss.take (k + 1)) = joinL b.data.toList (ss.take k) ++ flat [b, y] := by
  rw [joinL_step b.data.toList ss k y hk h]; simp [flat]
theorem flat_one (y : ByteArray) : flat [y] = y.data.toList := by simp [flat]

set_option maxHeartbeats 400000 in
theorem impl_join_none (a : Option Addr) (cap : Nat) (by' : ByteArray) (w : World) :
    Calls Tryz.prog 37 #[.slice a 0 cap, .string by'] w fun e w' => e = .returned (.string ⟨([] : List UInt8).toArray⟩) ∧ w = w' := by
  go_enter Tryz.func37, Tryz.ntmps37
  go_wp2
  go_ret
  exact ⟨rfl, rfl⟩

/-- string(b) of a row of bytes that the call owns. -/
theorem conv_own {w : World} {B : Nat} {v : Value} {l : List UInt8} (h : w.ownsRow B 5 1 v l.length (bcells l)) : (convert 22 9 v).run Tryz.prog w = .ok (.string ⟨l.toArray⟩) w := by
  rcases h.2 with ⟨rfl, hl⟩ | ⟨g, cap, cur, rfl, hb, hg, r⟩
  · obtain rfl : l = [] := List.eq_nil_of_length_eq_zero hl
    exact run_convert_bytes_nil w 22 5 Tryz.underlying22 Tryz.underlying5 0 0 9 Tryz.underlying9
  · refine run_convert_bytes_back w 22 9 5 ⟨g, 0, none⟩ cap l Tryz.underlying22 Tryz.underlying5 Tryz.underlying9 fun j hj => ?_
    have := h.cells (g := g) rfl j (.int .u8 (l[j].toNat : Int)) (by simp [bcells, Lib.strCells, hj])
    exact this

set_option maxHeartbeats 400000 in
theorem impl_join_some (b off cap n : Nat) (by' : ByteArray) (ss : List ByteArray) (w : World) (hs : ss.length = n) (hn : n ≤ 70368744177664) (h0 : 0 < n) (hnc : n ≤ cap) (h1c : ¬ cap = 1) (hb : b < w.heap.size)
    (hcell : ∀ i (h : i < ss.length), w.cell? ⟨b, off + i, none⟩ = some (.string ss[i])) (hL : (joinL by'.data.toList ss).length ≤ 70368744177664) :
    Calls Tryz.prog 37 #[.slice (some ⟨b, off, none⟩) n cap, .string by'] w fun e w' => e = .returned (.string ⟨(joinL by'.data.toList ss).toArray⟩) ∧ Below w.heap.size w w' := by
  obtain ⟨x, c1, X1⟩ := strs_cell hs hcell h0
  rw [Nat.add_zero] at c1
  have HC := Lib.hid hcell
  have HN := Lib.hid hs
  have HL := Lib.hid hL
  have hx1 : x.size ≤ 70368744177664 := by
    have := joinL_le by'.data.toList ss 1
    rw [joinL_first _ _ _ X1.out] at this
    simp at this
    omega
  have hfl : (flat [x]).length = x.size := by simp [flat]
  have HFL := Lib.hid hfl
  have hc0 : ((n : Int) == 0) = false := by simp; omega
  have HJ1 : Hid (joinL by'.data.toList (ss.take 1) = flat [x]) := by
    show _ = _
    rw [joinL_first _ _ _ X1.out, flat_one]
  clear hcell hs hL hfl
  go_enter Tryz.func37, Tryz.ntmps37
  go_wp2_with fail
  refine (app_texts w.heap.size w.heap.size (.slice none 0 0) [] [x] (w.alloc (.cells #[.string x] 9)) (by simp) (World.ownsRow_nil _ _ _ _) (heap_alloc_new _ _) (by rw [HFL.out]; simp; omega) (by simp)).mono ?_
  rintro e w1 ⟨v1, rfl, hown, hbel, -⟩
  have HO := Lib.hid hown
  have HB := Lib.hid (((Below.refl w.heap.size w).alloc (Nat.le_refl _) _).trans hbel)
  clear hown hbel
  go_wp2
  go_loopw [5, 19] (fun t i wr => ∃ (k : Nat) (acc : List UInt8), k + 1 ≤ n ∧ i = .int .i64 k ∧ Hid (joinL by'.data.toList (ss.take (k + 1)) = acc) ∧ Hid (wr.ownsRow w.heap.size 5 1 t acc.length (bcells acc)) ∧ Hid (Below w.heap.size w wr)) (fun _ i _ => n - (intOf i).toNat)
  case atStart => exact ⟨0, flat [x], by omega, rfl, HJ1.out, HO.out, HB.out⟩
  case round =>
    obtain ⟨k, acc, hk, rfl, HAcc, HOK, HBW⟩ := hrel
    by_cases hlt : k < n - 1
    · obtain ⟨y, c2, Y1⟩ := strs_cell (k := k + 1) HN.out HC.out (by omega)
      have c3 : wr.cell? ⟨b, off + 1 + k, none⟩ = some (.string y) := by
        rw [show off + 1 + k = off + (k + 1) from by omega]
        exact (HBW.out.cell (p := ⟨b, off + (k + 1), none⟩) hb).trans c2
      have hj := joinL_rest by' ss (k + 1) y (by omega) Y1.out
      have hle := joinL_le by'.data.toList ss (k + 1 + 1)
      rw [hj, List.length_append, HAcc.out] at hle
      have hlen : acc.length + (flat [by', y]).length ≤ 70368744177664 := by have := HL.out; omega
      have HJ := Lib.hid hj
      have HLen := Lib.hid hlen
      have HZ := Lib.hid HBW.out.size
      clear c2 hj hle hlen
      go_wp2_with fail
      refine (app_texts w.heap.size wr.heap.size _ acc [by', y] (wr.alloc (.cells #[.string by', .string y] 9)) (by have := HZ.out; simp; omega) (HOK.out.alloc _) (heap_alloc_new _ _) HLen.out (by simp)).mono ?_
      rintro e w2 ⟨v2, rfl, hown2, hbel2, -⟩
      have HO2 := Lib.hid hown2
      have HB2 := Lib.hid ((HBW.out.alloc HZ.out _).trans hbel2)
      clear hown2 hbel2
      go_wp2
      go_roundw
      case rel => exact ⟨k + 1, acc ++ flat [by', y], by omega, by go_num, by show _ = _; rw [HJ.out, HAcc.out], HO2.out, HB2.out⟩
      case measure => simp [intOf]; omega
    · obtain rfl : n = k + 1 := by omega
      have kc := conv_own HOK.out
      go_wp2
      go_ret
      have e : ss.take (k + 1) = ss := List.take_of_length_le (by rw [HN.out]; omega)
      exact ⟨by have h := HAcc.out; rw [e] at h; rw [h]; rfl, HBW.out⟩

set_option maxHeartbeats 400000 in
theorem impl_join_one (b off : Nat) (by' x : ByteArray) (w : World) (c1 : w.cell? ⟨b, off, none⟩ = some (.string x)) (hx1 : x.size ≤ 70368744177664) :
    Calls Tryz.prog 37 #[.slice (some ⟨b, off, none⟩) 1 1, .string by'] w fun e w' => e = .returned (.string ⟨x.data.toList.toArray⟩) ∧ Below w.heap.size w w' := by
  have hfl : (flat [x]).length = x.size := by simp [flat]
  have HFL := Lib.hid hfl
  clear hfl
  go_enter Tryz.func37, Tryz.ntmps37
  go_wp2_with fail
  refine (app_texts w.heap.size w.heap.size (.slice none 0 0) [] [x] (w.alloc (.cells #[.string x] 9)) (by simp) (World.ownsRow_nil _ _ _ _) (heap_alloc_new _ _) (by rw [HFL.out]; simp; omega) (by simp)).mono ?_
  rintro e w1 ⟨v1, rfl, hown, hbel, -⟩
  rw [List.nil_append, flat_one] at hown
  have HB := Lib.hid (((Below.refl w.heap.size w).alloc (Nat.le_refl _) _).trans hbel)
  have kc := conv_own hown
  clear hown hbel
  go_wp2
  go_loop [5, 19] (fun t i => t = v1 ∧ i = .int .i64 0) (fun _ _ => 0)
  case atStart => exact ⟨rfl, rfl⟩
  case round =>
    obtain ⟨rfl, rfl⟩ := hrel
    go_wp2
    go_ret
    exact ⟨rfl, HB.out⟩

/-- impl.Join, at any slice of texts whose join has at most 2^46 bytes. -/
theorem impl_join {B : Nat} {v : Value} {ss : List ByteArray} {w : World} (by' : ByteArray) (h : Rd B w v (strs ss)) (hB : B ≤ w.heap.size) (hn : ss.length ≤ 70368744177664) (hL : (joinL by'.data.toList ss).length ≤ 70368744177664) :
    Calls Tryz.prog 37 #[v, .string by'] w fun e w' => e = .returned (.string ⟨(joinL by'.data.toList ss).toArray⟩) ∧ Below w.heap.size w w' := by
  rcases h.strs_cases with ⟨rfl, a, ca, rfl⟩ | ⟨b, off, ca, rfl, hlt, hcp, hc⟩
  · exact (impl_join_none a ca by' w).mono fun e w' ⟨he, hw⟩ => ⟨he, hw ▸ Below.refl _ _⟩
  · by_cases h0 : ss = []
    · subst h0
      exact (impl_join_none _ ca by' w).mono fun e w' ⟨he, hw⟩ => ⟨he, hw ▸ Below.refl _ _⟩
    · have hp := List.length_pos_iff.2 h0
      by_cases h1 : ca = 1
      · subst h1
        cases ss with
        | nil => exact absurd rfl h0
        | cons x r =>
          cases r with
          | cons y r => simp at hcp
          | nil =>
            have e : joinL by'.data.toList [x] = x.data.toList := joinL_one _ _
            rw [e] at hL ⊢
            have c := hc 0 (by simp)
            exact impl_join_one b off by' x w (by simpa using c) (by simpa using hL)
      · exact impl_join_some b off ca ss.length by' ss w rfl hn hp hcp h1 (by omega) hc hL

end Go.Proofs.YtceidekfcnmeaaaGreatDoor
