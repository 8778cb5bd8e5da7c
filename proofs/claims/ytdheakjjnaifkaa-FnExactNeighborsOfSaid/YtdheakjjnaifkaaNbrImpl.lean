
/- impl.NeighborsOf. -/
import Derived.Test.YtdheakjjnaifkaaGraph2
namespace Go.Proofs.Ytdheakjjnaifkaa
set_option maxRecDepth 20000
open Go.RowKit

theorem filter_range {N : Nat} {n : Nat} {P Q : Nat → Bool} (h : n ≤ N) (h1 : ∀ i, i < n → P i = Q i) (h2 : ∀ i, n ≤ i → i < N → P i = false) : (List.range N).filter P = (List.range n).filter Q := by
  induction N with
  | zero => obtain rfl : n = 0 := by omega
            rfl
  | succ N ih =>
    by_cases e : n = N + 1
    · subst e
      exact List.filter_congr fun i hi => h1 i (List.mem_range.1 hi)
    · rw [List.range_succ, List.filter_append, ih (by omega) fun i hi hN => h2 i hi (by omega)]
      have := h2 N (by omega) (by omega)
      simp [this]
theorem andNot_bit {a b i : Nat} (hb : b < 18446744073709551616) (hi : i < 64) : (a &&& (18446744073709551615 - b)).testBit i = (a.testBit i && !b.testBit i) := by
  rw [Nat.testBit_and]
  have h := Nat.testBit_two_pow_sub_succ (x := b) (n := 64) hb i
  have e : 2 ^ 64 - (b + 1) = 18446744073709551615 - b := by omega
  rw [e] at h
  rw [h, decide_eq_true hi, Bool.true_and]
/-- The labels of two tensors meet. -/
def meetI (L M : List Int) : Bool := L.any fun x => decide (x ∈ M)
theorem meetI_iff {L M : List Int} : meetI L M = true ↔ ∃ x, x ∈ L ∧ x ∈ M := by
  unfold meetI
  rw [List.any_eq_true]
  simp only [decide_eq_true_eq]
theorem meetT_iff {ts : List TenE} {i j : Nat} {t u : TenE} (hi : ts[i]? = some t) (hj : ts[j]? = some u) : MeetT ts i j ↔ meetI t.1 u.1 = true := by
  rw [meetI_iff]
  constructor
  · rintro ⟨x, t', u', h1, h2, h3, h4⟩
    rw [hi] at h1; rw [hj] at h2
    cases h1; cases h2
    exact ⟨x, h3, h4⟩
  · rintro ⟨x, h3, h4⟩
    exact ⟨x, t, u, hi, hj, h3, h4⟩
def nbrTo (ts : List TenE) (k n : Nat) : List Int := ((List.range n).filter fun i => decide (i ≠ k) && meetI (ts.getD i ([], [], [])).1 (ts.getD k ([], [], [])).1).map fun i : Nat => (i : Int)
open Classical in
noncomputable def nbrL (k p q : Int) (ts : List TenE) (O : List Int) (x : Int) : List Int := if NetOk k p q ts O ∧ 0 ≤ x ∧ x < ts.length then nbrTo ts x.toNat ts.length else []
open Classical in
theorem nbr_yes {k p q : Int} {ts : List TenE} {O : List Int} {x : Int} (h : NetOk k p q ts O) (h2 : 0 ≤ x ∧ x < ts.length) : nbrL k p q ts O x = nbrTo ts x.toNat ts.length := if_pos ⟨h, h2⟩
open Classical in
theorem nbr_no {k p q : Int} {ts : List TenE} {O : List Int} {x : Int} (h : ¬ (NetOk k p q ts O ∧ 0 ≤ x ∧ x < ts.length)) : nbrL k p q ts O x = [] := if_neg h
theorem nbrTo_len (ts : List TenE) (k n : Nat) : (nbrTo ts k n).length ≤ n := by
  unfold nbrTo
  rw [List.length_map]
  exact Nat.le_trans (List.length_filter_le _ _) (by simp)
theorem nbrL_len (k p q : Int) (ts : List TenE) (O : List Int) (x : Int) : (nbrL k p q ts O x).length ≤ 12 := by
  by_cases h : NetOk k p q ts O ∧ 0 ≤ x ∧ x < ts.length
  · rw [nbr_yes h.1 h.2]
    have := nbrTo_len ts x.toNat ts.length
    have := h.1.2.1
    omega
  · rw [nbr_no h]; simp
/-- The neighbors of one tensor, out of the sets. -/
theorem nbr_bits {ts : List TenE} (hax : AxT ts) (hn : ts.length ≤ 12) {k : Nat} (hk : k < ts.length) : bitsTo (arS ts (2 ^ k) &&& (18446744073709551615 - 2 ^ k)) 12 = nbrTo ts k ts.length := by
  unfold bitsTo nbrTo
  have hk2 : (2 : Nat) ^ k < 18446744073709551616 := Nat.lt_of_lt_of_le (Nat.pow_lt_pow_right (by omega) (show k < 12 by omega)) (by decide)
  have bit : ∀ i, i < 12 → ((arS ts (2 ^ k) &&& (18446744073709551615 - 2 ^ k)).testBit i = true ↔ i ≠ k ∧ MeetT ts i k) := fun i hi => by
    rw [andNot_bit hk2 (by omega), Bool.and_eq_true, arS_bit hax, Bool.not_eq_true', ← Bool.not_eq_true, pow_bit]
    constructor
    · rintro ⟨h | ⟨j, h1, h2⟩, h3⟩
      · exact absurd h h3
      · rw [pow_bit] at h1
        subst h1
        exact ⟨fun e => h3 e.symm, h2⟩
    · rintro ⟨h1, h2⟩
      exact ⟨.inr ⟨k, (pow_bit _ _).2 rfl, h2⟩, fun e => h1 e.symm⟩
  congr 1
  refine filter_range hn (fun i hi => ?_) (fun i hi hN => ?_)
  · have e1 : ts[i]? = some ts[i] := List.getElem?_eq_getElem hi
    have e2 : ts[k]? = some ts[k] := List.getElem?_eq_getElem hk
    have d1 : ts.getD i ([], [], []) = ts[i] := by rw [List.getD_eq_getElem?_getD, e1]; rfl
    have d2 : ts.getD k ([], [], []) = ts[k] := by rw [List.getD_eq_getElem?_getD, e2]; rfl
    rw [d1, d2]
    have h1 := bit i (by omega)
    rw [meetT_iff e1 e2] at h1
    rw [Bool.eq_iff_iff, h1, Bool.and_eq_true, decide_eq_true_eq]
  · cases hb : (arS ts (2 ^ k) &&& (18446744073709551615 - 2 ^ k)).testBit i with
    | false => rfl
    | true =>
      obtain ⟨-, x, t, u, h1, -⟩ := (bit i hN).1 hb
      have := (List.getElem?_eq_some_iff.1 h1).1
      omega
theorem no_bits {ts : List TenE} (hax : AxT ts) : bitsTo (arS ts 0 &&& (18446744073709551615 - 0)) 12 = [] := by
  unfold bitsTo
  rw [List.map_eq_nil_iff, List.filter_eq_nil_iff]
  intro i hi h
  rw [andNot_bit (by decide) (by have := List.mem_range.1 hi; omega), Bool.and_eq_true, arS_bit hax] at h
  rcases h.1 with h | ⟨j, h, -⟩ <;> simp at h
set_option maxHeartbeats 3200000 in
theorem neighbors_of_full {B n cap m co : Nat} {pa po : Option Addr} {k p q : Int} {ts : List TenE} {O : List Int} {w : World} (ha : RdTs B w (.slice pa n cap) ts) (ho : Rd B w (.slice po m co) (ints O)) (hB : B ≤ w.heap.size) (hn : ts.length = n) (hl : LenTs ts) (hI : ∀ t ∈ ts, allI t.1) (hm : O.length = m) (hmm : m ≤ 1048576) (hJ : allI O) (x : Int) :
    Calls Try.prog 31 #[netV k p q (.slice pa n cap) (.slice po m co), .int .i64 x] w (NewRow w (nbrL k p q ts O x)) := by
  obtain ⟨yl, hyl⟩ : ∃ l, l = nbrL k p q ts O x := ⟨_, rfl⟩
  rw [← hyl]
  have HYL := Lib.hid hyl
  clear hyl
  obtain ⟨w1, hw1⟩ : ∃ W, W = w.alloc (.cells #[.int .i64 k, .int .i64 p, .int .i64 q, .slice pa n cap, .slice po m co] 33) := ⟨_, rfl⟩
  have hb1 : Below w.heap.size w w1 := by rw [hw1]; exact (Below.refl _ _).alloc (Nat.le_refl _) _
  have hc : w1.cell? ⟨w.heap.size, 0, none⟩ = some (.int .i64 k) ∧ w1.cell? ⟨w.heap.size, 1, none⟩ = some (.int .i64 p) ∧ w1.cell? ⟨w.heap.size, 2, none⟩ = some (.int .i64 q) ∧ w1.cell? ⟨w.heap.size, 3, none⟩ = some (.slice pa n cap) ∧ w1.cell? ⟨w.heap.size, 4, none⟩ = some (.slice po m co) := by rw [hw1]; simp
  have HK := Lib.hid (check_full (k := k) (p := p) (q := q) (w := w1) ((ha.below hb1 hB).mono (Nat.le_trans hB hb1.size)) ((ho.below hb1 hB).mono (Nat.le_trans hB hb1.size)) (Nat.le_refl _) hn hl hI hm hmm hJ)
  have HTS := Lib.hid (ha.mono hB)
  have HB1 := Lib.hid hb1
  have HW1 := Lib.hid hw1
  have HN := Lib.hid hn
  obtain ⟨c0, c1, c2, c3, c4⟩ := hc
  clear ha ho hB hn hl hI hm hmm hJ hb1 hw1
  go_enter Try.func31, Try.ntmps31
  go_upto_region 1 with fail
  rw [← HW1.out]
  clear HW1
  go_wp2_with fail
  refine HK.out.mono ?_
  clear HK c0 c1 c2 c3 c4
  rintro e w2 (⟨hv, g, a, b, rfl, hg, ⟨k0, k1, k2, k3, k4, k5, k6⟩, hab, hne, hb2⟩ | ⟨hnv, rfl, hb2⟩)
  · have HV := Lib.hid hv
    have HB2 := Lib.hid (HB1.out.trans (hb2.mono HB1.out.size))
    have hn12 : n ≤ 12 := by rw [← HN.out]; exact hv.2.1
    have hgl : g < w2.heap.size := World.block_lt_of_cell? _ _ k3
    obtain ⟨WX, hWX⟩ : ∃ W, W = w2.alloc (.cells #[.int .i64 x] 3) := ⟨_, rfl⟩
    have RX : Hid (Rs w2 WX [] [(.slice (some ⟨w2.heap.size, 0, none⟩) 1 1, [x])]) := Lib.hid (by rw [hWX]; exact (Rs.start w2).lit1 x)
    have k3 : WX.cell? ⟨g, 3, none⟩ = some (.slice pa n cap) := (RX.out.bel.cell (p := ⟨g, 3, none⟩) hgl).trans k3
    have HC := Lib.hid (choose_impl (l := [x]) (w := WX) k3 (RX.out.rd (v := .slice (some ⟨w2.heap.size, 0, none⟩) 1 1) (xs := [x]) (by simp)) rfl (by decide) hn12)
    obtain ⟨s, hs⟩ : ∃ s : Nat, s = if subB n [x] = true then setL [x] else 0 := ⟨_, rfl⟩
    obtain ⟨z, hz⟩ : ∃ z, z = subB n [x] := ⟨_, rfl⟩
    rw [← hs, ← hz] at HC
    have HBX := Lib.hid (HB2.out.trans (RX.out.bel.mono HB2.out.size))
    have HGR := Lib.hid (graph_impl (g := g) (w := WX) ((HTS.out.below HBX.out (Nat.le_refl _)).mono HBX.out.size) k3 HN.out hn12 HV.out.2.2.1.ax)
    have hs4 : s < 4096 ∧ bitsTo (arS ts s &&& (18446744073709551615 - s)) 12 = yl := by
      by_cases hx : 0 ≤ x ∧ x < (n : Int)
      · have h1 : OkSub n [x] := ⟨fun k hk => by simp at hk; subst hk; exact hx, by simp⟩
        have h2 : s = 2 ^ x.toNat := by rw [hs, if_pos (subB_true h1)]; simp [setL, orL]
        have h3 : x.toNat < ts.length := by rw [HN.out]; omega
        refine ⟨?_, ?_⟩
        · rw [h2]; exact Nat.lt_of_lt_of_le (Nat.pow_lt_pow_right (by omega) (show x.toNat < 12 by omega)) (by decide)
        · rw [h2, nbr_bits HV.out.2.2.1.ax HV.out.2.1 h3, HYL.out, nbr_yes HV.out ⟨hx.1, by rw [HN.out]; exact hx.2⟩]
      · have h1 : ¬ OkSub n [x] := fun h => hx (h.1 x (by simp))
        have h2 : s = 0 := by rw [hs, subB_false h1]; rfl
        refine ⟨by omega, ?_⟩
        rw [h2, no_bits HV.out.2.2.1.ax, HYL.out, nbr_no fun h => hx ⟨h.2.1, by have := h.2.2; rw [HN.out] at this; exact this⟩]
    have HS := Lib.hid hs4
    have HWX := Lib.hid hWX
    clear hv hg hab hne hb2 k0 k1 k2 k4 k5 k6 hs hz hs4 hWX hgl
    go_wp2_with fail
    rw [← HWX.out]
    refine HC.out.mono ?_
    rintro e w3 ⟨rfl, rfl⟩
    clear HC
    go_wp2_with fail
    refine HGR.out.mono ?_
    rintro e w4 ⟨r, rfl, hgr⟩
    have GR := Lib.hid hgr
    clear hgr HGR k3
    go_wp2_with fail
    refine (around_impl GR.out.c (by rw [HN.out]; exact hn12) HS.out.1).mono ?_
    rintro e w5 ⟨rfl, rfl⟩
    have hAN := u64_andNot_nat (arS ts s) s (by have := arTo_lt (ts := ts) (by rw [HN.out]; exact hn12) HS.out.1 100; unfold arS; omega) (by have := HS.out.1; omega)
    have HAN := Lib.hid hAN
    clear hAN
    go_wp2_with fail
    rw [HAN.out]
    refine (indices_impl _ w4 (Nat.lt_of_le_of_lt Nat.and_le_left (by have := arTo_lt (ts := ts) (by rw [HN.out]; exact hn12) HS.out.1 100; unfold arS; omega))).mono ?_
    rw [HS.out.2]
    rintro e w6 ⟨v6, rfl, o6, hb6⟩
    have RES := Lib.hid (NewRow.after (w0 := w) (HBX.out.trans (GR.out.bel.mono HBX.out.size)) ⟨v6, rfl, o6, hb6⟩)
    clear o6 hb6
    go_wp2
    go_ret
    exact RES.out
  · have hbe := HB1.out.trans (hb2.mono HB1.out.size)
    have HF : Hid (yl = []) := Lib.hid (by rw [HYL.out]; exact nbr_no fun h => hnv h.1)
    clear hb2
    go_wp2
    go_ret
    exact ⟨_, rfl, by rw [HF.out]; exact Own.nil _ _, hbe⟩
end Go.Proofs.Ytdheakjjnaifkaa
