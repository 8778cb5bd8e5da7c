
/- laws.eqTensorS on slices of the same tensors. -/
import Derived.Test.YtdheakjjnaifkaaTens
import Derived.Deep.RegionHeld3
namespace Go.Proofs.Ytdheakjjnaifkaa
set_option maxRecDepth 20000
open Go.RowKit

set_option maxHeartbeats 1600000 in
theorem eq_tens {B B' : Nat} {va vb : Value} {ts : List TenE} {w : World} (ha : RdTs B w va ts) (hb : RdTs B' w vb ts) (hB : B ≤ w.heap.size) (hB' : B' ≤ w.heap.size) (hn : ts.length ≤ 281474976710656) (hlen : ∀ t ∈ ts, LenT t.1 t.2.1 t.2.2) :
    Calls Try.prog 53 #[va, vb] w fun e w' => e = .returned (.bool true) ∧ Below w.heap.size w w' := by
  obtain ⟨a, ca, rfl⟩ := ha.form
  obtain ⟨b, cb, rfl⟩ := hb.form
  have HA := Lib.hid ha
  have HBB := Lib.hid hb
  have HB1 := Lib.hid hB
  have HB2 := Lib.hid hB'
  have HLN := Lib.hid hlen
  obtain ⟨n, hnn⟩ : ∃ n, n = ts.length := ⟨_, rfl⟩
  rw [← hnn] at HA HBB hn ⊢
  have HN := Lib.hid hnn
  have W0 := Lib.hid (Below.refl w.heap.size w)
  clear ha hb hB hB' hlen hnn
  go_enter Try.func53, Try.ntmps53
  go_wp2
  go_loopw [5] (fun i wr => ∃ j : Nat, j ≤ n ∧ i = .int .i64 j ∧ Hid (Below w.heap.size w wr)) (fun i _ => n - (intOf i).toNat)
  case atStart => exact ⟨0, by omega, rfl, W0⟩
  case round =>
    clear W0
    obtain ⟨j, hj, rfl, HW⟩ := hrel
    by_cases hlt : j < n
    · obtain ⟨t, ht⟩ : ∃ t, ts[j]? = some t := ⟨_, List.getElem?_eq_getElem (by rw [← HN.out]; exact hlt)⟩
      have RX := Lib.hid (Below.drew HW.out)
      obtain ⟨g, off, a1, c1, a2, c2, a3, c3, rfl, hg, k0, k1, k2, hT⟩ := (HA.out.below RX.out HB1.out).at ht
      obtain ⟨g', off', b1, d1, b2, d2, b3, d3, rfl, hg', q0, q1, q2, hU⟩ := (HBB.out.below RX.out HB2.out).at ht
      have HL := Lib.hid (HLN.out t (List.mem_of_getElem? ht))
      have HG := Lib.hid (And.intro (Nat.lt_of_lt_of_le hg (Nat.le_trans HB1.out RX.out.size)) (Nat.lt_of_lt_of_le hg' (Nat.le_trans HB2.out RX.out.size)))
      have HE := Lib.hid (eq_ten hT hU (Nat.le_trans HB1.out RX.out.size) (Nat.le_trans HB2.out RX.out.size) HL.out)
      obtain ⟨m1, hm1⟩ : ∃ m, m = t.1.length := ⟨_, rfl⟩
      obtain ⟨m2, hm2⟩ : ∃ m, m = t.2.1.length := ⟨_, rfl⟩
      obtain ⟨m3, hm3⟩ : ∃ m, m = t.2.2.length := ⟨_, rfl⟩
      rw [← hm1, ← hm2, ← hm3] at HE
      rw [← hm1] at k0 q0
      rw [← hm2] at k1 q1
      rw [← hm3] at k2 q2
      clear ht hT hU hg hg' hm1 hm2 hm3
      go_wp2
      refine wp_region_held_drew (S := (fun w' => w'.cell? ⟨g, off + j * 3, none⟩ = some (.slice a1 m1 c1) ∧ w'.cell? ⟨g, off + j * 3 + 1, none⟩ = some (.slice a2 m2 c2) ∧ w'.cell? ⟨g, off + j * 3 + 2, none⟩ = some (.slice a3 m3 c3) ∧ w'.cell? ⟨g', off' + j * 3, none⟩ = some (.slice b1 m1 d1) ∧ w'.cell? ⟨g', off' + j * 3 + 1, none⟩ = some (.slice b2 m2 d2) ∧ w'.cell? ⟨g', off' + j * 3 + 2, none⟩ = some (.slice b3 m3 d3))) (by kernel_rfl) (by (try dsimp only); exact ⟨k0, k1, k2, q0, q1, q2⟩) (fun hHeld => ?_)
      refine wpAnyH_take (i := 0) (v := ?_) rfl (by kernel_rfl) (by kernel_rfl) (by kernel_rfl) (fun _ _ _ h => h) (Or.inl ⟨by rfl, ?_⟩) (by assumption) ?_
      rotate_left
      · intro w hSw; (try dsimp only at hSw); go_simp <;> with_reducible rfl
      try simp only [Act.put, List.getElem_toArray, List.getElem_cons_zero, List.setIfInBounds_toArray, List.set_cons_zero, List.set_cons_succ]
      refine wpAnyH_take (i := 1) (v := ?_) rfl (by kernel_rfl) (by kernel_rfl) (by kernel_rfl) (fun _ _ _ h => h) (Or.inl ⟨by rfl, ?_⟩) (by assumption) ?_
      rotate_left
      · intro w hSw; (try dsimp only at hSw); go_simp <;> with_reducible rfl
      try simp only [Act.put, List.getElem_toArray, List.getElem_cons_succ, List.getElem_cons_zero, List.setIfInBounds_toArray, List.set_cons_zero, List.set_cons_succ]
      refine wpAnyH_take (i := 2) (v := ?_) rfl (by kernel_rfl) (by kernel_rfl) (by kernel_rfl) (fun _ _ _ h => h) (Or.inl ⟨by rfl, ?_⟩) (by assumption) ?_
      rotate_left
      · intro w hSw; (try dsimp only at hSw); go_simp <;> with_reducible rfl
      try simp only [Act.put, List.getElem_toArray, List.getElem_cons_succ, List.getElem_cons_zero, List.setIfInBounds_toArray, List.set_cons_zero, List.set_cons_succ]
      refine wpAnyH_take (i := 3) (v := ?_) rfl (by kernel_rfl) (by kernel_rfl) (by kernel_rfl) (fun _ _ _ h => h) (Or.inl ⟨by rfl, ?_⟩) (by assumption) ?_
      rotate_left
      · intro w hSw; (try dsimp only at hSw); go_simp <;> with_reducible rfl
      try simp only [Act.put, List.getElem_toArray, List.getElem_cons_succ, List.getElem_cons_zero, List.setIfInBounds_toArray, List.set_cons_zero, List.set_cons_succ]
      refine wpAnyH_take (i := 4) (v := ?_) rfl (by kernel_rfl) (by kernel_rfl) (by kernel_rfl) (fun _ _ _ h => h) (Or.inl ⟨by rfl, ?_⟩) (by assumption) ?_
      rotate_left
      · intro w hSw; (try dsimp only at hSw); go_simp <;> with_reducible rfl
      try simp only [Act.put, List.getElem_toArray, List.getElem_cons_succ, List.getElem_cons_zero, List.setIfInBounds_toArray, List.set_cons_zero, List.set_cons_succ]
      refine wpAnyH_take (i := 5) (v := ?_) rfl (by kernel_rfl) (by kernel_rfl) (by kernel_rfl) (fun _ _ _ h => h) (Or.inl ⟨by rfl, ?_⟩) (by assumption) ?_
      rotate_left
      · intro w hSw; (try dsimp only at hSw); go_simp <;> with_reducible rfl
      try simp only [Act.put, List.getElem_toArray, List.getElem_cons_succ, List.getElem_cons_zero, List.setIfInBounds_toArray, List.set_cons_zero, List.set_cons_succ]
      refine wpAnyH_take (i := 6) (v := ?_) rfl (by kernel_rfl) (by kernel_rfl) (by kernel_rfl) (fun _ _ _ h => h) (Or.inl ⟨by rfl, ?_⟩) (by assumption) ?_
      rotate_left
      · intro w hSw; (try dsimp only at hSw); go_simp <;> with_reducible rfl
      try simp only [Act.put, List.getElem_toArray, List.getElem_cons_succ, List.getElem_cons_zero, List.setIfInBounds_toArray, List.set_cons_zero, List.set_cons_succ]
      refine wpAnyH_take (i := 7) (v := ?_) rfl (by kernel_rfl) (by kernel_rfl) (by kernel_rfl) (fun _ _ _ h => h) (Or.inl ⟨by rfl, ?_⟩) (by assumption) ?_
      rotate_left
      · intro w hSw; (try dsimp only at hSw); go_simp <;> with_reducible rfl
      try simp only [Act.put, List.getElem_toArray, List.getElem_cons_succ, List.getElem_cons_zero, List.setIfInBounds_toArray, List.set_cons_zero, List.set_cons_succ]
      refine wpAnyH_ready (rs := [8]) (by kernel_rfl) (by simp) ?_
      refine AllReadyH.cons rfl (fun K hK => ?_) AllReadyH.nil
      go_simp
      (go_at_call 86; refine HE.out.mono ?_; rintro e w9 ⟨rfl, hbb⟩; replace RX := Lib.hid (RX.out.trans (hbb.mono RX.out.size)); replace k0 := (hbb.cell (p := ⟨g, off + j * 3, none⟩) HG.out.1).trans k0; replace k1 := (hbb.cell (p := ⟨g, off + j * 3 + 1, none⟩) HG.out.1).trans k1; replace k2 := (hbb.cell (p := ⟨g, off + j * 3 + 2, none⟩) HG.out.1).trans k2; replace q0 := (hbb.cell (p := ⟨g', off' + j * 3, none⟩) HG.out.2).trans q0; replace q1 := (hbb.cell (p := ⟨g', off' + j * 3 + 1, none⟩) HG.out.2).trans q1; replace q2 := (hbb.cell (p := ⟨g', off' + j * 3 + 2, none⟩) HG.out.2).trans q2; clear hbb)
      go_wp2_with fail
      refine hK.out _ _ (by (try dsimp only); exact ⟨k0, k1, k2, q0, q1, q2⟩) (fun hHeld => ?_)
      clear hK K
      try simp only [Act.put, List.getElem_toArray, List.getElem_cons_succ, List.getElem_cons_zero, List.setIfInBounds_toArray, List.set_cons_zero, List.set_cons_succ]
      refine wpAnyH_take (i := 9) (v := ?_) rfl (by kernel_rfl) (by kernel_rfl) (by kernel_rfl) (fun _ _ _ h => h) (Or.inl ⟨by rfl, ?_⟩) (by assumption) ?_
      rotate_left
      · intro w hSw; (try dsimp only at hSw); go_simp <;> with_reducible rfl
      try simp only [Act.put, List.getElem_toArray, List.getElem_cons_succ, List.getElem_cons_zero, List.setIfInBounds_toArray, List.set_cons_zero, List.set_cons_succ]
      refine wpAnyH_done (by kernel_rfl) ?_ _
      clear k0 k1 k2 q0 q1 q2
      go_wp2
      go_roundw
      case rel => exact ⟨j + 1, by omega, by go_num, RX⟩
      case measure => simp [intOf]; omega
    · obtain rfl : j = n := by omega
      go_wp2
      go_ret
      exact ⟨rfl, HW.out⟩
end Go.Proofs.Ytdheakjjnaifkaa
