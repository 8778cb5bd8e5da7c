
/- laws.markIntS, heldIntS: marks written into a slice of integers, and found again. -/
import Derived.Test.YtceidekfcnmeaaaDoorLawKit
import Derived.WalkLawsBesides
namespace Go.Proofs.YtceidekfcnmeaaaDoor
set_option maxRecDepth 20000
open Go.RowKit

def imarks (n : Nat) : List Int := (List.range n).map fun i => ((i + 1 : Nat) : Int)
theorem imarks_len (n : Nat) : (imarks n).length = n := by simp [imarks]
theorem imarks_at (n i : Nat) (h : i < n) : (imarks n)[i]? = some ((i + 1 : Nat) : Int) := by simp [imarks, h]
theorem igrown_setCell {w w1 : World} {r : Option Nat} (h : w.grownBy w1 r) {p : Addr} (hp : some p.block = r) (u : Value) : w.grownBy (w1.setCell p u) r :=
  ⟨h.os, h.tape, h.output, by simpa using h.size, fun k hk hr => (Below.heap_setCell w1 p u k (fun e => hr (by rw [e, hp]))).trans (h.block k hk hr)⟩

set_option maxHeartbeats 400000 in
theorem imark_full (g cap n B : Nat) (xs : List Value) (w : World) (hn : n ≤ 2097152) (hown : w.ownsRow B 3 1 (.slice (some ⟨g, 0, none⟩) n cap) n xs) :
    Calls Tryd.prog 41 #[.slice (some ⟨g, 0, none⟩) n cap, .int .i64 1] w fun e w' => e = .returned (.int .i64 ((n : Int) + 1)) ∧ w'.ownsRow B 3 1 (.slice (some ⟨g, 0, none⟩) n cap) n (ints (imarks n)) ∧ w.grownBy w' (some g) := by
  have OW := Lib.hid hown
  clear hown
  go_enter Tryd.func41, Tryd.ntmps41
  go_wp2
  go_loopw [1, 5] (fun q i wr => ∃ (k : Nat) (cs : List Value), k ≤ n ∧ i = .int .i64 k ∧ q = .int .i64 ((k : Int) + 1) ∧ Hid (wr.ownsRow B 3 1 (.slice (some ⟨g, 0, none⟩) n cap) n cs) ∧ Hid (∀ j, j < k → cs[j]? = (ints (imarks n))[j]?) ∧ Hid (w.grownBy wr (some g))) (fun _ i _ => n - (intOf i).toNat)
  case atStart => exact ⟨0, xs, by omega, rfl, rfl, OW, fun j hj => by omega, ⟨rfl, rfl, rfl, Nat.le_refl _, fun _ _ _ => rfl⟩⟩
  case round =>
    obtain ⟨k, cs, hk, rfl, rfl, HO, HC, HG⟩ := hrel
    by_cases hlt : k < n
    · have clen : cs.length = n := by have := HO.out.1; omega
      have c3 : wr.cell? ⟨g, k, none⟩ = some (cs[k]'(by omega)) := by
        rw [HO.out.cellAt k (by omega)]; exact List.getElem?_eq_getElem _
      have f3 := HO.out.frozenAt k
      have ST := Lib.hid (HO.out.stored k (.int .i64 ((k : Int) + 1)))
      go_wp2
      go_roundw
      case rel =>
        refine ⟨k + 1, cs.set k (.int .i64 ((k : Int) + 1)), by omega, by go_num, by go_num, ST.out.1, ?_, igrown_setCell HG.out rfl _⟩
        intro j hj
        by_cases e : j = k
        · subst e
          rw [List.getElem?_set_self (by omega), ints_at _ _ (by rw [imarks_len]; omega)]
          simp [imarks]
        · rw [List.getElem?_set_ne (by omega)]
          exact HC.out j (by omega)
      case measure => simp [intOf]; omega
    · obtain rfl : k = n := by omega
      go_wp2
      go_ret
      have e : cs = ints (imarks k) := by
        apply List.ext_getElem?
        intro j
        by_cases hj : j < k
        · exact HC.out j hj
        · have clen : cs.length = k := by have := HO.out.1; omega
          rw [List.getElem?_eq_none (by omega), List.getElem?_eq_none (by rw [ints_len, imarks_len]; omega)]
      exact ⟨rfl, e ▸ HO.out, HG.out⟩

set_option maxHeartbeats 400000 in
theorem imark_nil (w : World) :
    Calls Tryd.prog 41 #[.slice none 0 0, .int .i64 1] w fun e w' => e = .returned (.int .i64 1) ∧ w = w' := by
  go_enter Tryd.func41, Tryd.ntmps41
  go_wp2
  go_loop [1, 5] (fun q i => q = .int .i64 1 ∧ i = .int .i64 0) (fun _ _ => 0)
  case atStart => exact ⟨rfl, rfl⟩
  case round =>
    obtain ⟨rfl, rfl⟩ := hrel
    go_wp2
    go_ret
    exact ⟨rfl, rfl⟩

/-- laws.markIntS on a row of the call's own, from the mark 1 on. -/
theorem mark_ints {B n : Nat} {v : Value} {xs : List Value} {w : World} (hown : w.ownsRow B 3 1 v n xs) (hn : n ≤ 2097152) :
    Calls Tryd.prog 41 #[v, .int .i64 1] w fun e w' => e = .returned (.int .i64 ((n : Int) + 1)) ∧ w'.ownsRow B 3 1 v n (ints (imarks n)) ∧ w.grownBy w' v.ownBlock := by
  rcases hown.2 with ⟨rfl, rfl⟩ | ⟨g, cap, cur, rfl, -⟩
  · exact (imark_nil w).mono fun e w' ⟨he, hw⟩ => ⟨he, hw ▸ World.ownsRow_nil _ _ _ _, hw ▸ ⟨rfl, rfl, rfl, Nat.le_refl _, fun _ _ _ => rfl⟩⟩
  · exact imark_full g cap n B xs w hn hown

set_option maxHeartbeats 400000 in
theorem iheld_full (a : Option Addr) (cap n : Nat) (w : World) (hn : n ≤ 2097152)
    (ha : 0 < n → ∃ b off, a = some ⟨b, off, none⟩ ∧ ∀ i, i < n → w.cell? ⟨b, off + i, none⟩ = some (.int .i64 ((i + 1 : Nat) : Int))) :
    Calls Tryd.prog 42 #[.slice a n cap, .int .i64 1] w fun e w' => e = .returned (.int .i64 ((n : Int) + 1)) ∧ w = w' := by
  have HA := Lib.hid ha
  clear ha
  go_enter Tryd.func42, Tryd.ntmps42
  go_wp2
  go_loop [1, 5] (fun q i => ∃ k : Nat, k ≤ n ∧ i = .int .i64 k ∧ q = .int .i64 ((k : Int) + 1)) (fun _ i => n - (intOf i).toNat)
  case atStart => exact ⟨0, by omega, rfl, rfl⟩
  case round =>
    obtain ⟨k, hk, rfl, rfl⟩ := hrel
    by_cases hlt : k < n
    · obtain ⟨b, off, rfl, hcell⟩ := HA.out (by omega)
      have c1 := hcell k hlt
      rw [show ((k + 1 : Nat) : Int) = (k : Int) + 1 from by omega] at c1
      clear hcell
      go_wp2
      go_round
      case rel => exact ⟨k + 1, by omega, by go_num, by go_num⟩
      case measure => simp [intOf]; omega
    · obtain rfl : k = n := by omega
      go_wp2
      go_ret
      exact ⟨rfl, rfl⟩
/-- laws.heldIntS finds the marks again. -/
theorem held_ints {B n : Nat} {v : Value} {w : World} (hr : Rd B w v (ints (imarks n))) (hn : n ≤ 2097152) :
    Calls Tryd.prog 42 #[v, .int .i64 1] w fun e w' => e = .returned (.int .i64 ((n : Int) + 1)) ∧ w = w' := by
  rcases hr.ints_cases with ⟨h0, a, ca, rfl⟩ | ⟨b, off, ca, rfl, hlt, -, hc⟩
  · have e : n = 0 := by have := congrArg List.length h0; rw [imarks_len] at this; simpa using this
    subst e
    exact iheld_full a ca 0 w (by omega) (fun h => by omega)
  · rw [imarks_len]
    refine iheld_full _ ca n w hn (fun _ => ⟨b, off, rfl, fun i hi => ?_⟩)
    have h := hc i (by rw [imarks_len]; exact hi)
    rw [h]
    have h2 := imarks_at n i hi
    rw [List.getElem?_eq_getElem (by rw [imarks_len]; exact hi)] at h2
    rw [Option.some.inj h2]
end Go.Proofs.YtceidekfcnmeaaaDoor
