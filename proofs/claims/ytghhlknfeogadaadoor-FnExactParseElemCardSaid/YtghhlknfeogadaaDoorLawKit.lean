
/- What the laws' walks carry: rows of the call's own between two heap sizes; marks from any number on. -/
import Derived.Test.YtghhlknfeogadaaDoorToInts
import Derived.Test.YtghhlknfeogadaaDoorEqInts
import Derived.WalkLawsBesides
namespace Go.Proofs.YtghhlknfeogadaaDoor
set_option maxRecDepth 20000
open Go.RowKit

/-- v is a row of integers xs of the call's own, whose block, if it has one, lies from lo to hi. -/
def Own (w : World) (lo hi : Nat) (v : Value) (xs : List Int) : Prop :=
  w.ownsRow lo 3 1 v xs.length (ints xs) ∧ (∀ g, v.ownBlock = some g → g < hi) ∧ hi ≤ w.heap.size
/-- What a function that makes a row answers. -/
def NewRow (w : World) (xs : List Int) (e : Ending) (w' : World) : Prop := ∃ r, e = .returned r ∧ Own w' w.heap.size w'.heap.size r xs ∧ Below w.heap.size w w'
theorem Own.of {w : World} {lo n : Nat} {v : Value} {xs : List Int} (h : w.ownsRow lo 3 1 v n (ints xs)) (hn : xs.length = n) : Own w lo w.heap.size v xs :=
  ⟨hn ▸ h, fun g hg => (h.lt g hg).2, Nat.le_refl _⟩
theorem Own.nil (w : World) (lo : Nat) : Own w lo w.heap.size (.slice none 0 0) [] := ⟨World.ownsRow_nil _ _ _ _, (fun g hg => by cases hg), Nat.le_refl _⟩
theorem Own.lo {w : World} {lo hi : Nat} {v : Value} {xs : List Int} (h : Own w lo hi v xs) : ∀ g, v.ownBlock = some g → lo ≤ g := fun g hg => (h.1.lt g hg).1
theorem Own.kept {w w' : World} {lo hi : Nat} {v : Value} {xs : List Int} {row : Option Nat} (h : Own w lo hi v xs) (hg : w.grownBy w' row) (hne : ∀ g, row = some g → g < lo ∨ hi ≤ g) : Own w' lo hi v xs :=
  ⟨h.1.kept (row := row) hg (by
    cases hv : v.ownBlock with
    | none => exact .inl rfl
    | some g =>
      refine .inr fun e => ?_
      have h1 := h.2.1 g hv
      have h2 := h.lo g hv
      rcases hne g e.symm with h3 | h3 <;> omega), h.2.1, Nat.le_trans h.2.2 hg.size⟩
theorem Own.below {w w' : World} {lo hi B : Nat} {v : Value} {xs : List Int} (h : Own w lo hi v xs) (hb : Below B w w') (hB : w.heap.size ≤ B) : Own w' lo hi v xs :=
  h.kept (row := none) ⟨hb.os, hb.tape, hb.output, hb.size, fun k hk _ => hb.block k (Nat.lt_of_lt_of_le hk hB)⟩ (fun g hg => by cases hg)
theorem Own.rd {w : World} {lo hi : Nat} {v : Value} {xs : List Int} (h : Own w lo hi v xs) : Rd hi w v (ints xs) := by
  rcases Rd.of_own h.1 with ⟨h1, a, cap, rfl⟩ | ⟨b, off, cap, rfl, h2, h3⟩
  · exact .inl ⟨h1, a, cap, rfl⟩
  · exact .inr ⟨b, off, cap, rfl, h.2.1 b rfl, h3⟩
theorem Rd.kept {B : Nat} {w w' : World} {v : Value} {xs : List Value} {row : Option Nat} (h : Rd B w v xs) (hg : w.grownBy w' row) (hB : B ≤ w.heap.size) (hne : ∀ g, row = some g → B ≤ g) : Rd B w' v xs := by
  rcases h with h | ⟨b, off, cap, hv, hlt, hcp, hc⟩
  · exact .inl h
  · refine .inr ⟨b, off, cap, hv, hlt, hcp, fun i u hi => ?_⟩
    have hb : w'.heap[b]? = w.heap[b]? := hg.block b (by omega) (fun e => by have := hne b e.symm; omega)
    rw [← hc i u hi]
    exact World.cell?_of_block (w := w) hb
theorem below_of_drewN {w w' : World} {q : Nat} (h : w' = w.drewN q) : Below w.heap.size w w' := h ▸ below_drewN (Below.refl _ _) q

def marksI (s n : Nat) : List Int := (List.range n).map fun i => ((s + i : Nat) : Int)
theorem marksI_len (s n : Nat) : (marksI s n).length = n := by simp [marksI]
theorem marksI_at (s n i : Nat) (h : i < n) : (marksI s n)[i]? = some ((s + i : Nat) : Int) := by simp [marksI, h]
theorem grownBy_setCell {w w1 : World} {r : Option Nat} (h : w.grownBy w1 r) {p : Addr} (hp : some p.block = r) (u : Value) : w.grownBy (w1.setCell p u) r :=
  ⟨h.os, h.tape, h.output, by simpa using h.size, fun k hk hr => (Below.heap_setCell w1 p u k (fun e => hr (by rw [e, hp]))).trans (h.block k hk hr)⟩

set_option maxHeartbeats 400000 in
theorem marks_full (g cap n B s : Nat) (xs : List Value) (w : World) (hn : n ≤ 4611686018427387904) (hs : s ≤ 2305843009213693952) (hown : w.ownsRow B 3 1 (.slice (some ⟨g, 0, none⟩) n cap) n xs) :
    Calls Tryd.prog 15 #[.slice (some ⟨g, 0, none⟩) n cap, .int .i64 s] w fun e w' => e = .returned (.int .i64 ((s + n : Nat) : Int)) ∧ w'.ownsRow B 3 1 (.slice (some ⟨g, 0, none⟩) n cap) n (ints (marksI s n)) ∧ w.grownBy w' (some g) := by
  have OW := Lib.hid hown
  clear hown
  go_enter Tryd.func15, Tryd.ntmps15
  go_wp2
  go_loopw [1, 5] (fun q i wr => ∃ (k : Nat) (cs : List Value), k ≤ n ∧ i = .int .i64 k ∧ q = .int .i64 ((s + k : Nat) : Int) ∧ Hid (wr.ownsRow B 3 1 (.slice (some ⟨g, 0, none⟩) n cap) n cs) ∧ Hid (∀ j, j < k → cs[j]? = (ints (marksI s n))[j]?) ∧ Hid (w.grownBy wr (some g))) (fun _ i _ => n - (intOf i).toNat)
  case atStart => exact ⟨0, xs, by omega, rfl, rfl, OW, fun j hj => by omega, ⟨rfl, rfl, rfl, Nat.le_refl _, fun _ _ _ => rfl⟩⟩
  case round =>
    obtain ⟨k, cs, hk, rfl, rfl, HO, HC, HG⟩ := hrel
    obtain ⟨q, hq⟩ : ∃ q, q = s + k := ⟨_, rfl⟩
    rw [← hq]
    have HQ := Lib.hid hq
    have hq2 : q ≤ 6917529027641081856 := by omega
    clear hq
    by_cases hlt : k < n
    · have clen : cs.length = n := by have := HO.out.1; omega
      have c3 : wr.cell? ⟨g, k, none⟩ = some (cs[k]'(by omega)) := by
        rw [HO.out.cellAt k (by omega)]; exact List.getElem?_eq_getElem _
      have f3 := HO.out.frozenAt k
      have ST := Lib.hid (HO.out.stored k (.int .i64 (q : Int)))
      go_wp2
      go_roundw
      case rel =>
        refine ⟨k + 1, cs.set k (.int .i64 (q : Int)), by omega, by go_num, by rw [show s + (k + 1) = q + 1 from by rw [HQ.out]; omega]; go_num, ST.out.1, ?_, grownBy_setCell HG.out rfl _⟩
        intro j hj
        by_cases e : j = k
        · subst e
          rw [List.getElem?_set_self (by omega), ints_at _ _ (by rw [marksI_len]; omega)]
          simp [marksI, HQ.out]
        · rw [List.getElem?_set_ne (by omega)]
          exact HC.out j (by omega)
      case measure => simp [intOf]; omega
    · obtain rfl : k = n := by omega
      go_wp2
      go_ret
      have e : cs = ints (marksI s k) := by
        apply List.ext_getElem?
        intro j
        by_cases hj : j < k
        · exact HC.out j hj
        · have clen : cs.length = k := by have := HO.out.1; omega
          rw [List.getElem?_eq_none (by omega), List.getElem?_eq_none (by rw [ints_len, marksI_len]; omega)]
      exact ⟨by rw [← HQ.out]; rfl, e ▸ HO.out, HG.out⟩

set_option maxHeartbeats 400000 in
theorem marks_none (s : Nat) (w : World) :
    Calls Tryd.prog 15 #[.slice none 0 0, .int .i64 s] w fun e w' => e = .returned (.int .i64 s) ∧ w = w' := by
  go_enter Tryd.func15, Tryd.ntmps15
  go_wp2
  go_loop [1, 5] (fun q i => q = .int .i64 s ∧ i = .int .i64 0) (fun _ _ => 0)
  case atStart => exact ⟨rfl, rfl⟩
  case round =>
    obtain ⟨rfl, rfl⟩ := hrel
    go_wp2
    go_ret
    exact ⟨rfl, rfl⟩

/-- laws.markIntS on a row of the call's own, from the mark s on. -/
theorem marks_from {lo hi : Nat} {v : Value} {xs : List Int} {w : World} {z : Int} (s : Nat) (hz : z = (s : Int)) (h : Own w lo hi v xs) (hn : xs.length ≤ 4611686018427387904) (hs : s ≤ 2305843009213693952) :
    Calls Tryd.prog 15 #[v, .int .i64 z] w fun e w' => e = .returned (.int .i64 ((s + xs.length : Nat) : Int)) ∧ Own w' lo hi v (marksI s xs.length) ∧ w.grownBy w' v.ownBlock := by
  subst hz
  obtain ⟨hown, hlt, hsz⟩ := h
  rcases hown.2 with ⟨rfl, h0⟩ | ⟨g, cap, cur, rfl, -⟩
  · rw [h0]
    exact (marks_none s w).mono fun e w' ⟨he, hw⟩ => ⟨he, hw ▸ ⟨World.ownsRow_nil _ _ _ _, hlt, hsz⟩, hw ▸ ⟨rfl, rfl, rfl, Nat.le_refl _, fun _ _ _ => rfl⟩⟩
  · exact (marks_full g cap _ lo s _ w hn hs hown).mono fun e w' ⟨he, ho, hg⟩ => ⟨he, ⟨by rw [marksI_len]; exact ho, hlt, Nat.le_trans hsz hg.size⟩, hg⟩

set_option maxHeartbeats 400000 in
theorem helds_full (a : Option Addr) (cap n s : Nat) (w : World) (hn : n ≤ 4611686018427387904) (hs : s ≤ 2305843009213693952)
    (ha : 0 < n → ∃ b off, a = some ⟨b, off, none⟩ ∧ ∀ i, i < n → w.cell? ⟨b, off + i, none⟩ = some (.int .i64 ((s + i : Nat) : Int))) :
    Calls Tryd.prog 16 #[.slice a n cap, .int .i64 s] w fun e w' => e = .returned (.int .i64 ((s + n : Nat) : Int)) ∧ w = w' := by
  have HA := Lib.hid ha
  clear ha
  go_enter Tryd.func16, Tryd.ntmps16
  go_wp2
  go_loop [1, 5] (fun q i => ∃ k : Nat, k ≤ n ∧ i = .int .i64 k ∧ q = .int .i64 ((s + k : Nat) : Int)) (fun _ i => n - (intOf i).toNat)
  case atStart => exact ⟨0, by omega, rfl, rfl⟩
  case round =>
    obtain ⟨k, hk, rfl, rfl⟩ := hrel
    obtain ⟨q, hq⟩ : ∃ q, q = s + k := ⟨_, rfl⟩
    rw [← hq]
    have HQ := Lib.hid hq
    have hq2 : q ≤ 6917529027641081856 := by omega
    by_cases hlt : k < n
    · obtain ⟨b, off, rfl, hcell⟩ := HA.out (by omega)
      have c1 := hcell k hlt
      rw [← hq] at c1
      clear hcell hq
      go_wp2
      go_round
      case rel => exact ⟨k + 1, by omega, by go_num, by rw [show s + (k + 1) = q + 1 from by rw [HQ.out]; omega]; go_num⟩
      case measure => simp [intOf]; omega
    · obtain rfl : k = n := by omega
      clear hq
      go_wp2
      go_ret
      exact ⟨by rw [show ((s : Int) + (k : Int)) = (q : Int) from by have := HQ.out; omega]; rfl, rfl⟩
/-- laws.heldIntS finds the marks again. -/
theorem helds_from {B n : Nat} {v : Value} {w : World} {z : Int} (s : Nat) (hz : z = (s : Int)) (hr : Rd B w v (ints (marksI s n))) (hn : n ≤ 4611686018427387904) (hs : s ≤ 2305843009213693952) :
    Calls Tryd.prog 16 #[v, .int .i64 z] w fun e w' => e = .returned (.int .i64 ((s + n : Nat) : Int)) ∧ w = w' := by
  subst hz
  rcases hr.ints_cases with ⟨h0, a, ca, rfl⟩ | ⟨b, off, ca, rfl, hlt, -, hc⟩
  · have e : n = 0 := by have := congrArg List.length h0; rw [marksI_len] at this; simpa using this
    subst e
    exact helds_full a ca 0 s w (by omega) hs (fun h => by omega)
  · rw [marksI_len]
    refine helds_full _ ca n s w hn hs (fun _ => ⟨b, off, rfl, fun i hi => ?_⟩)
    have h := hc i (by rw [marksI_len]; exact hi)
    rw [h]
    have h2 := marksI_at s n i hi
    rw [List.getElem?_eq_getElem (by rw [marksI_len]; exact hi)] at h2
    rw [Option.some.inj h2]
/-- laws.toIntS, laws.eqIntS in the laws' words. -/
theorem to_row {B : Nat} {v : Value} {xs : List Int} {w : World} (h : Rd B w v (ints xs)) (hB : B ≤ w.heap.size) (hn : xs.length ≤ 17592186044416) :
    Calls Tryd.prog 10 #[v] w (NewRow w xs) :=
  (to_ints h hB hn).mono fun _ _ ⟨r, he, ho, hb⟩ => ⟨r, he, Own.of ho rfl, hb⟩
theorem eq_rows {B B' : Nat} {va vb : Value} {xs ys : List Int} {w : World} (ha : Rd B w va (ints xs)) (hb : Rd B' w vb (ints ys)) (he : xs = ys) (hn : xs.length ≤ 281474976710656) :
    Calls Tryd.prog 12 #[va, vb] w fun e w' => e = .returned (.bool true) ∧ Below w.heap.size w w' :=
  (eq_ints ha hb hn).mono fun _ _ ⟨h1, _, h2⟩ => ⟨by rw [h1, decide_eq_true he], below_of_drewN h2⟩
end Go.Proofs.YtghhlknfeogadaaDoor
