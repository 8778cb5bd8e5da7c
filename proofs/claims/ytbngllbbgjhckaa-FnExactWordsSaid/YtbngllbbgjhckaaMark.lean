/- laws.markText, markStringS, heldStringS: marks written into a slice of texts, and found again. -/
import Derived.Test.YtbngllbbgjhckaaNum
import Derived.Test.YtbngllbbgjhckaaToStrs
import Derived.WalkLawsBesides
import Derived.IntWalk
import Derived.Deep.RegionWith
namespace Go.Proofs.Ytbngllbbgjhckaa
open Go.RowKit

theorem conv_at {w : World} {b : Nat} {v : Int} (h : w.cell? ⟨b, 0, none⟩ = some (.int .u8 v)) : (convert 32 9 (.slice (some ⟨b, 0, none⟩) 1 1)).run Try.prog w = .ok (.string (one v)) w := by
  have hcell : ∀ i, i < 1 → w.cell? ⟨b, 0 + i, none⟩ = some (.int .u8 ([v].getD i 0)) := by
    intro i hi
    obtain rfl : i = 0 := by omega
    exact h
  rw [run_convert_bytes_arg w 32 5 Try.underlying32 Try.underlying5 b 0 1 1 [v] rfl hcell 9 Try.underlying9]
  rfl
theorem conv_one (w : World) (v : Int) : (convert 32 9 (.slice (some ⟨w.heap.size, 0, none⟩) 1 1)).run Try.prog (w.alloc (.cells #[.int .u8 v] 5)) = .ok (.string (one v)) (w.alloc (.cells #[.int .u8 v] 5)) :=
  conv_at (cell_one_new w (.int .u8 v) 5 0 _ rfl)
/-- The mark k: the letter m and the decimal numeral. -/
def mt (k : Nat) : ByteArray := ⟨(109 :: Lib.decDigits k).toArray⟩
def dec0 (k : Nat) : List UInt8 := if k = 0 then [] else Lib.decDigits k
theorem dec0_step {k : Nat} (h : 0 < k) : dec0 k = dec0 (k / 10) ++ [UInt8.ofNat (48 + k % 10)] := by
  unfold dec0
  rw [if_neg (by omega)]
  by_cases h9 : k < 10
  · rw [dec_small h9, if_pos (by omega), Nat.mod_eq_of_lt h9]; rfl
  · rw [dec_big h9, if_neg (by omega)]
theorem dec0_len {m k : Nat} {acc : List UInt8} (h : dec0 m = dec0 k ++ acc) : acc.length ≤ m + 1 := by
  have h1 := dec_len m
  have h2 := congrArg List.length h
  rw [List.length_append] at h2
  unfold dec0 at h2
  split at h2
  · simp at h2; omega
  · omega

set_option maxHeartbeats 400000 in
theorem mark_text (m : Nat) (w : World) (h0 : 0 < m) (hm : m ≤ 4194304) :
    Calls Try.prog 18 #[.int .i64 m] w fun e w' => e = .returned (.string (mt m)) ∧ Below w.heap.size w w' := by
  have kc := conv_one
  go_enter Try.func18, Try.ntmps18
  go_wp2
  go_loopw [0, 3] (fun n s wr => ∃ (k : Nat) (acc : List UInt8), k ≤ m ∧ n = .int .i64 k ∧ s = .string ⟨acc.toArray⟩ ∧ Hid (dec0 m = dec0 k ++ acc) ∧ Below w.heap.size w wr) (fun n _ _ => (intOf n).toNat)
  case atStart => exact ⟨m, [], Nat.le_refl _, rfl, rfl, by show _ = _; simp, Below.refl _ _⟩
  case round =>
    obtain ⟨k, acc, hk, rfl, rfl, HD, hb⟩ := hrel
    have hl := dec0_len HD.out
    have hz := hb.size
    have hs1 := one_size
    by_cases h9 : 0 < k
    · go_wp2
      go_roundw
      case rel => exact ⟨k / 10, UInt8.ofNat (48 + k % 10) :: acc, by omega, by go_num, by rw [one_add, dig_mod], by show _ = _; rw [HD.out, dec0_step h9]; simp, hb.alloc hz _⟩
      case measure => simp [intOf]; omega
    · obtain rfl : k = 0 := by omega
      go_wp2
      go_ret
      have e : acc = Lib.decDigits m := by
        have h := HD.out
        unfold dec0 at h
        rw [if_neg (by omega), if_pos rfl, List.nil_append] at h
        exact h.symm
      exact ⟨by
        have e2 : (⟨#[109]⟩ : ByteArray) ++ ⟨acc.toArray⟩ = mt m := by
          rw [e]; apply ByteArray.ext; apply Array.ext'; simp [mt]
        rw [← e2]; rfl, hb⟩

def marks (k n : Nat) : List ByteArray := (List.range n).map fun i => mt (k + i)
theorem marks_len (k n : Nat) : (marks k n).length = n := by simp [marks]
theorem marks_at (k n i : Nat) (h : i < n) : (marks k n)[i]? = some (mt (k + i)) := by simp [marks, h]
theorem grown_below {w w1 w2 : World} {r : Option Nat} (h : w.grownBy w1 r) (hb : Below w1.heap.size w1 w2) : w.grownBy w2 r :=
  ⟨hb.os.trans h.os, hb.tape.trans h.tape, hb.output.trans h.output, Nat.le_trans h.size hb.size, fun k hk hr => (hb.block k (Nat.lt_of_lt_of_le hk h.size)).trans (h.block k hk hr)⟩
theorem grown_setCell {w w1 : World} {r : Option Nat} (h : w.grownBy w1 r) {p : Addr} (hp : some p.block = r) (u : Value) : w.grownBy (w1.setCell p u) r :=
  ⟨h.os, h.tape, h.output, by simpa using h.size, fun k hk hr => (Below.heap_setCell w1 p u k (fun e => hr (by rw [e, hp]))).trans (h.block k hk hr)⟩
theorem own_by {w w' : World} {B : Nat} {E : TypeId} {v : Value} {n : Nat} {xs : List Value} (h : w.ownsRow B E 1 v n xs) (hb : Below w.heap.size w w') : w'.ownsRow B E 1 v n xs :=
  h.kept (row := none) ⟨hb.os, hb.tape, hb.output, hb.size, fun k hk _ => hb.block k hk⟩ (by
    cases hv : v.ownBlock with
    | none => exact .inl rfl
    | some g => exact .inr (by simp))

set_option maxHeartbeats 400000 in
theorem mark_full (g cap n B : Nat) (xs : List Value) (w : World) (hn : n ≤ 2097152) (hown : w.ownsRow B 9 1 (.slice (some ⟨g, 0, none⟩) n cap) n xs) :
    Calls Try.prog 9 #[.slice (some ⟨g, 0, none⟩) n cap, .int .i64 1] w fun e w' => e = .returned (.int .i64 ((n : Int) + 1)) ∧ w'.ownsRow B 9 1 (.slice (some ⟨g, 0, none⟩) n cap) n (strs (marks 1 n)) ∧ w.grownBy w' (some g) := by
  have OW := Lib.hid hown
  clear hown
  go_enter Try.func9, Try.ntmps9
  go_wp2
  go_loopw [1, 5] (fun q i wr => ∃ (k : Nat) (cs : List Value), k ≤ n ∧ i = .int .i64 k ∧ q = .int .i64 ((k : Int) + 1) ∧ Hid (wr.ownsRow B 9 1 (.slice (some ⟨g, 0, none⟩) n cap) n cs) ∧ Hid (∀ j, j < k → cs[j]? = (strs (marks 1 n))[j]?) ∧ Hid (w.grownBy wr (some g))) (fun _ i _ => n - (intOf i).toNat)
  case atStart => exact ⟨0, xs, by omega, rfl, rfl, OW, fun j hj => by omega, ⟨rfl, rfl, rfl, Nat.le_refl _, fun _ _ _ => rfl⟩⟩
  case round =>
    obtain ⟨k, cs, hk, rfl, rfl, HO, HC, HG⟩ := hrel
    by_cases hlt : k < n
    · have hk1 : ((k : Int) + 1) = ((k + 1 : Nat) : Int) := by omega
      have K1 := Lib.hid hk1
      clear hk1
      go_wp2_with fail
      rw [K1.out]
      refine (mark_text (k + 1) wr (by omega) (by omega)).mono ?_
      rintro e w2 ⟨rfl, hb2⟩
      have HO2 := Lib.hid (own_by HO.out hb2)
      have HG2 := Lib.hid (grown_below HG.out hb2)
      have clen : cs.length = n := by have := HO.out.1; omega
      have c3 : w2.cell? ⟨g, k, none⟩ = some (cs[k]'(by omega)) := by
        rw [HO2.out.cellAt k (by omega)]; exact List.getElem?_eq_getElem _
      have f3 := HO2.out.frozenAt k
      have ST := Lib.hid (HO2.out.stored k (.string (mt (k + 1))))
      clear hb2
      go_wp2
      go_roundw
      case rel =>
        refine ⟨k + 1, cs.set k (.string (mt (k + 1))), by omega, by go_num, by go_num, ST.out.1, ?_, grown_setCell HG2.out rfl _⟩
        intro j hj
        by_cases e : j = k
        · subst e
          rw [List.getElem?_set_self (by omega), strs_at _ _ (by rw [marks_len]; omega)]
          simp [marks, Nat.add_comm]
        · rw [List.getElem?_set_ne (by omega)]
          exact HC.out j (by omega)
      case measure => simp [intOf]; omega
    · obtain rfl : k = n := by omega
      go_wp2
      go_ret
      have e : cs = strs (marks 1 k) := by
        apply List.ext_getElem?
        intro j
        by_cases hj : j < k
        · exact HC.out j hj
        · have clen : cs.length = k := by have := HO.out.1; omega
          rw [List.getElem?_eq_none (by omega), List.getElem?_eq_none (by rw [strs_len, marks_len]; omega)]
      exact ⟨rfl, e ▸ HO.out, HG.out⟩

set_option maxHeartbeats 400000 in
theorem mark_nil (w : World) :
    Calls Try.prog 9 #[.slice none 0 0, .int .i64 1] w fun e w' => e = .returned (.int .i64 1) ∧ w = w' := by
  go_enter Try.func9, Try.ntmps9
  go_wp2
  go_loop [1, 5] (fun q i => q = .int .i64 1 ∧ i = .int .i64 0) (fun _ _ => 0)
  case atStart => exact ⟨rfl, rfl⟩
  case round =>
    obtain ⟨rfl, rfl⟩ := hrel
    go_wp2
    go_ret
    exact ⟨rfl, rfl⟩

/-- laws.markStringS on a row of the call's own, from the mark 1 on. -/
theorem mark_strs {B n : Nat} {v : Value} {xs : List Value} {w : World} (hown : w.ownsRow B 9 1 v n xs) (hn : n ≤ 2097152) :
    Calls Try.prog 9 #[v, .int .i64 1] w fun e w' => e = .returned (.int .i64 ((n : Int) + 1)) ∧ w'.ownsRow B 9 1 v n (strs (marks 1 n)) ∧ w.grownBy w' v.ownBlock := by
  rcases hown.2 with ⟨rfl, rfl⟩ | ⟨g, cap, cur, rfl, -⟩
  · exact (mark_nil w).mono fun e w' ⟨he, hw⟩ => ⟨he, hw ▸ World.ownsRow_nil _ _ _ _, hw ▸ ⟨rfl, rfl, rfl, Nat.le_refl _, fun _ _ _ => rfl⟩⟩
  · exact mark_full g cap n B xs w hn hown

set_option maxHeartbeats 400000 in
theorem held_full (a : Option Addr) (cap n : Nat) (w : World) (hn : n ≤ 2097152)
    (ha : 0 < n → ∃ b off, a = some ⟨b, off, none⟩ ∧ b < w.heap.size ∧ ∀ i, i < n → w.cell? ⟨b, off + i, none⟩ = some (.string (mt (1 + i)))) :
    Calls Try.prog 10 #[.slice a n cap, .int .i64 1] w fun e w' => e = .returned (.int .i64 ((n : Int) + 1)) ∧ Below w.heap.size w w' := by
  have HA := Lib.hid ha
  clear ha
  go_enter Try.func10, Try.ntmps10
  go_wp2
  go_loopw [1, 5] (fun q i wr => ∃ k : Nat, k ≤ n ∧ i = .int .i64 k ∧ q = .int .i64 ((k : Int) + 1) ∧ Hid (Below w.heap.size w wr)) (fun _ i _ => n - (intOf i).toNat)
  case atStart => exact ⟨0, by omega, rfl, rfl, Below.refl _ _⟩
  case round =>
    obtain ⟨k, hk, rfl, rfl, HB⟩ := hrel
    by_cases hlt : k < n
    · obtain ⟨b, off, rfl, hbw, hcell⟩ := HA.out (by omega)
      have c1 := hcell k hlt
      obtain ⟨x, hx⟩ : ∃ x, x = mt (k + 1) := ⟨_, rfl⟩
      have hk1 : ((k : Int) + 1) = ((k + 1 : Nat) : Int) := by omega
      rw [show 1 + k = k + 1 from by omega, ← hx] at c1
      have X := Lib.hid hx
      have K1 := Lib.hid hk1
      have c2 : wr.cell? ⟨b, off + k, none⟩ = some (.string x) := (HB.out.cell (p := ⟨b, off + k, none⟩) hbw).trans c1
      have hbr : b < wr.heap.size := Nat.lt_of_lt_of_le hbw HB.out.size
      have hq : (x.toList == x.toList) = true := beq_self_eq_true _
      clear hcell c1 hx hk1 hbw
      go_wp2
      go_region_with (go_at_call 18; rw [K1.out]; refine (mark_text (k + 1) _ (by omega) (by omega)).mono ?_; rw [← X.out]; rintro e w1 ⟨rfl, hb1⟩; have c3 : w1.cell? ⟨b, off + k, none⟩ = some (.string x) := (hb1.cell (p := ⟨b, off + k, none⟩) (by simpa using hbr)).trans c2)
      all_goals
        have HB1 := Lib.hid ((HB.out.drew).trans (hb1.mono (by simpa using HB.out.size)))
        clear hb1
        go_wp2
        go_roundw
        case rel => exact ⟨k + 1, by omega, by go_num, by go_num, HB1.out⟩
        case measure => simp [intOf]; omega
    · obtain rfl : k = n := by omega
      go_wp2
      go_ret
      exact ⟨rfl, HB.out⟩

/-- laws.heldStringS finds the marks again. -/
theorem held_strs {B n : Nat} {v : Value} {w : World} (hr : Rd B w v (strs (marks 1 n))) (hB : B ≤ w.heap.size) (hn : n ≤ 2097152) :
    Calls Try.prog 10 #[v, .int .i64 1] w fun e w' => e = .returned (.int .i64 ((n : Int) + 1)) ∧ Below w.heap.size w w' := by
  rcases hr.strs_cases with ⟨h0, a, ca, rfl⟩ | ⟨b, off, ca, rfl, hlt, -, hc⟩
  · have e : n = 0 := by have := congrArg List.length h0; rw [marks_len] at this; simpa using this
    subst e
    exact held_full a ca 0 w (by omega) (fun h => by omega)
  · rw [marks_len]
    refine held_full _ ca n w hn (fun _ => ⟨b, off, rfl, by omega, fun i hi => ?_⟩)
    have h := hc i (by rw [marks_len]; exact hi)
    rw [h]
    have h2 := marks_at 1 n i hi
    rw [List.getElem?_eq_getElem (by rw [marks_len]; exact hi)] at h2
    rw [Option.some.inj h2]
end Go.Proofs.Ytbngllbbgjhckaa
