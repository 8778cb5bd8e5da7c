/- laws.szStringS: what is left of a bound behind a list of texts; less than 0 where it is passed. -/
import Derived.Test.YtbngllbbgjhckaaAppTexts
namespace Go.Proofs.Ytbngllbbgjhckaa
open Go.RowKit

def SzEnd (n t : Nat) (e : Ending) : Prop := ∃ r : Int, e = .returned (.int .i64 r) ∧ -1 ≤ r ∧ r ≤ 1048576 ∧ (0 ≤ r → n + t ≤ 1048576)

set_option maxHeartbeats 400000 in
theorem sz_strs_big (a : Option Addr) (cap n t : Nat) (w : World) (hn : n ≤ 281474976710656) (hb : 1048576 < n) :
    Calls Try.prog 13 #[.slice a n cap, .int .i64 1048576] w fun e w' => SzEnd n t e ∧ w = w' := by
  go_enter Try.func13, Try.ntmps13
  go_wp2
  go_ret
  exact ⟨⟨-1, rfl, by omega, by omega, fun h => by omega⟩, rfl⟩

set_option maxHeartbeats 400000 in
theorem sz_strs_full (a : Option Addr) (cap n : Nat) (ss : List ByteArray) (w : World) (hs : ss.length = n) (hn : n ≤ 1048576) (hm : ∀ s ∈ ss, s.size ≤ 9223372036854775807)
    (ha : 0 < n → ∃ b off, a = some ⟨b, off, none⟩ ∧ ∀ i (h : i < ss.length), w.cell? ⟨b, off + i, none⟩ = some (.string ss[i])) :
    Calls Try.prog 13 #[.slice a n cap, .int .i64 1048576] w fun e w' => SzEnd n (flat ss).length e ∧ w = w' := by
  have HA := Lib.hid ha
  have HN := Lib.hid hs
  have HM := Lib.hid hm
  clear ha hs hm
  go_enter Try.func13, Try.ntmps13
  go_wp2
  go_loop [1, 5] (fun l i => ∃ k t : Nat, k ≤ n ∧ n + t ≤ 1048576 ∧ Hid ((flat (ss.take k)).length = t) ∧ i = .int .i64 k ∧ l = .int .i64 (1048576 - (n : Int) - (t : Int))) (fun _ i => n - (intOf i).toNat)
  case atStart => exact ⟨0, 0, by omega, by omega, rfl, rfl, by simp⟩
  case round =>
    obtain ⟨k, t, hk, ht, HT, rfl, rfl⟩ := hrel
    by_cases hlt : k < n
    · obtain ⟨b, off, rfl, hcell⟩ := HA.out (by omega)
      obtain ⟨x, c1, X1⟩ := strs_cell HN.out hcell hlt
      have hx := HM.out x (List.mem_of_getElem? X1.out)
      have hf := flat_snoc ss k x X1.out
      have hfl : (flat (ss.take (k + 1))).length = t + x.size := by rw [hf, List.length_append, HT.out]; simp
      have HF := Lib.hid hfl
      have hle := flat_le ss (k + 1)
      rw [hfl] at hle
      have HLE := Lib.hid hle
      clear hcell hf hfl hle
      by_cases hneg : 1048576 < n + t + x.size
      · go_wp2
        go_ret
        exact ⟨⟨-1, rfl, by omega, by omega, fun h => by omega⟩, rfl⟩
      · go_wp2
        go_round
        case rel => exact ⟨k + 1, t + x.size, by omega, by omega, HF.out, by go_num, by rw [show (1048576 - (n : Int) - (t : Int) - (x.size : Int)) = 1048576 - (n : Int) - ((t + x.size : Nat) : Int) from by omega]⟩
        case measure => simp [intOf]; omega
    · obtain rfl : k = n := by omega
      go_wp2
      go_ret
      have e : ss.take k = ss := List.take_of_length_le (by rw [HN.out]; omega)
      exact ⟨⟨_, rfl, by omega, by omega, fun h => by have := HT.out; rw [e] at this; omega⟩, rfl⟩

theorem sz_strs {B : Nat} {v : Value} {ss : List ByteArray} {w : World} (h : Rd B w v (strs ss)) (hn : ss.length ≤ 281474976710656) (hm : ∀ s ∈ ss, s.size ≤ 9223372036854775807) :
    Calls Try.prog 13 #[v, .int .i64 1048576] w fun e w' => SzEnd ss.length (flat ss).length e ∧ w = w' := by
  rcases h.strs_cases with ⟨rfl, a, ca, rfl⟩ | ⟨b, off, ca, rfl, -, -, hc⟩
  · exact sz_strs_full a ca 0 [] w rfl (by omega) (fun s hs => by simp at hs) (fun h => by omega)
  · by_cases hb : ss.length ≤ 1048576
    · exact sz_strs_full _ ca ss.length ss w rfl hb hm (fun _ => ⟨b, off, rfl, hc⟩)
    · exact sz_strs_big _ ca ss.length _ w hn (by omega)
end Go.Proofs.Ytbngllbbgjhckaa
