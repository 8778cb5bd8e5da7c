
/- (Tensor).elem, impl.ElemAt. -/
import Derived.Test.YtgdkllhgaikpnaaIndexIn
import Derived.Test.YtgdkllhgaikpnaaTensorOk2
import Derived.Test.YtgdkllhgaikpnaaElemAt
import Derived.Test.YtgdkllhgaikpnaaZero
namespace Go.Proofs.Ytgdkllhgaikpnaa
set_option maxRecDepth 20000
open Go.RowKit

/-- Where find answers: at a tensor that is valid over the ring and an index of it. -/
theorem findT_cases (k p q : Int) (L D X ix : List Int) : (findT k p q L D X ix = -1 ∧ ¬ (0 ≤ offsetI L D ix ∧ tensorB k p q L D X = true)) ∨
    ∃ o wd : Nat, findT k p q L D X ix = (o : Int) ∧ offsetI L D ix = (o : Int) ∧ tensorB k p q L D X = true ∧ widthI k q = (wd : Int) ∧ 1 ≤ wd ∧ wd ≤ 6 ∧ o ≤ 4096 ∧ o * wd + wd ≤ X.length ∧ ringB k p q = true := by
  cases ht : tensorB k p q L D X with
  | false => exact .inl ⟨if_neg (by rw [ht]; simp), by simp⟩
  | true =>
    obtain ⟨hrb, hs0, hxl, -⟩ := tensorB_inv ht
    have e : findT k p q L D X ix = offsetI L D ix := by unfold findT; rw [if_pos ht, offsetI_in hs0]
    rw [e]
    rcases offsetI_range L D ix with h | ⟨-, -, h1, h2, h3, h4⟩
    · exact .inl ⟨h, fun h5 => by omega⟩
    · right
      rw [← h1] at h2 h3
      have hwd := ring_width hrb
      obtain ⟨wd, hw⟩ : ∃ wd : Nat, widthI k q = (wd : Int) := ⟨(widthI k q).toNat, by omega⟩
      obtain ⟨o, ho⟩ : ∃ o : Nat, offsetI L D ix = (o : Int) := ⟨(offsetI L D ix).toNat, by omega⟩
      rw [ho] at h2 h3
      rw [hw] at hwd hxl
      have hlen : o * wd + wd ≤ X.length := by
        have h5 : ((o : Int) + 1) * wd ≤ sizeI L D * wd := Int.mul_le_mul_of_nonneg_right (by omega) (by omega)
        rw [← hxl, Int.add_mul, Int.one_mul] at h5
        exact_mod_cast h5
      exact ⟨o, wd, ho, ho, rfl, hw, by omega, by omega, by omega, hlen, hrb⟩

set_option maxHeartbeats 1600000 in
/-- (Tensor).elem: the part of Data. -/
theorem elem_part {b off cx mx ml cl md cd : Nat} {al ad : Option Addr} {k p q : Int} {w : World} (wd n : Nat) (hw : widthI k q = (wd : Int)) (hw1 : 1 ≤ wd) (hw2 : wd ≤ 6) (hn : n ≤ 4096) (hlen : n * wd + wd ≤ mx) (hcc : mx ≤ cx) :
    Calls Try.prog 41 #[tenV (.slice al ml cl) (.slice ad md cd) (.slice (some ⟨b, off, none⟩) mx cx), ringV k p q, .int .i64 n] w fun e w' => e = .returned (.slice (some ⟨b, off + n * wd, none⟩) wd (cx - n * wd)) ∧ Below w.heap.size w w' := by
  have H0 : Hid (Held w ((w.alloc (.cells #[.slice al ml cl, .slice ad md cd, .slice (some ⟨b, off, none⟩) mx cx] 28)).alloc (.cells #[.int .i64 k, .int .i64 p, .int .i64 q] 31)) (ringTen (w.heap.size + 1) w.heap.size k p q (.slice al ml cl) (.slice ad md cd) (.slice (some ⟨b, off, none⟩) mx cx))) := by
    have h := ((Held.refl w).box3 (.slice al ml cl) (.slice ad md cd) (.slice (some ⟨b, off, none⟩) mx cx) 28).box3 (.int .i64 k) (.int .i64 p) (.int .i64 q) 31
    simp only [World.size_alloc] at h
    exact h
  obtain ⟨s, hs⟩ : ∃ s, s = n * wd := ⟨_, rfl⟩
  have hsb : s ≤ 24576 := by rw [hs]; exact Nat.mul_le_mul hn hw2
  rw [← hs] at hlen ⊢
  have HW := Lib.hid hw
  have hm1 : (n : Int) * (wd : Int) = (s : Int) := by rw [hs]; simp
  have hm2 : ((n : Int) + 1) * (wd : Int) = ((s + wd : Nat) : Int) := by rw [Int.add_mul, Int.one_mul, hm1]; simp
  obtain ⟨se, hse⟩ : ∃ se, se = s + wd := ⟨_, rfl⟩
  rw [← hse] at hm2
  have hw3 : IntKind.i64.wrap ((s : Int)) = s := IntWalk.i64_in _ (by omega)
  have hw4 : IntKind.i64.wrap ((se : Int)) = se := IntWalk.i64_in _ (by omega)
  have hw5 : IntKind.i64.wrap ((n : Int) + 1) = (n : Int) + 1 := IntWalk.i64_in _ (by omega)
  have hg1 : (0 : Int) ≤ (s : Int) := by omega
  have hg2 : (s : Int) ≤ (se : Int) := by omega
  have hg3 : (se : Int) ≤ (cx : Int) := by omega
  have hne : ¬ cx = s := by omega
  have HE : Hid (Value.slice (some ⟨b, off + s, none⟩) (se - s) (cx - s) = .slice (some ⟨b, off + s, none⟩) wd (cx - s)) := by show _ = _; rw [hse, Nat.add_sub_cancel_left]
  clear hw hs hse hlen hcc
  go_enter Try.func41, Try.ntmps41
  go_wp2_with fail
  refine (Held.call H0 (width_impl k p q _)).mono ?_
  rw [HW.out]
  rintro e w1 ⟨rfl, H1, c0, c1, c2, d0, d1, d2, -⟩
  go_wp2
  go_ret
  exact ⟨by rw [← HE.out]; rfl, H1.out.1⟩

end Go.Proofs.Ytgdkllhgaikpnaa
