
/- The text of rings as plain mathematics: cut, joined, parsed again. -/
import Derived.Test.YtceidekfcnmeaaaGreatDoorKinds
import Derived.Test.YtceidekfcnmeaaaGreatDoorRing
import Derived.Test.YtceidekfcnmeaaaGreatDoorJoinText
import Derived.Test.YtceidekfcnmeaaaGreatDoorItoaFacts
import Derived.Test.YtceidekfcnmeaaaGreatDoorFmtInts
import Derived.Test.YtceidekfcnmeaaaGreatDoorWords
namespace Go.Proofs.YtceidekfcnmeaaaGreatDoor
set_option maxRecDepth 20000
open Go Go.RowKit

/-- The numbers in a ring's text. -/
def nums (p n : Int) : List Int := (if p = 0 then [] else [p]) ++ (if n = 0 then [] else [n])
/-- The text of the ring of these three fields. -/
def ringT (k p n : Int) : List UInt8 := kname k ++ tailL 32 (nums p n)
noncomputable def fmtRing (k p n : Int) : List UInt8 := if ringB k p n = true then ringT k p n else []
theorem ringT_step (k p n : Int) : ringT k p n = (kname k ++ (if p = 0 then [] else 32 :: Lib.itoa p)) ++ (if n = 0 then [] else 32 :: Lib.itoa n) := by
  unfold ringT nums tailL
  by_cases h1 : p = 0 <;> by_cases h2 : n = 0 <;> simp [h1, h2]
theorem ring_kind {k p n : Int} (h : ringB k p n = true) : 1 ≤ k ∧ k ≤ 8 := by
  rcases ring_cases h with h | h | h | h | h | h | h | h <;> omega
theorem ring_inI {k p n : Int} (h : ringB k p n = true) : inI p ∧ inI n := by
  unfold inI
  rcases ring_cases h with h | h | h | h | h | h | h | h <;> omega
theorem nums_inI {p n : Int} (h1 : inI p) (h2 : inI n) : allI (nums p n) := by
  intro z hz
  unfold nums at hz
  by_cases e1 : p = 0 <;> by_cases e2 : n = 0 <;> simp [e1, e2] at hz
  · subst hz; exact h2
  · subst hz; exact h1
  · rcases hz with rfl | rfl
    · exact h1
    · exact h2
theorem nums_len (p n : Int) : (nums p n).length ≤ 2 := by
  unfold nums
  by_cases e1 : p = 0 <;> by_cases e2 : n = 0 <;> simp [e1, e2]
theorem ringT_len {k p n : Int} (h : ringB k p n = true) : 1 ≤ (ringT k p n).length ∧ (ringT k p n).length ≤ 47 := by
  have h1 := ring_kind h
  have h2 := kname_plain h1.1 h1.2
  have h3 := tail_len 32 (nums_inI (ring_inI h).1 (ring_inI h).2)
  have h4 := nums_len p n
  have h5 := List.length_pos_iff.2 h2.2.1
  unfold ringT
  rw [List.length_append]
  omega

/-- What reading a text as a ring gives. -/
def RingAt (s : ByteArray) (k p n : Int) (b : Bool) : Prop :=
  (b = true ∧ ringB k p n = true ∧ s.data.toList = ringT k p n) ∨ (b = false ∧ k = 0 ∧ p = 0 ∧ n = 0 ∧ ∀ k p n, ringB k p n = true → s.data.toList ≠ ringT k p n)
/-- A ring out of a kind and the numbers of a text. -/
def ringW (k : Int) (zs : List Int) : Int × Int × Int :=
  match zs with
  | [a] => if k = 6 then (k, 0, a) else (k, a, 0)
  | [a, b] => (k, a, b)
  | _ => (k, 0, 0)
theorem ringW_nums {k p n : Int} (h : ringB k p n = true) : ringW k (nums p n) = (k, p, n) := by
  unfold nums ringW
  rcases ring_cases h with ⟨rfl, rfl, rfl⟩ | ⟨rfl, h1, h2, rfl⟩ | ⟨rfl, h1, h2, rfl⟩ | ⟨rfl, h1, h2, rfl⟩ | ⟨rfl, h1, h2, rfl⟩ | ⟨rfl, rfl, h1, h2⟩ | ⟨rfl, h1, h2, h3, h4⟩ | ⟨rfl, h1, h2, rfl⟩
  · rfl
  · rw [if_neg (by omega)]; simp
  · rw [if_neg (by omega)]; simp
  · rw [if_neg (by omega)]; simp
  · rw [if_neg (by omega)]; simp
  · rw [if_neg (show ¬ n = 0 by omega)]; simp
  · rw [if_neg (show ¬ p = 0 by omega), if_neg (show ¬ n = 0 by omega)]; simp
  · rw [if_neg (by omega)]; simp

/-- The text ahead of the first space, and behind it. -/
def CutAt (s a b : ByteArray) : Prop :=
  ((∀ x ∈ s.data.toList, x.toNat ≠ 32) ∧ a = s ∧ b = ByteArray.empty) ∨ (s.data.toList = a.data.toList ++ 32 :: b.data.toList ∧ ∀ x ∈ a.data.toList, x.toNat ≠ 32)
theorem first_split {a b a' b' : List UInt8} (h : a ++ 32 :: b = a' ++ 32 :: b') (h1 : ∀ x ∈ a, x.toNat ≠ 32) (h2 : ∀ x ∈ a', x.toNat ≠ 32) : a = a' ∧ b = b' := by
  induction a generalizing a' with
  | nil =>
    cases a' with
    | nil => simpa using h
    | cons y r =>
      simp only [List.nil_append, List.cons_append, List.cons.injEq] at h
      exact absurd (by rw [← h.1]; rfl) (h2 y (by simp))
  | cons x r ih =>
    cases a' with
    | nil =>
      simp only [List.nil_append, List.cons_append, List.cons.injEq] at h
      exact absurd (by rw [h.1]; rfl) (h1 x (by simp))
    | cons y q =>
      simp only [List.cons_append, List.cons.injEq] at h
      obtain ⟨e1, e2⟩ := ih h.2 (fun z hz => h1 z (by simp [hz])) (fun z hz => h2 z (by simp [hz]))
      exact ⟨by rw [h.1, e1], e2⟩
theorem cut_ring {k p n : Int} {s a b : ByteArray} (h : ringB k p n = true) (hs : s.data.toList = ringT k p n) (hc : CutAt s a b) : a.data.toList = kname k ∧ b.data.toList = joinL [32] (texts (nums p n)) := by
  have h1 := ring_kind h
  have h2 := kname_plain h1.1 h1.2
  unfold ringT at hs
  cases hz : nums p n with
  | nil =>
    rw [hz] at hs
    have e : s.data.toList = kname k := by simpa [tailL] using hs
    rcases hc with ⟨-, rfl, rfl⟩ | ⟨h3, -⟩
    · exact ⟨e, by simp [joinL, texts]⟩
    · exact absurd rfl (h2.1 32 (by rw [← e, h3]; simp))
  | cons z r =>
    rw [hz, tail_join] at hs
    rcases hc with ⟨h3, -, -⟩ | ⟨h3, h4⟩
    · exact absurd rfl (h3 32 (by rw [hs]; simp))
    · rw [h3] at hs
      exact first_split hs h4 h2.1
theorem words_ring {k p n : Int} {s : ByteArray} (h : ringB k p n = true) (hs : s.data.toList = ringT k p n) : wordsOf s = ⟨(kname k).toArray⟩ :: texts (nums p n) := by
  have h1 := ring_kind h
  have h2 := kname_plain h1.1 h1.2
  have e : (wordsOf s).map (fun p => p.data.toList) = ((parts s 32).map (fun p => p.data.toList)).filter (fun l => decide (0 < l.length)) := by
    unfold wordsOf
    rw [List.filter_map]
    congr 1
  have e2 : cutL 32 (ringT k p n) = kname k :: (nums p n).map Lib.itoa := by
    unfold cutL ringT
    rw [cfold_app, cfold_none _ _ h2.1]
    exact cut_tail 32 (by decide) (nums p n) [] (kname k)
  apply bytes_inj
  rw [e, parts_cut, hs, e2, List.filter_eq_self.2]
  · simp [texts, Function.comp_def]
  · intro l hl
    rcases List.mem_cons.1 hl with rfl | hl
    · simpa using List.length_pos_iff.2 h2.2.1
    · obtain ⟨z, -, rfl⟩ := List.mem_map.1 hl
      simpa using List.length_pos_iff.2 (itoa_ne z)
theorem texts_pv {zs : List Int} (h : allI zs) : (texts zs).map pv = zs.map some := by
  have e : (texts zs).map pv = (zs.map Lib.itoa).map pval := by simp [texts, pv, Function.comp_def]
  rw [e, pval_all h]
/-- Reading is unique. -/
theorem ringT_inj {k p n k' p' n' : Int} (h : ringB k p n = true) (h' : ringB k' p' n' = true) (e : ringT k p n = ringT k' p' n') : k = k' ∧ p = p' ∧ n = n' := by
  have w1 := words_ring (s := ⟨(ringT k p n).toArray⟩) h rfl
  have w2 := words_ring (s := ⟨(ringT k p n).toArray⟩) h' e
  rw [w1] at w2
  simp only [List.cons.injEq] at w2
  have e1 : kname k = kname k' := by
    have := congrArg (fun x : ByteArray => x.data.toList) w2.1
    simpa using this
  obtain rfl := kname_inj (ring_kind h).1 (ring_kind h).2 (ring_kind h').1 (ring_kind h').2 e1
  have e2 := congrArg (List.map pv) w2.2
  rw [texts_pv (nums_inI (ring_inI h).1 (ring_inI h).2), texts_pv (nums_inI (ring_inI h').1 (ring_inI h').2)] at e2
  have e3 := ringW_nums h
  rw [some_inj _ _ e2, ringW_nums h'] at e3
  simp only [Prod.mk.injEq] at e3
  exact ⟨rfl, e3.2.1.symm, e3.2.2.symm⟩
theorem RingAt.unique {s : ByteArray} {k p n k' p' n' : Int} {b b' : Bool} (h : RingAt s k p n b) (h' : RingAt s k' p' n' b') : k = k' ∧ p = p' ∧ n = n' ∧ b = b' := by
  rcases h with ⟨rfl, h1, h2⟩ | ⟨rfl, rfl, rfl, rfl, h1⟩ <;> rcases h' with ⟨rfl, h1', h2'⟩ | ⟨rfl, rfl, rfl, rfl, h1'⟩
  · obtain ⟨e1, e2, e3⟩ := ringT_inj h1 h1' (h2.symm.trans h2')
    exact ⟨e1, e2, e3, rfl⟩
  · exact absurd h2 (h1' _ _ _ h1)
  · exact absurd h2' (h1 _ _ _ h1')
  · exact ⟨rfl, rfl, rfl, rfl⟩
end Go.Proofs.YtceidekfcnmeaaaGreatDoor
