
/- Neighbors of sets of tensors, and sets that are chosen: around, choose. -/
import Derived.Test.YtdheakjjnaifkaaGraph
namespace Go.Proofs.Ytdheakjjnaifkaa
set_option maxRecDepth 20000
open Go.RowKit

def arTo (ts : List TenE) (s n : Nat) : Nat := (List.range n).foldl (fun (a : Nat) (x : Nat) => if useS ts (x : Int) &&& s ≠ 0 then a ||| useS ts (x : Int) else a) s
theorem arTo_step (ts : List TenE) (s n : Nat) : arTo ts s (n + 1) = if useS ts (n : Int) &&& s ≠ 0 then arTo ts s n ||| useS ts (n : Int) else arTo ts s n := by
  unfold arTo
  rw [List.range_succ, List.foldl_append]; rfl
def arS (ts : List TenE) (s : Nat) : Nat := arTo ts s 100
theorem arTo_lt {ts : List TenE} {s : Nat} (h : ts.length ≤ 12) (hs : s < 4096) : ∀ n, arTo ts s n < 4096 := by
  intro n
  induction n with
  | zero => exact hs
  | succ n ih =>
    rw [arTo_step]
    split
    · exact Nat.or_lt_two_pow (n := 12) ih (useS_lt _ h)
    · exact ih
theorem and_ne {a b : Nat} : a &&& b ≠ 0 ↔ ∃ i, a.testBit i = true ∧ b.testBit i = true := by
  constructor
  · intro h
    obtain ⟨i, hi⟩ := Nat.exists_testBit_of_ne_zero h
    exact ⟨i, (and_bit _ _ _).1 hi⟩
  · rintro ⟨i, h1, h2⟩ e
    have := (and_bit a b i).2 ⟨h1, h2⟩
    rw [e] at this
    simp at this
theorem arTo_bit (ts : List TenE) (s i : Nat) : ∀ n, (arTo ts s n).testBit i = true ↔ s.testBit i = true ∨ ∃ x : Nat, x < n ∧ (useS ts (x : Int)).testBit i = true ∧ ∃ j, (useS ts (x : Int)).testBit j = true ∧ s.testBit j = true := by
  intro n
  induction n with
  | zero => simp [arTo]
  | succ n ih =>
    rw [arTo_step]
    constructor
    · intro h
      split at h
      · rename_i hne
        rcases (or_bit _ _ _).1 h with h | h
        · rcases ih.1 h with h | ⟨x, h1, h2⟩
          · exact .inl h
          · exact .inr ⟨x, by omega, h2⟩
        · exact .inr ⟨n, by omega, h, and_ne.1 hne⟩
      · rcases ih.1 h with h | ⟨x, h1, h2⟩
        · exact .inl h
        · exact .inr ⟨x, by omega, h2⟩
    · intro h
      have old : (arTo ts s n).testBit i = true → (if useS ts (n : Int) &&& s ≠ 0 then arTo ts s n ||| useS ts (n : Int) else arTo ts s n).testBit i = true := fun q => by
        split
        · exact (or_bit _ _ _).2 (.inl q)
        · exact q
      rcases h with h | ⟨x, h1, h2, h3⟩
      · exact old (ih.2 (.inl h))
      · by_cases e : x = n
        · subst e
          rw [if_pos (and_ne.2 h3)]
          exact (or_bit _ _ _).2 (.inr h2)
        · exact old (ih.2 (.inr ⟨x, by omega, h2, h3⟩))
/-- Two tensors have a label in common. -/
def MeetT (ts : List TenE) (i j : Nat) : Prop := ∃ (x : Int) (t u : TenE), ts[i]? = some t ∧ ts[j]? = some u ∧ x ∈ t.1 ∧ x ∈ u.1
theorem MeetT.symm {ts : List TenE} {i j : Nat} (h : MeetT ts i j) : MeetT ts j i := by
  obtain ⟨x, t, u, h1, h2, h3, h4⟩ := h
  exact ⟨x, u, t, h2, h1, h4, h3⟩
/-- All neighbors of the tensors of a set, and the set itself. -/
theorem arS_bit {ts : List TenE} (hax : AxT ts) (s i : Nat) : (arS ts s).testBit i = true ↔ s.testBit i = true ∨ ∃ j, s.testBit j = true ∧ MeetT ts i j := by
  unfold arS
  rw [arTo_bit]
  constructor
  · rintro (h | ⟨x, h1, h2, j, h3, h4⟩)
    · exact .inl h
    · obtain ⟨t, ht, hx⟩ := (useS_bit ts _ i).1 h2
      obtain ⟨u, hu, hy⟩ := (useS_bit ts _ j).1 h3
      exact .inr ⟨j, h4, x, t, u, ht, hu, hx, hy⟩
  · rintro (h | ⟨j, h4, x, t, u, ht, hu, hx, hy⟩)
    · exact .inl h
    · have hr := (hax t (List.mem_of_getElem? ht)).2.2.1 x hx
      have e : ((x.toNat : Nat) : Int) = x := by omega
      refine .inr ⟨x.toNat, by omega, ?_, j, ?_, h4⟩
      · rw [e]; exact (useS_bit ts _ i).2 ⟨t, ht, hx⟩
      · rw [e]; exact (useS_bit ts _ j).2 ⟨u, hu, hy⟩
set_option maxHeartbeats 3200000 in
theorem around_impl {h s : Nat} {ts : List TenE} {w : World} (hg : ∀ x : Nat, x < 100 → w.cell? ⟨h, x, none⟩ = some (.int .u64 (useS ts (x : Int)))) (hn : ts.length ≤ 12) (hs : s < 4096) :
    Calls Try.prog 68 #[.pointer (some ⟨h, 0, none⟩), .int .u64 s] w fun e w' => e = .returned (.int .u64 (arS ts s)) ∧ w = w' := by
  have HG := Lib.hid hg
  have HN := Lib.hid hn
  have HS := Lib.hid hs
  clear hg hn hs
  go_enter Try.func68, Try.ntmps68
  go_wp2
  go_loopw [5, 10] (fun u i wr => ∃ x a : Nat, x ≤ 100 ∧ i = .int .i64 x ∧ u = .int .u64 a ∧ Hid (a = arTo ts s x) ∧ wr = w) (fun _ i _ => 100 - (intOf i).toNat)
  case atStart => exact ⟨0, s, by omega, rfl, rfl, Lib.hid rfl, rfl⟩
  case round =>
    obtain ⟨x, a, hx, rfl, rfl, HA, rfl⟩ := hrel
    by_cases hlt : x < 100
    · have cx := HG.out x hlt
      obtain ⟨v, hv⟩ : ∃ v, v = useS ts (x : Int) := ⟨_, rfl⟩
      rw [← hv] at cx
      have hv4 : v < 4096 := by rw [hv]; exact useS_lt _ HN.out
      have ha4 : a < 4096 := by rw [HA.out]; exact arTo_lt HN.out HS.out _
      have hxI : (x : Int) < 100 := by omega
      have hand := u64_and_nat v s (by omega) (by have := HS.out; omega)
      have hor := u64_or_nat a v (by omega) (by omega)
      have HST := Lib.hid (arTo_step ts s x)
      have HV := Lib.hid hv
      by_cases h0 : v &&& s = 0
      · have hd : (((v &&& s : Nat) : Int) != 0) = false := by rw [h0]; rfl
        have HA2 : Hid (a = arTo ts s (x + 1)) := Lib.hid (by rw [HST.out, ← HV.out, if_neg (fun h => h h0)]; exact HA.out)
        rw [← hand] at hd
        clear hv h0 hand hor
        go_wp2
        go_roundw
        case rel => exact ⟨x + 1, a, by omega, by go_num, rfl, HA2, trivial⟩
        case measure => simp [intOf]; omega
      · have hd : (((v &&& s : Nat) : Int) != 0) = true := by simpa using (by omega : ((v &&& s : Nat) : Int) ≠ 0)
        have HA2 : Hid (a ||| v = arTo ts s (x + 1)) := Lib.hid (by rw [HST.out, ← HV.out, if_pos h0, ← HA.out])
        have HO := Lib.hid hor
        rw [← hand] at hd
        clear hv h0 hand hor
        go_wp2
        go_roundw
        case rel => exact ⟨x + 1, a ||| v, by omega, by go_num, by rw [HO.out], HA2, trivial⟩
        case measure => simp [intOf]; omega
    · obtain rfl : x = 100 := by omega
      go_wp2
      go_ret
      exact ⟨by rw [HA.out]; rfl, rfl⟩
/-- Indices of tensors, none of them twice. -/
def OkSub (n : Nat) (l : List Int) : Prop := (∀ k ∈ l, 0 ≤ k ∧ k < (n : Int)) ∧ l.Nodup
open Classical in
noncomputable def subB (n : Nat) (l : List Int) : Bool := decide (OkSub n l)
open Classical in
theorem subB_true {n : Nat} {l : List Int} (h : OkSub n l) : subB n l = true := decide_eq_true h
open Classical in
theorem subB_false {n : Nat} {l : List Int} (h : ¬ OkSub n l) : subB n l = false := decide_eq_false h
open Classical in
theorem subB_yes {n : Nat} {l : List Int} (h : subB n l = true) : OkSub n l := of_decide_eq_true h
def setL (l : List Int) : Nat := orL (l.map Int.toNat)
theorem setL_snoc (l : List Int) (y : Nat) : setL (l ++ [(y : Int)]) = setL l ||| 2 ^ y := by
  unfold setL orL
  rw [List.map_append, List.foldl_append]
  simp
theorem setL_bit {l : List Int} (h : ∀ k ∈ l, 0 ≤ k) (i : Nat) : (setL l).testBit i = true ↔ (i : Int) ∈ l := by
  unfold setL
  rw [orL_bit, decide_eq_true_eq, List.mem_map]
  constructor
  · rintro ⟨k, hk, rfl⟩
    have := h k hk
    rw [Int.toNat_of_nonneg this]
    exact hk
  · exact fun hi => ⟨_, hi, by simp⟩
theorem setL_lt {l : List Int} {n : Nat} (h : ∀ k ∈ l, 0 ≤ k ∧ k < (n : Int)) (hn : n ≤ 12) : setL l < 4096 := by
  refine Nat.lt_of_lt_of_le (orL_lt (n := 12) fun i hi => ?_) (by decide)
  obtain ⟨k, hk, rfl⟩ := List.mem_map.1 hi
  have := h k hk
  omega
theorem okSub_take {n : Nat} {l : List Int} {j : Nat} {x : Int} (h : OkSub n (l.take j)) (hx : l[j]? = some x) (h0 : 0 ≤ x) (h1 : x < (n : Int)) (h2 : x ∉ l.take j) : OkSub n (l.take (j + 1)) := by
  rw [List.take_add_one, hx]
  refine ⟨fun k hk => ?_, ?_⟩
  · rcases List.mem_append.1 hk with hk | hk
    · exact h.1 k hk
    · simp at hk; subst hk; exact ⟨h0, h1⟩
  · refine List.nodup_append.2 ⟨h.2, by simp, fun a ha b hb => ?_⟩
    simp at hb
    subst hb
    exact fun e => h2 (e ▸ ha)
theorem not_okSub {n : Nat} {l : List Int} {j : Nat} {x : Int} (hx : l[j]? = some x) (h : x < 0 ∨ (n : Int) ≤ x ∨ x ∈ l.take j) : ¬ OkSub n l := by
  rintro ⟨h1, h2⟩
  have h3 := h1 x (List.mem_of_getElem? hx)
  rcases h with h | h | h
  · omega
  · omega
  · rw [← List.take_append_drop j l] at h2
    have h4 := (List.nodup_append.1 h2).2.2 x h x (by
      rw [List.drop_eq_getElem_cons (List.getElem?_eq_some_iff.1 hx).1]
      rw [(List.getElem?_eq_some_iff.1 hx).2]
      exact List.mem_cons_self)
    exact h4 rfl
set_option maxHeartbeats 3200000 in
theorem choose_impl {B g n cap m cl : Nat} {pa al : Option Addr} {l : List Int} {w : World} (hg : w.cell? ⟨g, 3, none⟩ = some (.slice pa n cap)) (hl : Rd B w (.slice al m cl) (ints l)) (hm : l.length = m) (hmm : m ≤ 1048576) (hn : n ≤ 12) :
    Calls Try.prog 66 #[.pointer (some ⟨g, 0, none⟩), .slice al m cl] w fun e w' => e = .returned (.tuple #[.int .u64 ((if subB n l = true then setL l else 0 : Nat) : Int), .bool (subB n l)]) ∧ w = w' := by
  have HL := Lib.hid hl
  have HM := Lib.hid hm
  obtain ⟨yb, hyb⟩ : ∃ b, b = subB n l := ⟨_, rfl⟩
  obtain ⟨ys, hys⟩ : ∃ s : Nat, s = if subB n l = true then setL l else 0 := ⟨_, rfl⟩
  rw [← hyb]
  rw [← hyb] at hys
  rw [← hys]
  have HY := Lib.hid (And.intro hyb hys)
  clear hl hm hyb hys
  go_enter Try.func66, Try.ntmps66
  go_wp2
  go_loopw [6, 11] (fun u i wr => ∃ j a : Nat, j ≤ m ∧ i = .int .i64 j ∧ u = .int .u64 a ∧ Hid (a = setL (l.take j)) ∧ Hid (OkSub n (l.take j)) ∧ wr = w) (fun _ i _ => m - (intOf i).toNat)
  case atStart => exact ⟨0, 0, by omega, rfl, rfl, Lib.hid rfl, Lib.hid ⟨fun k hk => by simp at hk, by simp⟩, rfl⟩
  case round =>
    obtain ⟨j, a, hj, rfl, rfl, HA, HO, rfl⟩ := hrel
    by_cases hlt : j < m
    · obtain ⟨x, X1⟩ : ∃ x, Hid (l[j]? = some x) := ⟨_, List.getElem?_eq_getElem (by rw [HM.out]; exact hlt)⟩
      obtain ⟨b1, o1, rfl, -, e1⟩ := HL.out.cellAt X1.out
      have no : ∀ h : ¬ OkSub n l, yb = false ∧ ys = 0 := fun h => by
        have h1 : yb = false := by rw [HY.out.1, subB_false h]
        exact ⟨h1, by rw [HY.out.2, h1]; rfl⟩
      by_cases hx0 : x < 0
      · obtain ⟨e3, e4⟩ := no (not_okSub X1.out (.inl hx0))
        subst e3 e4
        clear no
        go_wp2
        refine bodyPost_ret (v := .tuple #[.int .u64 0, .bool false]) (by simp [results, Try.results66, go_sem]) rfl ?_
        exact ⟨rfl, rfl⟩
      · obtain ⟨y, hy⟩ : ∃ y : Nat, x = (y : Int) := ⟨x.toNat, by omega⟩
        subst hy
        by_cases hxn : n ≤ y
        · obtain ⟨e3, e4⟩ := no (not_okSub X1.out (.inr (.inl (by omega))))
          subst e3 e4
          have q1 : (n : Int) ≤ (y : Int) := by omega
          clear no
          go_wp2
          refine bodyPost_ret (v := .tuple #[.int .u64 0, .bool false]) (by simp [results, Try.results66, go_sem]) rfl ?_
          exact ⟨rfl, rfl⟩
        · have q1 : ¬ (n : Int) ≤ (y : Int) := by omega
          have ha4 : a < 4096 := by rw [HA.out]; exact setL_lt HO.out.1 hn
          have HH := Lib.hid (has_impl a y wr (by omega) (by omega))
          have hbit : a.testBit y = true ↔ (y : Int) ∈ l.take j := by rw [HA.out]; exact setL_bit (fun k hk => (HO.out.1 k hk).1) y
          cases hb : a.testBit y with
          | true =>
            obtain ⟨e3, e4⟩ := no (not_okSub X1.out (.inr (.inr (hbit.1 hb))))
            subst e3 e4
            rw [hb] at HH
            clear no hb hbit
            go_wp2_with fail
            refine HH.out.mono ?_
            rintro e w2 ⟨rfl, rfl⟩
            clear HH
            go_wp2
            refine bodyPost_ret (v := .tuple #[.int .u64 0, .bool false]) (by simp [results, Try.results66, go_sem]) rfl ?_
            exact ⟨rfl, rfl⟩
          | false =>
            have hnm : (y : Int) ∉ l.take j := fun h => by rw [hbit.2 h] at hb; cases hb
            have HO2 := Lib.hid (okSub_take HO.out X1.out (by omega) (by omega) hnm)
            have HA2 : Hid (a ||| 2 ^ y = setL (l.take (j + 1))) := Lib.hid (by
              rw [List.take_add_one, X1.out]
              show _ = setL (l.take j ++ [(y : Int)])
              rw [setL_snoc, ← HA.out])
            have HP := Lib.hid (or_pow a y (by omega) (by omega))
            rw [hb] at HH
            clear no hb hbit hnm
            go_wp2_with fail
            refine HH.out.mono ?_
            rintro e w2 ⟨rfl, rfl⟩
            clear HH e1
            go_wp2
            go_roundw
            case rel => exact ⟨j + 1, a ||| 2 ^ y, by omega, by go_num, by rw [HP.out], HA2, HO2, trivial⟩
            case measure => simp [intOf]; omega
    · obtain rfl : j = m := by omega
      have e2 : l.take j = l := List.take_of_length_le (by rw [HM.out]; exact Nat.le_refl _)
      rw [e2] at HA HO
      have h1 : yb = true := by rw [HY.out.1, subB_true HO.out]
      have h2 : ys = a := by rw [HY.out.2, h1, HA.out]; rfl
      subst h1 h2
      clear e2
      go_wp2
      refine bodyPost_ret (v := .tuple #[.int .u64 ys, .bool true]) (by simp [results, Try.results66, go_sem]) rfl ?_
      exact ⟨rfl, rfl⟩
end Go.Proofs.Ytdheakjjnaifkaa
