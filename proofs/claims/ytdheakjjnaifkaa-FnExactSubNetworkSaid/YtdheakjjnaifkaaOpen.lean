
/- Plain facts about decimal numerals: how spec.FormatInt's two roads build Lib.itoa. -/
import Derived.Lib.ItoaNum
import Derived.Lib.AtoiAllCases
import Derived.Test.YtdheakjjnaifkaaLawKit
import Derived.Test.YtdheakjjnaifkaaProg
import Derived.ProofKit
import Derived.SizedLaws
import Derived.OpenShut
import Derived.SliceStrings
namespace Go.Proofs.Ytdheakjjnaifkaa
set_option maxRecDepth 20000
open Go

theorem dec_small {u : Nat} (h : u < 10) : Lib.decDigits u = [UInt8.ofNat (48 + u)] := by
  rw [Lib.decDigits, dif_pos h]
theorem dec_big {u : Nat} (h : ¬ u < 10) : Lib.decDigits u = Lib.decDigits (u / 10) ++ [UInt8.ofNat (48 + u % 10)] := by
  rw [Lib.decDigits, dif_neg h]
theorem itoa_pos (m : Nat) : Lib.itoa (m : Int) = Lib.decDigits m := by
  unfold Lib.itoa; rw [if_neg (by omega)]; rfl
theorem itoa_neg_small {n : Int} (h : n < 0) (h2 : -10 < n) : Lib.itoa n = [45, UInt8.ofNat (48 + n.natAbs)] := by
  unfold Lib.itoa; rw [if_pos h, dec_small (by omega)]
theorem itoa_neg_big {n : Int} (h2 : n ≤ -10) : Lib.itoa n = Lib.itoa (n.tdiv 10) ++ [UInt8.ofNat (48 + n.natAbs % 10)] := by
  have e : (n.tdiv 10).natAbs = n.natAbs / 10 := by rw [Int.natAbs_tdiv]; rfl
  have hn : n.tdiv 10 < 0 := by
    have := Int.natAbs_tdiv n 10
    have h3 : n.tdiv 10 = -((-n) / 10) := by
      rw [← Int.neg_neg n, Int.neg_tdiv, Int.neg_neg, Int.tdiv_eq_ediv_of_nonneg (by omega)]
    omega
  unfold Lib.itoa
  rw [if_pos (by omega), if_pos hn, dec_big (by omega), e]
  rfl
theorem dec_len : ∀ u : Nat, 1 ≤ (Lib.decDigits u).length ∧ (Lib.decDigits u).length ≤ 1 + u / 10 := by
  intro u
  induction u using Nat.strongRecOn with
  | _ u ih =>
    by_cases h : u < 10
    · rw [dec_small h]; simp
    · rw [dec_big h]
      have := ih (u / 10) (by omega)
      simp only [List.length_append, List.length_cons, List.length_nil]
      omega
theorem dec_rest {m k : Nat} {acc : List UInt8} (h : Lib.decDigits m = Lib.decDigits k ++ acc) : acc.length ≤ m / 10 := by
  have h1 := dec_len m
  have h2 := dec_len k
  rw [h, List.length_append] at h1
  omega

theorem tdiv10 {n : Int} (h : n < 0) : n.tdiv 10 = -((-n) / 10) := by
  rw [← Int.neg_neg n, Int.neg_tdiv, Int.neg_neg, Int.tdiv_eq_ediv_of_nonneg (by omega)]
theorem tmod10 {n : Int} (h : n < 0) : n.tmod 10 = -((-n) % 10) := by
  rw [← Int.neg_neg n, Int.neg_tmod, Int.neg_neg, Int.tmod_eq_emod_of_nonneg (by omega)]
theorem dig_neg {n : Int} (h : n < 0) : UInt8.ofNat ((48 : Int) - n.tmod 10).toNat = UInt8.ofNat (48 + n.natAbs % 10) := by
  have : ((48 : Int) - n.tmod 10).toNat = 48 + n.natAbs % 10 := by rw [tmod10 h]; omega
  rw [this]
theorem dig_neg_small {n : Int} (h : n < 0) : UInt8.ofNat ((48 : Int) - n).toNat = UInt8.ofNat (48 + n.natAbs) := by
  have : ((48 : Int) - n).toNat = 48 + n.natAbs := by omega
  rw [this]
theorem itoa_len (n : Int) : (Lib.itoa n).length ≤ 2 + n.natAbs / 10 := by
  unfold Lib.itoa
  split
  · have := dec_len n.natAbs
    simp only [List.length_cons]; omega
  · have := dec_len n.toNat
    omega

/-- The text of one byte. -/
def one (v : Int) : ByteArray := ⟨[UInt8.ofNat v.toNat].toArray⟩
theorem one_size (v : Int) : (one v).size = 1 := rfl
theorem one_add (v : Int) (l : List UInt8) : one v ++ ⟨l.toArray⟩ = ⟨(UInt8.ofNat v.toNat :: l).toArray⟩ := by
  unfold one; apply ByteArray.ext; simp
theorem add_one (l : List UInt8) (v : Int) : (⟨l.toArray⟩ : ByteArray) ++ one v = ⟨(l ++ [UInt8.ofNat v.toNat]).toArray⟩ := by
  unfold one; apply ByteArray.ext; simp
theorem dig_of {k : Nat} : UInt8.ofNat ((48 : Int) + (k : Int)).toNat = UInt8.ofNat (48 + k) := by
  have : ((48 : Int) + (k : Int)).toNat = 48 + k := by omega
  rw [this]
theorem dig_mod {k : Nat} : UInt8.ofNat ((48 : Int) + (k : Int) % 10).toNat = UInt8.ofNat (48 + k % 10) := by
  have : ((48 : Int) + (k : Int) % 10).toNat = 48 + k % 10 := by omega
  rw [this]
end Go.Proofs.Ytdheakjjnaifkaa
namespace Go.Proofs.Ytdheakjjnaifkaa
set_option maxRecDepth 20000
open Go

/-- The number that digits spell behind acc. -/
def num (acc : Nat) (l : List UInt8) : Nat := l.foldl (fun a c => a * 10 + (c.toNat - 48)) acc
def digs (l : List UInt8) : Prop := ∀ c ∈ l, 48 ≤ c.toNat ∧ c.toNat ≤ 57

theorem num_ge (l : List UInt8) : ∀ acc, acc ≤ num acc l := by
  induction l with
  | nil => intro acc; exact Nat.le_refl _
  | cons c r ih => intro acc; have := ih (acc * 10 + (c.toNat - 48)); simp only [num, List.foldl_cons] at *; omega
theorem num_app (acc : Nat) (a b : List UInt8) : num acc (a ++ b) = num (num acc a) b := by simp [num]
theorem num_snoc (acc : Nat) (a : List UInt8) (c : UInt8) : num acc (a ++ [c]) = num acc a * 10 + (c.toNat - 48) := by simp [num]
theorem byte_dig {k : Nat} (h : k < 10) : (UInt8.ofNat (48 + k)).toNat = 48 + k := by
  rw [UInt8.toNat_ofNat']; omega
theorem num_dec (m : Nat) : num 0 (Lib.decDigits m) = m := by
  induction m using Nat.strongRecOn with
  | _ m ih =>
    by_cases h : m < 10
    · rw [dec_small h]; simp only [num, List.foldl_cons, List.foldl_nil]; rw [byte_dig h]; omega
    · rw [dec_big h, num_snoc, ih (m / 10) (by omega), byte_dig (by omega)]; omega
theorem digs_dec (m : Nat) : digs (Lib.decDigits m) := by
  induction m using Nat.strongRecOn with
  | _ m ih =>
    by_cases h : m < 10
    · rw [dec_small h]; intro c hc; rw [List.mem_singleton] at hc; subst hc; rw [byte_dig h]; omega
    · rw [dec_big h]
      intro c hc
      rcases List.mem_append.1 hc with hc | hc
      · exact ih (m / 10) (by omega) c hc
      · rw [List.mem_singleton] at hc; subst hc; rw [byte_dig (by omega)]; omega
theorem dec_len_pow : ∀ (k u : Nat), u < 10 ^ (k + 1) → (Lib.decDigits u).length ≤ k + 1
  | 0, u, h => by rw [dec_small (by simpa using h)]; simp
  | k + 1, u, h => by
    by_cases h10 : u < 10
    · rw [dec_small h10]; simp
    · rw [dec_big h10]
      have := dec_len_pow k (u / 10) (by rw [Nat.pow_succ] at h; omega)
      simp only [List.length_append, List.length_cons, List.length_nil]; omega
theorem dec_len19 {m : Nat} (h : m ≤ 9223372036854775808) : (Lib.decDigits m).length ≤ 19 :=
  dec_len_pow 18 m (by have : (10 : Nat) ^ 19 = 10000000000000000000 := by decide
                       omega)

theorem parse_digs : ∀ (l : List UInt8) (acc : Nat), digs l → num acc l ≤ 9223372036854775808 → Lib.parseUint10 acc l = .ok (num acc l)
  | [], acc, _, _ => rfl
  | c :: r, acc, hd, hn => by
    have hc := hd c (by simp)
    have hr : digs r := fun x hx => hd x (by simp [hx])
    have h1 := num_ge r (acc * 10 + (c.toNat - 48))
    have e : num acc (c :: r) = num (acc * 10 + (c.toNat - 48)) r := rfl
    rw [e] at hn ⊢
    rw [Lib.parseUint10, if_pos hc, if_neg (by omega), if_neg (by omega)]
    exact parse_digs r _ hr hn
theorem dec_ne (m : Nat) : Lib.decDigits m ≠ [] := by
  intro h; have := (dec_len m).1; rw [h] at this; simp at this
theorem mag_dec {m : Nat} (h : m ≤ 9223372036854775808) : Lib.parseMag (Lib.decDigits m) = .ok m := by
  unfold Lib.parseMag
  rw [if_neg (dec_ne m), parse_digs _ 0 (digs_dec m) (by rw [num_dec]; exact h), num_dec]
/-- Reading a numeral gives its number back. -/
theorem atoi_itoa {n : Int} (h1 : -9223372036854775808 ≤ n) (h2 : n ≤ 9223372036854775807) : Lib.atoiAll (Lib.itoa n) = .ok n := by
  by_cases h : n < 0
  · have e : Lib.itoa n = 45 :: Lib.decDigits n.natAbs := by unfold Lib.itoa; rw [if_pos h]
    rw [e]
    simp only [Lib.atoiAll]
    rw [if_pos (by decide), mag_dec (by omega)]
    have k : ((45 : UInt8).toNat = 45) = True := by simp
    simp only [k, not_true_eq_false, false_and, if_false, true_and, if_true]
    rw [if_neg (by omega)]
    congr 1; omega
  · obtain ⟨m, rfl⟩ : ∃ m : Nat, n = (m : Int) := ⟨n.toNat, by omega⟩
    rw [itoa_pos]
    have hd := digs_dec m
    cases hx : Lib.decDigits m with
    | nil => exact absurd hx (dec_ne m)
    | cons c r =>
      have hc := hd c (by rw [hx]; simp)
      simp only [Lib.atoiAll]
      rw [if_neg (by omega), ← hx, mag_dec (by omega)]
      have k : (c.toNat = 45) = False := by simp; omega
      simp only [k, not_false_eq_true, true_and, false_and, if_false]
      rw [if_neg (by omega)]

def inI (n : Int) : Prop := -9223372036854775808 ≤ n ∧ n ≤ 9223372036854775807
def allI (zs : List Int) : Prop := ∀ z ∈ zs, inI z
/-- How both ParseInts end: the int whose numeral l is, or none. -/
def ParseEnd (l : List UInt8) (e : Ending) : Prop :=
  (∃ n : Int, inI n ∧ l = Lib.itoa n ∧ e = .returned (.tuple #[.int .i64 n, .bool true])) ∨ ((∀ n : Int, inI n → l ≠ Lib.itoa n) ∧ e = .returned (.tuple #[.int .i64 0, .bool false]))
theorem itoa_inj {a b : Int} (ha : inI a) (hb : inI b) (h : Lib.itoa a = Lib.itoa b) : a = b := by
  have h1 := atoi_itoa ha.1 ha.2
  rw [h, atoi_itoa hb.1 hb.2] at h1
  injection h1 with h1
  exact h1.symm
theorem ParseEnd.unique {l : List UInt8} {e f : Ending} (he : ParseEnd l e) (hf : ParseEnd l f) : e = f := by
  rcases he with ⟨n, hn, h1, rfl⟩ | ⟨hno, rfl⟩ <;> rcases hf with ⟨m, hm, h2, rfl⟩ | ⟨hno2, rfl⟩
  · rw [itoa_inj hn hm (h1.symm.trans h2)]
  · exact absurd h1 (hno2 n hn)
  · exact absurd h2 (hno m hm)
  · rfl

/-! What ends the reference's loop. t: what stands behind the sign. -/
theorem shape_neg {t : List UInt8} {n : Int} (h : 45 :: t = Lib.itoa n) : n < 0 ∧ t = Lib.decDigits n.natAbs := by
  unfold Lib.itoa at h
  split at h
  · next hn => exact ⟨hn, by injection h⟩
  · have := digs_dec n.toNat 45 (by rw [← h]; simp)
    simp at this
theorem shape_pos {t : List UInt8} {n : Int} (h45 : t.head? ≠ some 45) (h : t = Lib.itoa n) : 0 ≤ n ∧ t = Lib.decDigits n.natAbs := by
  unfold Lib.itoa at h
  split at h
  · rw [h] at h45; simp at h45
  · next hn => exact ⟨by omega, by rw [h]; congr 1; omega⟩
/-- l is t behind a minus sign (neg), or t itself, which begins with none. -/
def Signed (neg : Bool) (l t : List UInt8) : Prop := if neg then l = 45 :: t else l = t ∧ t.head? ≠ some 45
theorem Signed.mag {neg : Bool} {l t : List UInt8} (h : Signed neg l t) {n : Int} (hl : l = Lib.itoa n) : t = Lib.decDigits n.natAbs ∧ (neg = true ↔ n < 0) := by
  cases neg with
  | true =>
    have h' : l = 45 :: t := h
    obtain ⟨a, b⟩ := shape_neg (h'.symm.trans hl)
    exact ⟨b, by simp [a]⟩
  | false =>
    obtain ⟨h1, h2⟩ : l = t ∧ t.head? ≠ some 45 := h
    obtain ⟨a, b⟩ := shape_pos h2 (h1.symm.trans hl)
    exact ⟨b, by simp; omega⟩
theorem nat_of_inI {n : Int} (h : inI n) : n.natAbs ≤ 9223372036854775808 := by obtain ⟨a, b⟩ := h; omega
theorem end_len {neg : Bool} {l t : List UInt8} (h : Signed neg l t) (hlen : t.length < 1 ∨ 19 < t.length) : ∀ n, inI n → l ≠ Lib.itoa n := by
  intro n hn hl
  obtain ⟨a, -⟩ := h.mag hl
  have h1 := (dec_len n.natAbs).1
  have h2 := dec_len19 (nat_of_inI hn)
  rw [← a] at h1 h2
  omega
theorem end_digit {neg : Bool} {l t : List UInt8} (h : Signed neg l t) {c : UInt8} (hc : c ∈ t) (hd : c.toNat < 48 ∨ 57 < c.toNat) : ∀ n, inI n → l ≠ Lib.itoa n := by
  intro n hn hl
  obtain ⟨a, -⟩ := h.mag hl
  have := digs_dec n.natAbs c (a ▸ hc)
  omega
theorem end_over {neg : Bool} {l t : List UInt8} (h : Signed neg l t) {k : Nat} (hk : 9223372036854775808 < num 0 (t.take k)) : ∀ n, inI n → l ≠ Lib.itoa n := by
  intro n hn hl
  obtain ⟨a, -⟩ := h.mag hl
  have h1 : num 0 t = n.natAbs := by rw [a, num_dec]
  have h2 := num_ge (t.drop k) (num 0 (t.take k))
  rw [← num_app, List.take_append_drop, h1] at h2
  have := nat_of_inI hn
  omega
theorem end_min {l t : List UInt8} (h : Signed false l t) (hk : num 0 t = 9223372036854775808) : ∀ n, inI n → l ≠ Lib.itoa n := by
  intro n hn hl
  obtain ⟨a, b⟩ := h.mag hl
  have h1 : num 0 t = n.natAbs := by rw [a, num_dec]
  obtain ⟨c, d⟩ := hn
  simp at b
  omega
/-- The number that the loop leaves. -/
def value (neg : Bool) (t : List UInt8) : Int := if neg then -(num 0 t : Int) else num 0 t
theorem end_other {neg : Bool} {l t : List UInt8} (h : Signed neg l t) (hne : Lib.itoa (value neg t) ≠ l) : ∀ n, inI n → l ≠ Lib.itoa n := by
  intro n hn hl
  obtain ⟨a, b⟩ := h.mag hl
  have h1 : num 0 t = n.natAbs := by rw [a, num_dec]
  have e : value neg t = n := by
    unfold value
    cases neg with
    | true => simp at b ⊢; omega
    | false => simp at b ⊢; omega
  exact hne (by rw [e, hl])
end Go.Proofs.Ytdheakjjnaifkaa
namespace Go.Proofs.Ytdheakjjnaifkaa
set_option maxRecDepth 20000
open Go.ChangeShapes Go.WideShapes Go.ChangeAt Go.WideMaps Go.WideElems Go.RowKit

theorem laidOut : laidOutB Try.prog = true := by kernel_rfl
theorem addr_of {w : World} {a : Addr} {v : Value} (h : w.cell? a = some v) : ∃ b off, a = ⟨b, off, none⟩ := by
  have := World.cell?_spot h
  obtain ⟨b, off, sp⟩ := a
  simp only at this
  subst this
  exact ⟨b, off, rfl⟩
theorem open_ints_rd {H : Type} {enc : TypeId × Value → H} {W : World} {base : Nat} {v : Value} {d : DataW H} {ps : List MemPlace} (hok : Value.okWide Try.prog W .any base 25 v) (h : DataW.Trod enc Try.prog W 0 (fun _ => true) true 25 v d ps) (hlt : ∀ x ∈ ps, x.block < W.heap.size) :
    ∃ xs, Rd W.heap.size W v (ints xs) ∧ allI xs ∧ (xs = [] ∨ ∃ spare, d = .slice (lits .i64 xs) spare) := by
  obtain ⟨a0, len, cap, rfl⟩ := okWide_slice Try.underlying25 hok
  obtain ⟨fuel, hf⟩ := h
  rcases open_ints Try.underlying25 Try.underlying3 (by kernel_rfl) hf with ⟨hcs, hx⟩ | ⟨a, len', cap', zs, hcs, _, hl, hm, hz, hx, hcell, hwz⟩
  · simp [Value.cells] at hcs
    obtain ⟨rfl, rfl, rfl⟩ := hcs
    exact ⟨[], .inl ⟨rfl, _, _, rfl⟩, fun z hz => by simp at hz, .inl rfl⟩
  · simp [Value.cells] at hcs
    obtain ⟨rfl, rfl, rfl⟩ := hcs
    simp only [Prod.mk.injEq] at hx
    obtain ⟨rfl, rfl⟩ := hx
    simp only [if_true] at hz
    have hI : allI (zs.take len) := fun z hz' => by
      have e1 : IntKind.i64.min = -9223372036854775808 := rfl
      have e2 : IntKind.i64.max = 9223372036854775807 := rfl
      have := hwz z (List.mem_of_mem_take hz')
      simp [Lit.wf, e1, e2] at this
      exact this
    refine ⟨zs.take len, ?_, hI, .inr ⟨_, rfl⟩⟩
    have hlen : (zs.take len).length = len := by rw [List.length_take]; omega
    by_cases h0 : len = 0
    · subst h0; exact .inl ⟨by simp [ints], _, _, rfl⟩
    · obtain ⟨b, off, rfl⟩ : ∃ b off, a = ⟨b, off, none⟩ := by
        have := hcell 0 (by omega)
        have e : a.add 0 = a := by unfold Addr.add; split <;> simp_all
        rw [e] at this
        exact addr_of this
      refine .inr ⟨b, off, cap, by rw [ints_len, hlen], hlt (.cell b off) (MemPlace.mem_row.2 ⟨0, by omega, by simp⟩), by rw [ints_len, hlen]; exact hl, fun i u hi => ?_⟩
      have hi' : i < len := by
        have := (List.getElem?_eq_some_iff.1 hi).1
        rw [ints_len, hlen] at this; exact this
      have hc := hcell i (by omega)
      have e : (⟨b, off, none⟩ : Addr).add i = ⟨b, off + i, none⟩ := by unfold Addr.add; split <;> simp_all
      rw [e] at hc
      rw [hc, ← hi]
      simp [ints, hi', List.getD, List.getElem?_eq_getElem (show i < zs.length by omega)]
theorem ints_bound {H : Type} {ts : List TypeId} {ds : List (DataW H)} {j : Nat} {d : DataW H} {xs : List Int} (h : (DataW.weightsEach Try.prog ts ds).all (· ≤ reachBytes) = true) (ht : ts[j]? = some 25) (hd : ds[j]? = some d) (hx : xs = [] ∨ ∃ spare, d = .slice (lits .i64 xs) spare) : xs.length ≤ 17592186044416 := by
  rcases hx with rfl | ⟨spare, rfl⟩
  · simp
  · have k1 := sized_slice h ht hd Try.underlying25
    have k2 := reachBytes_lt
    have k3 : Try.prog.bytesOf 3 = 8 := by kernel_rfl
    have k5 : (2 : Nat) ^ 47 = 140737488355328 := by decide
    have k6 : (lits (H := H) .i64 xs).length = xs.length := by simp [lits]
    rw [k3, k6] at k1
    omega
end Go.Proofs.Ytdheakjjnaifkaa
