
/- The parts of a network, as mathematics. -/
import Derived.Test.YtdheakjjnaifkaaGraph
import Derived.Test.YtdheakjjnaifkaaRs
import Derived.Test.YtdheakjjnaifkaaPermSpec
import Derived.Test.YtdheakjjnaifkaaAxes
import Derived.Deep.Onto
namespace Go.Proofs.Ytdheakjjnaifkaa
set_option maxRecDepth 20000
open Go.RowKit

/-- Sets that no common label leaves. -/
def ClosedT (ts : List TenE) (S : Nat → Prop) : Prop := ∀ a b, MeetT ts a b → (S a ↔ S b)
/-- No such set parts two tensors: they are connected. -/
def CompT (ts : List TenE) (a b : Nat) : Prop := ∀ S : Nat → Prop, ClosedT ts S → (S a ↔ S b)
theorem CompT.refl (ts : List TenE) (a : Nat) : CompT ts a a := fun _ _ => Iff.rfl
theorem CompT.symm {ts : List TenE} {a b : Nat} (h : CompT ts a b) : CompT ts b a := fun S hS => (h S hS).symm
theorem CompT.trans {ts : List TenE} {a b c : Nat} (h : CompT ts a b) (h2 : CompT ts b c) : CompT ts a c := fun S hS => (h S hS).trans (h2 S hS)
theorem MeetT.comp {ts : List TenE} {a b : Nat} (h : MeetT ts a b) : CompT ts a b := fun _ hS => hS a b h
theorem MeetT.lt {ts : List TenE} {a b : Nat} (h : MeetT ts a b) : a < ts.length ∧ b < ts.length := by
  obtain ⟨x, t, u, h1, h2, -⟩ := h
  exact ⟨(List.getElem?_eq_some_iff.1 h1).1, (List.getElem?_eq_some_iff.1 h2).1⟩
/-- The first tensor of its part. -/
def HeadT (ts : List TenE) (r : Nat) : Prop := ∀ b, b < r → ¬ CompT ts b r
open Classical in
noncomputable def partL (ts : List TenE) (r : Nat) : List Int := ((List.range ts.length).filter fun a => decide (CompT ts r a)).map fun i : Nat => (i : Int)
open Classical in
noncomputable def headsTo (ts : List TenE) (n : Nat) : List Nat := (List.range n).filter fun r => decide (HeadT ts r)
/-- The parts, in the order of their first tensors. -/
noncomputable def partsL (ts : List TenE) : List (List Int) := (headsTo ts ts.length).map (partL ts)
open Classical in
theorem headsTo_yes {ts : List TenE} {n : Nat} (h : HeadT ts n) : headsTo ts n ++ [n] = headsTo ts (n + 1) := by
  unfold headsTo
  rw [List.range_succ, List.filter_append]
  simp [h]
open Classical in
theorem headsTo_no {ts : List TenE} {n : Nat} (h : ¬ HeadT ts n) : headsTo ts n = headsTo ts (n + 1) := by
  unfold headsTo
  rw [List.range_succ, List.filter_append]
  simp [h]
open Classical in
theorem headsTo_len (ts : List TenE) (n : Nat) : (headsTo ts n).length ≤ n := Nat.le_trans (List.length_filter_le _ _) (by simp)
theorem partsL_len (ts : List TenE) : (partsL ts).length ≤ ts.length := by
  unfold partsL
  rw [List.length_map]
  exact headsTo_len ts _
open Classical in
theorem partL_len (ts : List TenE) (r : Nat) : (partL ts r).length ≤ ts.length := by
  unfold partL
  rw [List.length_map]
  exact Nat.le_trans (List.length_filter_le _ _) (by simp)
/-- While the pairs are told: f is the name of the part so far. -/
structure PInv (ts : List TenE) (i k : Nat) (f : Nat → Nat) : Prop where
  le : ∀ a, a < ts.length → f a ≤ a
  idem : ∀ a, a < ts.length → f (f a) = f a
  cl : ∀ a b, a < ts.length → b < ts.length → f a = f b → CompT ts a b
  pr : ∀ a b, MeetT ts a b → b < a → (a < i ∨ (a = i ∧ b < k)) → f a = f b
theorem PInv.start (ts : List TenE) : PInv ts 0 0 (fun a => a) :=
  ⟨fun a _ => Nat.le_refl _, fun a _ => rfl, fun a b _ _ h => h ▸ CompT.refl ts a, fun a b _ _ h => by omega⟩
theorem PInv.skip {ts : List TenE} {i k : Nat} {f : Nat → Nat} (h : PInv ts i k f) (hm : ¬ MeetT ts i k) : PInv ts i (k + 1) f :=
  ⟨h.le, h.idem, h.cl, fun a b hab hlt hh => by
    by_cases e : a = i ∧ b = k
    · obtain ⟨rfl, rfl⟩ := e
      exact absurd hab hm
    · exact h.pr a b hab hlt (by omega)⟩
theorem PInv.next {ts : List TenE} {i : Nat} {f : Nat → Nat} (h : PInv ts i i f) : PInv ts (i + 1) 0 f :=
  ⟨h.le, h.idem, h.cl, fun a b hab hlt hh => h.pr a b hab hlt (by omega)⟩
def mergeF (f : Nat → Nat) (s t : Nat) (a : Nat) : Nat := if f a = s then t else f a
theorem PInv.merge {ts : List TenE} {i k : Nat} {f : Nat → Nat} (h : PInv ts i k f) (hm : MeetT ts i k) : PInv ts i (k + 1) (mergeF f (max (f i) (f k)) (min (f i) (f k))) := by
  obtain ⟨hi, hk⟩ := hm.lt
  obtain ⟨s, hs⟩ : ∃ s, s = max (f i) (f k) := ⟨_, rfl⟩
  obtain ⟨t, ht⟩ : ∃ s, s = min (f i) (f k) := ⟨_, rfl⟩
  rw [← hs, ← ht]
  have hts : t ≤ s := by omega
  have hst : (s = f i ∧ t = f k) ∨ (s = f k ∧ t = f i) := by omega
  have hft : f t = t := by
    rcases hst with ⟨-, e⟩ | ⟨-, e⟩
    · rw [e]; exact h.idem k hk
    · rw [e]; exact h.idem i hi
  have near : ∀ a, a < ts.length → (f a = s ∨ f a = t) → CompT ts a i := fun a ha he => by
    have hik : CompT ts k i := (MeetT.comp hm).symm
    have e : f a = f i ∨ f a = f k := by omega
    rcases e with e | e
    · exact h.cl a i ha hi e
    · exact (h.cl a k ha hk e).trans hik
  refine ⟨fun a ha => ?_, fun a ha => ?_, fun a b ha hb he => ?_, fun a b hab hlt hh => ?_⟩
  · have := h.le a ha
    unfold mergeF
    split <;> omega
  · unfold mergeF
    by_cases e : f a = s
    · rw [if_pos e, hft]; split <;> rfl
    · rw [if_neg e, h.idem a ha, if_neg e]
  · unfold mergeF at he
    by_cases e1 : f a = s
    · rw [if_pos e1] at he
      by_cases e2 : f b = s
      · exact h.cl a b ha hb (by omega)
      · rw [if_neg e2] at he
        exact (near a ha (.inl e1)).trans (near b hb (.inr he.symm)).symm
    · rw [if_neg e1] at he
      by_cases e2 : f b = s
      · rw [if_pos e2] at he
        exact (near a ha (.inr he)).trans (near b hb (.inl e2)).symm
      · rw [if_neg e2] at he
        exact h.cl a b ha hb he
  · unfold mergeF
    by_cases e : a = i ∧ b = k
    · obtain ⟨rfl, rfl⟩ := e
      rcases hst with ⟨e1, e2⟩ | ⟨e1, e2⟩
      · rw [if_pos e1.symm]
        by_cases e3 : f b = s
        · rw [if_pos e3]
        · rw [if_neg e3]; exact e2
      · rw [if_pos e1.symm]
        by_cases e3 : f a = s
        · rw [if_pos e3]
        · rw [if_neg e3]; exact e2.symm
    · have e4 := h.pr a b hab hlt (by omega)
      rw [e4]
theorem PInv.comp {ts : List TenE} {f : Nat → Nat} (h : PInv ts ts.length 0 f) {a b : Nat} (ha : a < ts.length) (hb : b < ts.length) : f a = f b ↔ CompT ts a b := by
  refine ⟨h.cl a b ha hb, fun hc => ?_⟩
  have h1 := (hc (fun x => x < ts.length ∧ f x = f a) (fun x y hxy => by
    have hl := hxy.lt
    have hf : f x = f y := by
      rcases Nat.lt_trichotomy x y with h1 | h1 | h1
      · exact (h.pr y x hxy.symm h1 (.inl hl.2)).symm
      · rw [h1]
      · exact h.pr x y hxy h1 (.inl hl.1)
    exact ⟨fun q => ⟨hl.2, by rw [← hf]; exact q.2⟩, fun q => ⟨hl.1, by rw [hf]; exact q.2⟩⟩)).1 ⟨ha, rfl⟩
  exact h1.2.symm
theorem PInv.head {ts : List TenE} {f : Nat → Nat} (h : PInv ts ts.length 0 f) {r : Nat} (hr : r < ts.length) : f r = r ↔ HeadT ts r := by
  constructor
  · intro e b hb hc
    have h1 := (h.comp (by omega) hr).2 hc
    have h2 := h.le b (by omega)
    omega
  · intro hh
    have h1 := h.le r hr
    by_cases e : f r = r
    · exact e
    · exact absurd ((h.comp (a := f r) (b := r) (by omega) hr).1 (h.idem r hr)) (hh (f r) (by omega))
theorem PInv.mem {ts : List TenE} {f : Nat → Nat} (h : PInv ts ts.length 0 f) {r a : Nat} (hr : r < ts.length) (hh : HeadT ts r) (ha : a < ts.length) : f a = r ↔ CompT ts r a := by
  have h1 := (h.head hr).2 hh
  rw [← h.comp hr ha, h1]
  exact ⟨fun e => e.symm, fun e => e.symm⟩
theorem PInv.none {ts : List TenE} {f : Nat → Nat} (h : PInv ts ts.length 0 f) {r a : Nat} (hr : r < ts.length) (hh : ¬ HeadT ts r) (ha : a < ts.length) : f a ≠ r := fun e => by
  have h1 := h.idem a ha
  rw [e] at h1
  exact hh ((h.head hr).1 h1)
/-- The set that is reached: a step that adds nothing ends it. -/
def ReachT (ts : List TenE) (r s : Nat) : Prop := s.testBit r = true ∧ ∀ a, s.testBit a = true → a < ts.length ∧ CompT ts r a
theorem reach_start {ts : List TenE} {r : Nat} (hr : r < ts.length) : ReachT ts r (2 ^ r) :=
  ⟨(pow_bit r r).2 rfl, fun a ha => by
    have e := (pow_bit r a).1 ha
    subst e
    exact ⟨hr, CompT.refl ts r⟩⟩
theorem reach_step {ts : List TenE} (hax : AxT ts) {r s : Nat} (h : ReachT ts r s) : ReachT ts r (arS ts s) :=
  ⟨(arS_bit hax s r).2 (.inl h.1), fun a ha => by
    rcases (arS_bit hax s a).1 ha with h1 | ⟨j, h1, h2⟩
    · exact h.2 a h1
    · exact ⟨h2.lt.1, (h.2 j h1).2.trans h2.symm.comp⟩⟩
theorem reach_end {ts : List TenE} (hax : AxT ts) {r s : Nat} (h : ReachT ts r s) (he : arS ts s = s) (a : Nat) : s.testBit a = true ↔ a < ts.length ∧ CompT ts r a := by
  refine ⟨h.2 a, fun ⟨_, hc⟩ => ?_⟩
  refine (hc (fun x => s.testBit x = true) fun x y hxy => ?_).1 h.1
  constructor
  · intro hx
    have := (arS_bit hax s y).2 (.inr ⟨x, hx, hxy.symm⟩)
    rw [he] at this; exact this
  · intro hy
    have := (arS_bit hax s x).2 (.inr ⟨y, hy, hxy⟩)
    rw [he] at this; exact this
open Classical in
theorem reach_bits {ts : List TenE} (hn : ts.length ≤ 12) {r s : Nat} (h : ∀ a, s.testBit a = true ↔ a < ts.length ∧ CompT ts r a) : bitsTo s 12 = partL ts r := by
  unfold bitsTo partL
  congr 1
  refine filter_range hn (fun i hi => ?_) (fun i hi hN => ?_)
  · rw [Bool.eq_iff_iff, h i, decide_eq_true_eq]
    exact ⟨fun q => q.2, fun q => ⟨hi, q⟩⟩
  · cases hb : s.testBit i with
    | false => rfl
    | true => have := (h i).1 hb; omega
/-- A number of the bits of a set grows with the set. -/
def bitN (s : Nat) : Nat := ((List.range 12).filter fun i => s.testBit i).length
theorem bitN_le (s : Nat) : bitN s ≤ 12 := Nat.le_trans (List.length_filter_le _ _) (by simp)
theorem filter_len_lt {l : List Nat} {P Q : Nat → Bool} (h : ∀ i ∈ l, P i = true → Q i = true) {j : Nat} (hj : j ∈ l) (h1 : P j = false) (h2 : Q j = true) : (l.filter P).length < (l.filter Q).length := by
  induction l with
  | nil => cases hj
  | cons a r ih =>
    have hle : (r.filter P).length ≤ (r.filter Q).length := by
      have : ∀ l : List Nat, (∀ i ∈ l, P i = true → Q i = true) → (l.filter P).length ≤ (l.filter Q).length := by
        intro l
        induction l with
        | nil => intro _; exact Nat.le_refl _
        | cons b l ih2 =>
          intro hb
          have := ih2 fun i hi => hb i (List.mem_cons_of_mem _ hi)
          have hbb := hb b List.mem_cons_self
          cases hp : P b <;> cases hq : Q b <;> simp_all <;> omega
      exact this r fun i hi => h i (List.mem_cons_of_mem _ hi)
    rcases List.mem_cons.1 hj with e | hj'
    · subst e
      rw [List.filter_cons_of_neg (by rw [h1]; simp), List.filter_cons_of_pos h2]
      simp only [List.length_cons]
      omega
    · have h3 := ih (fun i hi => h i (List.mem_cons_of_mem _ hi)) hj'
      have ha := h a List.mem_cons_self
      cases hp : P a <;> cases hq : Q a <;> simp_all <;> omega
theorem bitN_lt {ts : List TenE} (hax : AxT ts) (hn : ts.length ≤ 12) {s : Nat} (hs : s < 4096) (h : arS ts s ≠ s) : bitN s < bitN (arS ts s) := by
  have sub : ∀ i, s.testBit i = true → (arS ts s).testBit i = true := fun i hi => (arS_bit hax s i).2 (.inl hi)
  obtain ⟨j, h1, h2⟩ : ∃ j, s.testBit j = false ∧ (arS ts s).testBit j = true := by
    refine Classical.byContradiction fun hno => h ?_
    refine bit_eq fun i => ⟨fun hi => ?_, sub i⟩
    cases hb : s.testBit i with
    | true => rfl
    | false => exact absurd ⟨i, hb, hi⟩ hno
  have hj : j < 12 := by
    refine Classical.byContradiction fun hge => ?_
    have h3 := arTo_lt hn hs 100
    have h4 : (arS ts s).testBit j = false := Nat.testBit_lt_two_pow (Nat.lt_of_lt_of_le (show arS ts s < 2 ^ 12 from h3) (Nat.pow_le_pow_right (by omega) (by omega)))
    rw [h4] at h2; cases h2
  exact filter_len_lt (fun i _ => sub i) (List.mem_range.2 hj) h1 h2
/-- What has been seen. -/
def SeenT (ts : List TenE) (k s : Nat) : Prop := ∀ a, s.testBit a = true ↔ a < ts.length ∧ ∃ b, b < k ∧ CompT ts b a
theorem seen_head {ts : List TenE} {k s : Nat} (h : SeenT ts k s) (hk : k < ts.length) : s.testBit k = false ↔ HeadT ts k := by
  constructor
  · intro hb b hlt hc
    have := (h k).2 ⟨hk, b, hlt, hc⟩
    rw [hb] at this; cases this
  · intro hh
    cases hb : s.testBit k with
    | false => rfl
    | true =>
      obtain ⟨-, b, h1, h2⟩ := (h k).1 hb
      exact absurd h2 (hh b h1)
theorem seen_yes {ts : List TenE} {k s p : Nat} (h : SeenT ts k s) (hp : ∀ a, p.testBit a = true ↔ a < ts.length ∧ CompT ts k a) : SeenT ts (k + 1) (s ||| p) := fun a => by
  rw [or_bit, h a, hp a]
  constructor
  · rintro (⟨h1, b, h2, h3⟩ | ⟨h1, h2⟩)
    · exact ⟨h1, b, by omega, h3⟩
    · exact ⟨h1, k, by omega, h2⟩
  · rintro ⟨h1, b, h2, h3⟩
    by_cases e : b = k
    · subst e; exact .inr ⟨h1, h3⟩
    · exact .inl ⟨h1, b, by omega, h3⟩
theorem seen_no {ts : List TenE} {k s : Nat} (h : SeenT ts k s) (hk : k < ts.length) (hb : s.testBit k = true) : SeenT ts (k + 1) s := fun a => by
  rw [h a]
  obtain ⟨-, c, h4, h5⟩ := (h k).1 hb
  constructor
  · rintro ⟨h1, b, h2, h3⟩
    exact ⟨h1, b, by omega, h3⟩
  · rintro ⟨h1, b, h2, h3⟩
    by_cases e : b = k
    · subst e; exact ⟨h1, c, h4, h5.trans h3⟩
    · exact ⟨h1, b, by omega, h3⟩
end Go.Proofs.Ytdheakjjnaifkaa
namespace Go.Proofs.Ytdheakjjnaifkaa
set_option maxRecDepth 20000
open Go.RowKit

structure RsE (E : TypeId) (w0 wr : World) (rows : List RowE) (v : Value) (us : List Value) : Prop where
  rs : Rs w0 wr [] rows
  own : wr.ownsRow w0.heap.size E 1 v us.length us
  farR : ∀ r ∈ rows, ∀ g, v.ownBlock = some g → r.1.ownBlock ≠ some g
section
variable {E : TypeId} {w0 wr w' : World} {rows rows' : List RowE} {v : Value} {us : List Value}
theorem RsE.move (h : RsE E w0 wr rows v us) {x : Option Nat} (hr : Rs w0 w' [] rows') (hg : wr.grownBy w' x) (hx : x = none ∨ v.ownBlock ≠ x) (hR : ∀ r ∈ rows', ∀ g, r.1.ownBlock = some g → (∃ s ∈ rows, s.1.ownBlock = some g) ∨ wr.heap.size ≤ g) : RsE E w0 w' rows' v us := by
  refine ⟨hr, h.own.kept hg ?_, fun r hm g hgv e => ?_⟩
  · cases hv : v.ownBlock with
    | none => exact .inl rfl
    | some k =>
      rcases hx with rfl | hx
      · exact .inr (by simp)
      · exact .inr fun e => hx (by rw [hv, e])
  · rcases hR r hm g e with ⟨s, hs, e2⟩ | h2
    · exact h.farR s hs g hgv e2
    · have := (h.own.lt _ hgv).2; omega
theorem sameR0 (r : RowE) (hr : r ∈ rows) (g : Nat) (hg : r.1.ownBlock = some g) : (∃ s ∈ rows, s.1.ownBlock = some g) ∨ wr.heap.size ≤ g := .inl ⟨r, hr, hg⟩
theorem RsE.newer (h : RsE E w0 wr rows v us) (hb : Below wr.heap.size wr w') (hr : Rs w0 w' [] rows') (hR : ∀ r ∈ rows', ∀ g, r.1.ownBlock = some g → (∃ s ∈ rows, s.1.ownBlock = some g) ∨ wr.heap.size ≤ g) : RsE E w0 w' rows' v us := h.move (x := none) hr ⟨hb.os, hb.tape, hb.output, hb.size, fun k hk _ => hb.block k hk⟩ (.inl rfl) hR
theorem RsE.step (h : RsE E w0 wr rows v us) (hb : Below wr.heap.size wr w') : RsE E w0 w' rows v us := h.newer hb (h.rs.step hb) sameR0
theorem RsE.drew (h : RsE E w0 wr rows v us) : RsE E w0 wr.drew rows v us := h.step (Below.drew (Below.refl _ _))
theorem RsE.alloc (h : RsE E w0 wr rows v us) (o : Obj) : RsE E w0 (wr.alloc o) rows v us := h.step ((Below.refl _ _).alloc (Nat.le_refl _) o)
theorem RsE.perm (h : RsE E w0 wr rows v us) (hp : rows.Perm rows') : RsE E w0 wr rows' v us := ⟨h.rs.perm hp, h.own, fun r hr => h.farR r (hp.symm.subset hr)⟩
theorem RsE.swap {a b : RowE} (h : RsE E w0 wr (a :: b :: rows) v us) : RsE E w0 wr (b :: a :: rows) v us := h.perm (List.Perm.swap _ _ _)
theorem RsE.sub (h : RsE E w0 wr rows v us) (hs : rows'.Sublist rows) : RsE E w0 wr rows' v us := ⟨h.rs.sub hs, h.own, fun r hr => h.farR r (hs.subset hr)⟩
theorem RsE.new (h : RsE E w0 wr rows v us) {u : Value} {xs : List Int} (hb : Below wr.heap.size wr w') (ho : Own w' wr.heap.size w'.heap.size u xs) : RsE E w0 w' ((u, xs) :: rows) v us := by
  refine h.newer hb (h.rs.new hb ho) (fun r hr g hg => ?_)
  rcases List.mem_cons.1 hr with rfl | hr
  · exact .inr (ho.lo g hg)
  · exact sameR0 r hr g hg
/-- An empty row of integers. -/
theorem RsE.lit (h : RsE E w0 wr rows v us) : RsE E w0 (wr.alloc (.cells #[] 3)) ((.slice (some ⟨wr.heap.size, 0, none⟩) 0 0, []) :: rows) v us := by
  refine h.newer ((Below.refl _ _).alloc (Nat.le_refl _) _) h.rs.lit (fun r hr g hg => ?_)
  rcases List.mem_cons.1 hr with rfl | hr
  · simp only [Value.ownBlock, Option.some.injEq] at hg
    exact .inr (by omega)
  · exact sameR0 r hr g hg
/-- The first row of integers has grown. -/
theorem RsE.appR {u : Value} {xs news : List Int} {g n cap : Nat} (h : RsE E w0 wr ((u, xs) :: rows) v us) (ho : w'.ownsRow w0.heap.size 3 1 (.slice (some ⟨g, 0, none⟩) n cap) n (ints (xs ++ news))) (hn : (xs ++ news).length = n) (hg : wr.grownBy w' u.ownBlock) (hl : u.ownBlock = some g ∨ g = wr.heap.size) : RsE E w0 w' ((.slice (some ⟨g, 0, none⟩) n cap, xs ++ news) :: rows) v us := by
  refine h.move (h.rs.app ho hn hg hl) hg ?_ (fun r hr g' hg' => ?_)
  · cases hu : u.ownBlock with
    | none => exact .inl rfl
    | some k => exact .inr fun e => h.farR _ List.mem_cons_self k e hu
  · rcases List.mem_cons.1 hr with rfl | hr
    · have e : g' = g := by simpa [Value.ownBlock] using hg'.symm
      subst e
      rcases hl with hl | hl
      · exact .inl ⟨_, List.mem_cons_self, hl⟩
      · exact .inr (by omega)
    · exact sameR0 r (List.mem_cons_of_mem _ hr) g' hg'
theorem RsE.start (h : Rs w0 wr [] rows) : RsE E w0 wr rows (.slice none 0 0) [] := ⟨h, World.ownsRow_nil _ _ _ _, fun r hr g hg => by simp [Value.ownBlock] at hg⟩
theorem RsE.litE (h : Rs w0 wr [] rows) : RsE E w0 (wr.alloc (.cells #[] E)) rows (.slice (some ⟨wr.heap.size, 0, none⟩) 0 0) [] := by
  refine ⟨h.alloc _, World.ownsRow_lit (base := w0.heap.size) (e := E) (size := 1) wr #[] 0 h.bel.size (by unfold maxLen; omega) rfl, fun r hr g hg e => ?_⟩
  simp only [Value.ownBlock, Option.some.injEq] at hg
  subst hg
  have := ((h.own r hr).lt _ e).2; omega
/-- A cell more. -/
theorem RsE.app {u : Value} {g n cap : Nat} (h : RsE E w0 wr rows v us) (hn : us.length = n) (ho : w'.ownsRow w0.heap.size E 1 (.slice (some ⟨g, 0, none⟩) (n + 1) cap) (n + 1) (us ++ [u])) (hg : wr.grownBy w' v.ownBlock) (hl : v.ownBlock = some g ∨ g = wr.heap.size) : RsE E w0 w' rows (.slice (some ⟨g, 0, none⟩) (n + 1) cap) (us ++ [u]) := by
  have keep : ∀ k, v.ownBlock = some k → w0.heap.size ≤ k := fun k hk => (h.own.lt k hk).1
  have hlt : ∀ k, (k = g) → ∀ r ∈ rows, r.1.ownBlock ≠ some k := by
    rintro k rfl
    rcases hl with hl | hl
    · exact fun r hr e => h.farR r hr _ hl e
    · exact fun r hr e => by have := ((h.rs.own r hr).lt _ e).2; omega
  refine ⟨⟨?_, fun r hr => (h.rs.own r hr).kept hg ?_, h.rs.apart, fun b hb => (by cases hb), fun b hb => (by cases hb), List.Pairwise.nil⟩, ?_, fun r hr k hk e => ?_⟩
  · exact h.rs.bel.grown hg h.rs.bel.size keep
  · cases hv : r.1.ownBlock with
    | none => exact .inl rfl
    | some k => exact .inr fun e => h.farR r hr k e.symm hv
  · rw [List.length_append, hn]; exact ho
  · simp only [Value.ownBlock, Option.some.injEq] at hk; subst hk; exact hlt g rfl r hr e
theorem RsE.row {n : Nat} (h : RsE E w0 wr rows v us) (hn : us.length = n) : wr.ownsRow w0.heap.size E 1 v n us := hn ▸ h.own
end
/-- A row of rows of the call's own. -/
def OwnSS (w : World) (lo hi : Nat) (v : Value) (us : List RowE) : Prop := w.ownsRow lo 25 1 v us.length (us.map (·.1)) ∧ OwnG w lo hi us ∧ (∀ g, v.ownBlock = some g → g < hi ∧ ∀ r ∈ us, r.1.ownBlock ≠ some g) ∧ hi ≤ w.heap.size
/-- What a function answers that makes rows. -/
def NewSS (w : World) (xss : List (List Int)) (e : Ending) (w' : World) : Prop := ∃ v us, e = .returned v ∧ us.map (·.2) = xss ∧ OwnSS w' w.heap.size w'.heap.size v us ∧ Below w.heap.size w w'
theorem RsE.ss {w0 wr : World} {us : List RowE} {v : Value} (h : RsE 25 w0 wr us v (us.map (·.1))) : OwnSS wr w0.heap.size wr.heap.size v us := by
  refine ⟨?_, h.rs.ownG, fun g hg => ⟨(h.own.lt g hg).2, fun r hr => h.farR r hr g hg⟩, Nat.le_refl _⟩
  have := h.own
  rw [List.length_map] at this
  exact this
theorem OwnSS.wide {w : World} {lo lo' hi : Nat} {v : Value} {us : List RowE} (h : OwnSS w lo hi v us) (h1 : lo' ≤ lo) : OwnSS w lo' hi v us :=
  ⟨World.ownsRow.mono h.1 h1, h.2.1.wide h1 (Nat.le_refl _) h.2.2.2, h.2.2.1, h.2.2.2⟩
end Go.Proofs.Ytdheakjjnaifkaa
namespace Go.Proofs.Ytdheakjjnaifkaa
set_option maxRecDepth 20000
open Go.RowKit

theorem infoSet : (Try.prog.info? 85).map (fun i => (i.zero, i.size, i.bytes)) = some (some (.int .u64 0), 1, 8) := by kernel_rfl
def bitsV (s : Nat) : Value := .int .u64 (s : Int)
theorem pow_wrap (j : Nat) (hj : j < 12) : IntKind.u64.wrap ((2 : Int) ^ j) = ((2 ^ j : Nat) : Int) := by
  have h1 : (2 : Nat) ^ j < 4096 := Nat.lt_of_lt_of_le (Nat.pow_lt_pow_right (by omega) hj) (by decide)
  have h2 : ((2 : Int) ^ j) = ((2 ^ j : Nat) : Int) := by simp
  rw [h2]
  generalize (2 : Nat) ^ j = m at h1
  simp only [IntKind.wrap, IntKind.bits, IntKind.signed, Bool.false_and]
  rw [if_neg (by simp)]
  omega
theorem pow_lt {j : Nat} (hj : j < 12) : 2 ^ j < 4096 := Nat.lt_of_lt_of_le (Nat.pow_lt_pow_right (by omega) hj) (by decide)
/-- What parts answers. -/
def PartsP (w : World) (ts : List TenE) (e : Ending) (w' : World) : Prop := ∃ (v : Value) (sets : List Nat), e = .returned v ∧ w'.ownsRow w.heap.size 85 1 v sets.length (sets.map bitsV) ∧ sets.map (fun s => bitsTo s 12) = partsL ts ∧ (∀ s ∈ sets, s < 4096) ∧ Below w.heap.size w w'
set_option maxHeartbeats 6400000 in
theorem parts_impl {g n cap : Nat} {pa : Option Addr} {ts : List TenE} {w : World} (h : RdTs w.heap.size w (.slice pa n cap) ts) (hg : w.cell? ⟨g, 3, none⟩ = some (.slice pa n cap)) (hn : ts.length = n) (hn2 : n ≤ 12) (hax : AxT ts) :
    Calls Try.prog 70 #[.pointer (some ⟨g, 0, none⟩)] w (PartsP w ts) := by
  obtain ⟨i0, hi0, hz0, hz1, hz2⟩ := info_parts infoSet
  have J0 := Lib.hid hi0
  have J1 := Lib.hid hz0
  have J2 := Lib.hid hz1
  have J3 := Lib.hid hz2
  have HN := Lib.hid hn
  have HAX := Lib.hid hax
  have HG := Lib.hid (graph_impl h hg hn hn2 hax)
  have hgl : g < w.heap.size := World.block_lt_of_cell? _ _ hg
  have HC3 : Hid (∀ W, Below w.heap.size w W → W.cell? ⟨g, 3, none⟩ = some (.slice pa n cap)) := Lib.hid (fun W hW => (hW.cell (p := ⟨g, 3, none⟩) hgl).trans hg)
  have h12 : ts.length ≤ 12 := by omega
  have H12 := Lib.hid h12
  clear h hn hax hi0 hz0 hz1 hz2 hg hgl h12
  go_enter Try.func70, Try.ntmps70
  go_wp2_with fail
  refine HG.out.mono ?_
  rintro e w1 ⟨r, rfl, hgr⟩
  have GR := Lib.hid hgr
  have c3 := HC3.out _ hgr.bel
  have RE : Hid (RsE 85 w1 w1 [] (.slice none 0 0) (([] : List Nat).map bitsV)) := Lib.hid (RsE.start (Rs.start w1))
  clear HG hgr
  go_wp2
  go_loopw [4, 5, 17] (fun u s' i wr => ∃ (j s z : Nat) (sets : List Nat) (ga : Option Addr) (ca : Nat), j ≤ n ∧ z ≤ j ∧ i = .int .i64 j ∧ s' = .int .u64 s ∧ u = .slice ga z ca ∧ Hid (sets.length = z) ∧ Hid (SeenT ts j s ∧ s < 4096) ∧ Hid (sets.map (fun s => bitsTo s 12) = (headsTo ts j).map (partL ts)) ∧ Hid (∀ s ∈ sets, s < 4096) ∧ Hid (RsE 85 w1 wr [] (.slice ga z ca) (sets.map bitsV))) (fun _ _ i _ => n - (intOf i).toNat)
  case atStart => exact ⟨0, 0, 0, [], none, 0, by omega, by omega, rfl, rfl, rfl, Lib.hid rfl, Lib.hid ⟨fun a => ⟨fun h => by simp at h, fun h => by obtain ⟨-, b, hb, -⟩ := h; omega⟩, by decide⟩, Lib.hid rfl, Lib.hid (fun s hs => by cases hs), RE⟩
  case round =>
    clear RE c3
    obtain ⟨j, s, z, sets, ga, ca, hj, hzj, rfl, rfl, rfl, HZ, HS, HP, HL, HR⟩ := hrel
    by_cases hlt : j < n
    · have HH := Lib.hid (has_impl s j wr (by have := HS.out.2; omega) (by omega))
      have hjt : j < ts.length := by rw [HN.out]; exact hlt
      have HJT := Lib.hid hjt
      cases hb : s.testBit j with
      | true =>
        have hnh : ¬ HeadT ts j := fun h => by
          have := (seen_head HS.out.1 hjt).2 h
          rw [hb] at this; cases this
        have HP2 := Lib.hid (HP.out.trans (congrArg (List.map (partL ts)) (headsTo_no hnh)))
        have HS2 := Lib.hid (And.intro (seen_no HS.out.1 hjt hb) HS.out.2)
        rw [hb] at HH
        clear hb hnh hjt
        go_wp2_with fail
        refine HH.out.mono ?_
        rintro e w3 ⟨rfl, rfl⟩
        clear HH
        go_wp2
        go_roundw
        case rel => exact ⟨j + 1, s, z, sets, ga, ca, by omega, by omega, by go_num, rfl, rfl, HZ, HS2, HP2, HL, HR⟩
        case measure => simp [intOf]; omega
      | false =>
        have hhd : HeadT ts j := (seen_head HS.out.1 hjt).1 hb
        have HHD := Lib.hid hhd
        have HPW := Lib.hid (pow_wrap j (by omega))
        rw [hb] at HH
        obtain ⟨p0, hp0⟩ : ∃ p, p = 2 ^ j := ⟨_, rfl⟩
        have HP0 : Hid (ReachT ts j p0 ∧ p0 < 4096) := Lib.hid (by rw [hp0]; exact ⟨reach_start hjt, pow_lt (by omega)⟩)
        rw [← hp0] at HPW
        have HA0 := Lib.hid (around_impl (s := p0) (h := r) (w := wr) (GR.out.step HR.out.rs.bel).c H12.out HP0.out.2)
        clear hb hhd hjt hp0
        go_wp2_with fail
        refine HH.out.mono ?_
        rintro e w3 ⟨rfl, rfl⟩
        clear HH
        go_wp2_with fail
        rw [HPW.out]
        refine HA0.out.mono ?_
        rintro e w4 ⟨rfl, rfl⟩
        clear HA0
        obtain ⟨WO, hWO⟩ : ∃ W, W = wr := ⟨_, rfl⟩
        rw [← hWO] at HR ⊢
        clear hWO
        go_wp2
        go_loopw [7, 8] (fun p' a' wi => ∃ p : Nat, p' = .int .u64 p ∧ a' = .int .u64 (arS ts p) ∧ Hid (ReachT ts j p ∧ p < 4096) ∧ wi = WO) (fun p' _ _ => 12 - bitN (intOf p').toNat)
        case atStart => exact ⟨p0, rfl, rfl, HP0, rfl⟩
        case round =>
          obtain ⟨p, rfl, rfl, HQ, rfl⟩ := hrel
          by_cases he : arS ts p = p
          · have HE := Lib.hid (reach_end HAX.out HQ.out.1 he)
            have q1 : (((arS ts p : Nat) : Int) != (p : Int)) = false := by rw [he]; simp
            have HP2 : Hid ((sets ++ [p]).map (fun s => bitsTo s 12) = (headsTo ts (j + 1)).map (partL ts)) := Lib.hid (by
              rw [← headsTo_yes HHD.out, List.map_append, List.map_append, HP.out]
              show _ ++ [bitsTo p 12] = _ ++ [partL ts j]
              rw [reach_bits H12.out HE.out])
            have HS2 : Hid (SeenT ts (j + 1) (s ||| p) ∧ s ||| p < 4096) := Lib.hid ⟨seen_yes HS.out.1 HE.out, Nat.or_lt_two_pow (n := 12) HS.out.2 HQ.out.2⟩
            have HL2 : Hid (∀ s ∈ sets ++ [p], s < 4096) := Lib.hid (fun x hx => by
              rcases List.mem_append.1 hx with hx | hx
              · exact HL.out x hx
              · simp at hx; subst hx; exact HQ.out.2)
            have HOR := Lib.hid (u64_or_nat s p (by have := HS.out.2; omega) (by have := HQ.out.2; omega))
            have HZ0 : Hid ((sets.map bitsV).length = z) := Lib.hid (by rw [List.length_map, HZ.out])
            have HZ2 : Hid ((sets ++ [p]).length = z + 1) := Lib.hid (by rw [List.length_append, HZ.out]; rfl)
            have A5 := Lib.hid (HR.out.alloc (.cells #[.int .u64 (p : Int)] 85))
            have O5 := Lib.hid (A5.out.row HZ0.out)
            clear he
            go_wp2_with (at_builtin; go_must (refine wpList_append_lies _ rfl _ _ 91 rfl w1.heap.size 85 i0 (.int .u64 0) 1 8 Try.underlying91 J0.out J1.out J2.out J3.out rfl (by decide) _ z (sets.map bitsV) rfl O5.out ⟨wr.heap.size, 0, none⟩ 1 1 [.int .u64 (p : Int)] rfl rfl (cell_one_new _ _ _) ?c2 (by decide) ?c3 ?c4 ?c5 _ rfl ?_))
            case c2 => first | rfl | (intro u hu; simp at hu; subst hu; rfl)
            case c3 => unfold maxLen; omega
            case c4 => omega
            case c5 => exact A5.out.rs.bel.size
            intro g1 cap1 w5 hown hgrow hl1 _
            have hR5 := A5.out.app HZ0.out hown hgrow (by rw [World.size_alloc]; exact hl1)
            have R6 : Hid (RsE 85 w1 w5 [] (.slice (some ⟨g1, 0, none⟩) (z + 1) cap1) ((sets ++ [p]).map bitsV)) := Lib.hid (by rw [List.map_append]; exact hR5)
            clear hown hgrow hl1 hR5 A5 O5 HR
            go_wp2
            go_roundw
            case rel => exact ⟨j + 1, s ||| p, z + 1, sets ++ [p], some ⟨g1, 0, none⟩, cap1, by omega, by omega, by go_num, by rw [HOR.out], rfl, HZ2, HS2, HP2, HL2, R6⟩
            case measure => simp [intOf]; omega
          · have q1 : (((arS ts p : Nat) : Int) != (p : Int)) = true := by simpa using (by omega : ((arS ts p : Nat) : Int) ≠ (p : Int))
            have HM := Lib.hid (bitN_lt HAX.out H12.out HQ.out.2 he)
            have HQ2 : Hid (ReachT ts j (arS ts p) ∧ arS ts p < 4096) := Lib.hid ⟨reach_step HAX.out HQ.out.1, arTo_lt H12.out HQ.out.2 100⟩
            have HA1 := Lib.hid (around_impl (s := arS ts p) (h := r) (w := wr) (GR.out.step HR.out.rs.bel).c H12.out HQ2.out.2)
            clear he
            go_wp2_with fail
            refine HA1.out.mono ?_
            rintro e w4 ⟨rfl, rfl⟩
            clear HA1
            go_wp2
            go_roundw
            case rel => exact ⟨arS ts p, rfl, rfl, HQ2, trivial⟩
            case measure =>
              have h1 := HM.out
              have h2 := bitN_le (arS ts p)
              simp [intOf]; omega
    · obtain rfl : j = n := by omega
      have hfin : sets.map (fun s => bitsTo s 12) = partsL ts := by rw [HP.out]; unfold partsL; rw [HN.out]
      have HF := Lib.hid hfin
      have BB := Lib.hid (GR.out.bel.trans (HR.out.rs.bel.mono GR.out.bel.size))
      have BS := Lib.hid GR.out.bel.size
      have OW := Lib.hid (HR.out.row (n := sets.length) (by rw [List.length_map]))
      clear hfin
      go_wp2
      go_ret
      exact ⟨_, sets, rfl, OW.out.mono BS.out, HF.out, HL.out, BB.out⟩
end Go.Proofs.Ytdheakjjnaifkaa
