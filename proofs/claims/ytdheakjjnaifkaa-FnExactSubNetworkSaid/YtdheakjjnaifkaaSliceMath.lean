
/- Slices: some labels have given values; the elements that are left, in their order. -/
import Derived.Test.YtdheakjjnaifkaaTensorOk
import Derived.Test.YtdheakjjnaifkaaTenFacts
import Derived.Test.YtdheakjjnaifkaaJoinMath
import Derived.Test.YtdheakjjnaifkaaTensorOk2
import Derived.Test.YtdheakjjnaifkaaElemAt
namespace Go.Proofs.Ytdheakjjnaifkaa
set_option maxRecDepth 20000

/-- An index with what is given put in. -/
def fillC : List (Option Int) → List Int → List Int
  | [], _ => []
  | some v :: C, ix => v :: fillC C ix
  | none :: C, ix => ix.headD 0 :: fillC C ix.tail
/-- The index has the given values. -/
def selC : List (Option Int) → List Int → Bool
  | [], _ => true
  | some v :: C, ix => decide (ix.headD 0 = v) && selC C ix.tail
  | none :: C, ix => selC C ix.tail
/-- What is left of a list. -/
def leftC : List (Option Int) → List Int → List Int
  | [], _ => []
  | some _ :: C, D => leftC C D.tail
  | none :: C, D => D.headD 0 :: leftC C D.tail
/-- The value is the given one, if one is given. -/
def hitC : Option Int → Int → Bool
  | some v, x => decide (x = v)
  | none, _ => true
def moreC (d m : Nat) : Option Int → List Nat
  | some v => [m * d + v.toNat]
  | none => (List.range d).map fun v => m * d + v
def tailC : Option Int → Int → List Int
  | some _, _ => []
  | none, x => [x]
def freeC (C : List (Option Int)) : Nat := C.countP fun o => o.isNone
/-- What is given is in range. -/
def OkC (C : List (Option Int)) (D : List Int) : Prop := C.length = D.length ∧ ∀ (i : Nat) (v d : Int), C[i]? = some (some v) → D[i]? = some d → 0 ≤ v ∧ v < d

theorem freeC_snoc (C : List (Option Int)) (o : Option Int) : freeC (C ++ [o]) = freeC C + if o.isNone then 1 else 0 := by
  unfold freeC; rw [List.countP_append]; cases o <;> simp
theorem fillC_len (C : List (Option Int)) : ∀ ix, (fillC C ix).length = C.length := by
  induction C with
  | nil => intro ix; rfl
  | cons o C ih => intro ix; cases o <;> simp [fillC, ih]
theorem fillC_snoc_some (C : List (Option Int)) (v : Int) : ∀ ix, fillC (C ++ [some v]) ix = fillC C ix ++ [v] := by
  induction C with
  | nil => intro ix; rfl
  | cons o C ih => intro ix; cases o <;> simp [fillC, ih]
theorem fillC_more (C : List (Option Int)) : ∀ ix ys, ix.length = freeC C → fillC C (ix ++ ys) = fillC C ix := by
  induction C with
  | nil => intro ix ys _; rfl
  | cons o C ih =>
    intro ix ys h
    cases o with
    | some v => simp only [fillC]; rw [ih ix ys (by simpa [freeC] using h)]
    | none =>
      cases ix with
      | nil => simp [freeC] at h
      | cons a ix => simp only [fillC, List.cons_append, List.headD_cons, List.tail_cons]; rw [ih ix ys (by simp [freeC] at h; simpa [freeC] using h)]
theorem fillC_snoc_none (C : List (Option Int)) (x : Int) : ∀ ix, ix.length = freeC C → fillC (C ++ [none]) (ix ++ [x]) = fillC C ix ++ [x] := by
  induction C with
  | nil => intro ix h; rw [List.eq_nil_of_length_eq_zero h]; rfl
  | cons o C ih =>
    intro ix h
    cases o with
    | some v => simp only [fillC, List.cons_append]; rw [ih ix (by simpa [freeC] using h)]
    | none =>
      cases ix with
      | nil => simp [freeC] at h
      | cons a ix => simp only [fillC, List.cons_append, List.headD_cons, List.tail_cons]; rw [ih ix (by simp [freeC] at h; simpa [freeC] using h)]
theorem selC_snoc (C : List (Option Int)) (o : Option Int) (x : Int) : ∀ ix, ix.length = C.length → selC (C ++ [o]) (ix ++ [x]) = (selC C ix && hitC o x) := by
  induction C with
  | nil => intro ix h; rw [List.eq_nil_of_length_eq_zero h]; cases o <;> simp [selC, hitC]
  | cons p C ih =>
    intro ix h
    cases ix with
    | nil => simp at h
    | cons a ix =>
      cases p with
      | some v => simp only [selC, List.cons_append, List.headD_cons, List.tail_cons]; rw [ih ix (by simpa using h), Bool.and_assoc]; rfl
      | none => simp only [selC, List.cons_append, List.tail_cons]; rw [ih ix (by simpa using h)]
theorem leftC_snoc (C : List (Option Int)) (o : Option Int) (x : Int) : ∀ D : List Int, D.length = C.length → leftC (C ++ [o]) (D ++ [x]) = leftC C D ++ tailC o x := by
  induction C with
  | nil => intro D h; rw [List.eq_nil_of_length_eq_zero h]; cases o <;> simp [leftC, tailC]
  | cons p C ih =>
    intro D h
    cases D with
    | nil => simp at h
    | cons a D => cases p <;> simp only [leftC, List.cons_append, List.headD_cons, List.tail_cons] <;> rw [ih D (by simpa using h)]
theorem leftC_len (C : List (Option Int)) : ∀ D : List Int, (leftC C D).length = freeC C := by
  induction C with
  | nil => intro D; rfl
  | cons p C ih => intro D; cases p <;> simp [leftC, freeC, ih] <;> rfl
theorem leftC_sub (C : List (Option Int)) : ∀ D : List Int, D.length = C.length → (leftC C D).Sublist D := by
  induction C with
  | nil => intro D _; exact List.nil_sublist _
  | cons p C ih =>
    intro D h
    cases D with
    | nil => simp at h
    | cons a D =>
      have := ih D (by simpa using h)
      cases p with
      | some v => exact this.cons _
      | none => exact this.cons_cons _
theorem offI_snoc (D ix : List Int) (d x : Int) (h : ix.length = D.length) : offI (D ++ [d]) (ix ++ [x]) = offI D ix * d + x := by
  have e : ∀ j, j ≤ D.length → offP (D ++ [d]) (ix ++ [x]) j = offP D ix j := by
    intro j
    induction j with
    | zero => intro _; rfl
    | succ j ih =>
      intro hj
      rw [offP_succ, offP_succ, ih (by omega)]
      have e1 : (D ++ [d]).getD j 0 = D.getD j 0 := by rw [List.getD_eq_getElem?_getD, List.getElem?_append_left (by omega), ← List.getD_eq_getElem?_getD]
      have e2 : (ix ++ [x]).getD j 0 = ix.getD j 0 := by rw [List.getD_eq_getElem?_getD, List.getElem?_append_left (by omega), ← List.getD_eq_getElem?_getD]
      rw [e1, e2]
  rw [offI_is, offI_is, List.length_append, List.length_singleton, offP_succ, e _ (Nat.le_refl _)]
  have e1 : (D ++ [d]).getD D.length 0 = d := by simp [List.getD_eq_getElem?_getD]
  have e2 : (ix ++ [x]).getD D.length 0 = x := by rw [← h]; simp [List.getD_eq_getElem?_getD]
  rw [e1, e2]
theorem OkC.snoc {C : List (Option Int)} {D : List Int} {o : Option Int} {d : Int} (h : OkC (C ++ [o]) (D ++ [d])) (hl : C.length = D.length) : OkC C D ∧ ∀ v, o = some v → 0 ≤ v ∧ v < d := by
  refine ⟨⟨hl, fun i v e h1 h2 => ?_⟩, fun v hv => ?_⟩
  · have i1 := (List.getElem?_eq_some_iff.1 h1).1
    exact h.2 i v e (by rw [List.getElem?_append_left i1]; exact h1) (by rw [List.getElem?_append_left (by omega)]; exact h2)
  · subst hv
    exact h.2 C.length v d (by simp) (by rw [hl]; simp)
theorem fillC_in {C : List (Option Int)} {D ix : List Int} (h : OkC C D) (hx : InIx (leftC C D) ix) : InIx D (fillC C ix) := by
  induction C generalizing D ix with
  | nil =>
    have h0 := h.1
    have hD := List.eq_nil_of_length_eq_zero (l := D) (by simpa using h0.symm)
    subst hD
    exact ⟨rfl, fun i hi => by simp at hi⟩
  | cons o C ih =>
    cases D with
    | nil => have := h.1; simp at this
    | cons d D =>
      have hC : OkC C D := ⟨by have := h.1; simpa using this, fun i v e h1 h2 => h.2 (i + 1) v e (by simpa using h1) (by simpa using h2)⟩
      cases o with
      | some v =>
        have hv := h.2 0 v d (by simp) (by simp)
        have ht := ih hC (ix := ix) (by simpa [leftC] using hx)
        refine ⟨by simp only [fillC, List.length_cons]; rw [ht.1], fun i hi => ?_⟩
        cases i with
        | zero => simpa [fillC] using hv
        | succ i => simpa [fillC] using ht.2 i (by simpa using hi)
      | none =>
        simp only [leftC, List.headD_cons, List.tail_cons] at hx
        cases ix with
        | nil => have := hx.1; simp at this
        | cons a ix =>
          have h0 := hx.2 0 (by simp)
          have ht := ih hC (ix := ix) ⟨by have := hx.1; simpa using this, fun i hi => by have := hx.2 (i + 1) (by simpa using hi); simpa using this⟩
          refine ⟨by simp only [fillC, List.length_cons, List.tail_cons]; rw [ht.1], fun i hi => ?_⟩
          cases i with
          | zero => simpa [fillC] using h0
          | succ i => simpa [fillC] using ht.2 i (by simpa using hi)
theorem filter_one {d : Nat} {v : Int} (h0 : 0 ≤ v) (h1 : v < (d : Int)) : ((List.range d).filter fun x : Nat => decide ((x : Int) = v)) = [v.toNat] := by
  obtain ⟨u, rfl⟩ : ∃ u : Nat, v = (u : Int) := ⟨v.toNat, by omega⟩
  have hu : u < d := by omega
  have e : (fun x : Nat => decide ((x : Int) = (u : Int))) = fun x => x == u := by
    funext x
    by_cases hx : x = u
    · subst hx; simp
    · have : ¬ ((x : Int) = (u : Int)) := by omega
      rw [decide_eq_false this, beq_eq_false_iff_ne.2 hx]
  rw [e]
  rw [List.filter_beq, List.nodup_range.count, if_pos (List.mem_range.2 hu)]
  simp
/-- The offsets of all indices that have the given values, in their order. -/
theorem sel_range : ∀ (k : Nat) (C : List (Option Int)) (D : List Int), D.length = k → OkC C D → (∀ d ∈ D, 1 ≤ d) →
    ((List.range (prodL D).toNat).filter fun n : Nat => selC C (idxL D (n : Int))) = (List.range (prodL (leftC C D)).toNat).map fun m : Nat => (offI D (fillC C (idxL (leftC C D) (m : Int)))).toNat := by
  intro k
  induction k with
  | zero =>
    intro C D hk hC _
    have hD := List.eq_nil_of_length_eq_zero hk
    subst hD
    have hC0 := List.eq_nil_of_length_eq_zero (l := C) (hC.1.trans rfl)
    subst hC0
    rfl
  | succ k ih =>
    intro C D hk hC hD
    rcases List.eq_nil_or_concat D with rfl | ⟨E, d, rfl⟩
    · simp at hk
    rcases List.eq_nil_or_concat C with rfl | ⟨F, o, rfl⟩
    · have := hC.1; simp at this
    simp only [List.concat_eq_append] at hk hC hD ⊢
    have hE : E.length = k := by simp at hk; omega
    have hl : F.length = E.length := by have := hC.1; simpa using this
    have hdE : ∀ x ∈ E, 1 ≤ x := fun x hx => hD x (by simp [hx])
    have hd : 1 ≤ d := hD d (by simp)
    obtain ⟨hFE, ho⟩ := hC.snoc hl
    have hp := prodL_pos hdE
    have hkey := ih F E hE hFE hdE
    have hdL : ∀ x ∈ leftC F E, 1 ≤ x := fun x hx => hdE x ((leftC_sub F E (by omega)).subset hx)
    have hpl := prodL_pos hdL
    rw [prodL_snoc, Int.toNat_mul (by omega) (by omega), range_mul, List.filter_flatMap]
    have e1 : ∀ m : Nat, ((List.range d.toNat).map fun v => m * d.toNat + v).filter (fun n : Nat => selC (F ++ [o]) (idxL (E ++ [d]) (n : Int))) = if selC F (idxL E (m : Int)) = true then moreC d.toNat m o else [] := by
      intro m
      have e2 : ∀ v : Nat, v < d.toNat → selC (F ++ [o]) (idxL (E ++ [d]) ((m * d.toNat + v : Nat) : Int)) = (selC F (idxL E (m : Int)) && hitC o (v : Int)) := by
        intro v hv
        have e3 : ((m * d.toNat + v : Nat) : Int) = (m : Int) * d + (v : Int) := by
          rw [Int.natCast_add, Int.natCast_mul, Int.toNat_of_nonneg (by omega)]
        rw [e3, idxL_snoc _ _ _ _ (by omega) (by omega), selC_snoc _ _ _ _ (by rw [idxL_len, hl])]
      rw [List.filter_map]
      have e4 : (List.range d.toNat).filter ((fun n : Nat => selC (F ++ [o]) (idxL (E ++ [d]) (n : Int))) ∘ fun v => m * d.toNat + v) = (List.range d.toNat).filter fun v : Nat => (selC F (idxL E (m : Int)) && hitC o (v : Int)) :=
        List.filter_congr fun v hv => e2 v (List.mem_range.1 hv)
      rw [e4]
      cases hs : selC F (idxL E (m : Int)) with
      | false => simp
      | true =>
        cases o with
        | none => simp only [Bool.true_and, if_true, hitC, moreC]; rw [List.filter_eq_self.2 (fun _ _ => rfl)]
        | some x =>
          obtain ⟨h0, h1⟩ := ho x rfl
          simp only [Bool.true_and, if_true, hitC]
          rw [filter_one h0 (by omega)]
          rfl
    rw [show ((List.range (prodL E).toNat).flatMap fun m => ((List.range d.toNat).map fun v => m * d.toNat + v).filter (fun n : Nat => selC (F ++ [o]) (idxL (E ++ [d]) (n : Int)))) = ((List.range (prodL E).toNat).filter fun m : Nat => selC F (idxL E (m : Int))).flatMap fun m => moreC d.toNat m o from by
      generalize List.range (prodL E).toNat = R
      induction R with
      | nil => rfl
      | cons m R ihR =>
        rw [List.flatMap_cons, e1 m, ihR, List.filter_cons]
        cases selC F (idxL E (m : Int)) <;> simp]
    rw [hkey, List.flatMap_map, leftC_snoc _ _ _ _ hl.symm]
    have hoff : ∀ m : Nat, m < (prodL (leftC F E)).toNat → 0 ≤ offI E (fillC F (idxL (leftC F E) (m : Int))) := fun m hm => by
      have h1 := offP_range hdE (fillC_in hFE (idxL_in hdL (m : Int))) E.length (Nat.le_refl _)
      rw [offI_is]; exact h1.1
    have hlf : ∀ m : Nat, (idxL (leftC F E) (m : Int)).length = freeC F := fun m => by rw [idxL_len, leftC_len]
    cases o with
    | some x =>
      obtain ⟨h0, h1⟩ := ho x rfl
      simp only [List.append_nil, tailC, moreC]
      rw [← List.map_eq_flatMap]
      apply List.map_congr_left
      intro m hm
      have hm' := List.mem_range.1 hm
      rw [fillC_snoc_some, offI_snoc _ _ _ _ (by rw [fillC_len, hl])]
      have := hoff m hm'
      rw [Int.toNat_add (Int.mul_nonneg this (by omega)) h0, Int.toNat_mul this (by omega)]
    | none =>
      simp only [tailC, moreC]
      rw [prodL_snoc, Int.toNat_mul (by omega) (by omega), range_mul, List.map_flatMap]
      refine congrArg List.flatten (List.map_congr_left ?_)
      intro m hm
      have hm' := List.mem_range.1 hm
      rw [List.map_map]
      apply List.map_congr_left
      intro v hv
      have hv' : v < d.toNat := List.mem_range.1 hv
      have e3 : ((m * d.toNat + v : Nat) : Int) = (m : Int) * d + (v : Int) := by
        rw [Int.natCast_add, Int.natCast_mul, Int.toNat_of_nonneg (by omega)]
      show _ = (offI (E ++ [d]) (fillC (F ++ [none]) (idxL (leftC F E ++ [d]) ((m * d.toNat + v : Nat) : Int)))).toNat
      rw [e3, idxL_snoc _ _ _ _ (by omega) (by omega), fillC_snoc_none _ _ _ (hlf m), offI_snoc _ _ _ _ (by rw [fillC_len, hl])]
      have := hoff m hm'
      rw [Int.toNat_add (Int.mul_nonneg this (by omega)) (by omega), Int.toNat_mul this (by omega)]
      simp

/-- What the lists fix a label to: of equal labels the first one counts. -/
def cK (K V : List Int) (n : Int) : Option Int := if n ∈ K then some (V.getD (K.idxOf n) 0) else none
def orC (c1 c2 : Int → Option Int) (n : Int) : Option Int := match c1 n with | some v => some v | none => c2 n
def fixL (c : Int → Option Int) (L : List Int) : List Int := L.filter fun n => (c n).isNone
def fixD (c : Int → Option Int) (L D : List Int) : List Int := leftC (L.map c) D
def fixF (c : Int → Option Int) (L D : List Int) (m : Nat) : Nat := (offI D (fillC (L.map c) (idxL (fixD c L D) (m : Int)))).toNat
def fixX (wd : Nat) (c : Int → Option Int) (L D X : List Int) : List Int := gatherL (fun m => getL wd X (fixF c L D m)) (prodL (fixD c L D)).toNat

theorem fixL_or (c1 c2 : Int → Option Int) (L : List Int) : fixL (orC c1 c2) L = fixL c2 (fixL c1 L) := by
  unfold fixL
  rw [List.filter_filter]
  apply List.filter_congr
  intro n _
  unfold orC
  cases c1 n <;> simp
theorem fixL_cons_some {c : Int → Option Int} {n v : Int} {L : List Int} (h : c n = some v) : fixL c (n :: L) = fixL c L := by
  unfold fixL; rw [List.filter_cons_of_neg (by simp [h])]
theorem fixL_cons_none {c : Int → Option Int} {n : Int} {L : List Int} (h : c n = none) : fixL c (n :: L) = n :: fixL c L := by
  unfold fixL; rw [List.filter_cons_of_pos (by simp [h])]
theorem fixD_or (c1 c2 : Int → Option Int) : ∀ (L D : List Int), fixD (orC c1 c2) L D = fixD c2 (fixL c1 L) (fixD c1 L D) := by
  intro L
  induction L with
  | nil => intro D; rfl
  | cons n L ih =>
    intro D
    have ih := ih D.tail
    unfold fixD at ih ⊢
    cases h : c1 n with
    | some v => rw [fixL_cons_some h]; simp only [List.map_cons, orC, h, leftC]; exact ih
    | none =>
      rw [fixL_cons_none h]
      simp only [List.map_cons, h, leftC]
      rw [show orC c1 c2 n = c2 n from by unfold orC; rw [h]]
      cases c2 n with
      | some v => simp only [leftC, List.tail_cons]; exact ih
      | none => simp only [leftC, List.tail_cons, List.headD_cons]; rw [ih]
theorem fill_or (c1 c2 : Int → Option Int) : ∀ (L ix : List Int), fillC (L.map (orC c1 c2)) ix = fillC (L.map c1) (fillC ((fixL c1 L).map c2) ix) := by
  intro L
  induction L with
  | nil => intro ix; rfl
  | cons n L ih =>
    intro ix
    cases h : c1 n with
    | some v => rw [fixL_cons_some h]; simp only [List.map_cons, orC, h, fillC]; rw [← ih ix]
    | none =>
      rw [fixL_cons_none h]
      simp only [List.map_cons, h]
      rw [show orC c1 c2 n = c2 n from by unfold orC; rw [h]]
      cases c2 n with
      | some v => simp only [fillC, List.tail_cons, List.headD_cons]; rw [← ih ix]
      | none => simp only [fillC, List.tail_cons, List.headD_cons]; rw [← ih ix.tail]
theorem freeC_fix (c : Int → Option Int) (L : List Int) : freeC (L.map c) = (fixL c L).length := by
  unfold freeC fixL
  rw [List.countP_map, List.countP_eq_length_filter]
  rfl
theorem fixD_len (c : Int → Option Int) (L D : List Int) : (fixD c L D).length = (fixL c L).length := by
  unfold fixD; rw [leftC_len, freeC_fix]
theorem fixD_sub {c : Int → Option Int} {L D : List Int} (h : L.length = D.length) : (fixD c L D).Sublist D := leftC_sub _ _ (by rw [List.length_map, h])
theorem fixL_congr {c c' : Int → Option Int} {L : List Int} (h : ∀ n ∈ L, c n = c' n) : fixL c L = fixL c' L := List.filter_congr fun n hn => by rw [h n hn]
theorem map_congrC {c c' : Int → Option Int} {L : List Int} (h : ∀ n ∈ L, c n = c' n) : L.map c = L.map c' := List.map_congr_left h
theorem fixD_congr {c c' : Int → Option Int} {L D : List Int} (h : ∀ n ∈ L, c n = c' n) : fixD c L D = fixD c' L D := by unfold fixD; rw [map_congrC h]
theorem fixX_congr {wd : Nat} {c c' : Int → Option Int} {L D X : List Int} (h : ∀ n ∈ L, c n = c' n) : fixX wd c L D X = fixX wd c' L D X := by
  unfold fixX fixF fixD; rw [map_congrC h]
theorem fix_none {c : Int → Option Int} {L : List Int} (h : ∀ n ∈ L, c n = none) : fixL c L = L := List.filter_eq_self.2 fun n hn => by rw [h n hn]; rfl
theorem fixF_lt {c : Int → Option Int} {L D : List Int} (hl : L.length = D.length) (hc : OkC (L.map c) D) (hD : ∀ d ∈ D, 1 ≤ d) (m : Nat) : InIx D (fillC (L.map c) (idxL (fixD c L D) (m : Int))) ∧ offI D (fillC (L.map c) (idxL (fixD c L D) (m : Int))) = (fixF c L D m : Int) ∧ (fixF c L D m : Int) < prodL D := by
  have hdL : ∀ x ∈ fixD c L D, 1 ≤ x := fun x hx => hD x ((fixD_sub hl).subset hx)
  have hi := fillC_in hc (ix := idxL (fixD c L D) (m : Int)) (idxL_in hdL _)
  have h1 := offP_range hD hi D.length (Nat.le_refl _)
  rw [← offI_is, List.take_of_length_le (Nat.le_refl _)] at h1
  unfold fixF
  exact ⟨hi, by omega, by omega⟩
/-- Slices of a slice. -/
theorem fixX_or {wd : Nat} {c1 c2 : Int → Option Int} {L D X : List Int} (hl : L.length = D.length) (h1 : OkC (L.map c1) D) (h2 : OkC ((fixL c1 L).map c2) (fixD c1 L D)) (hD : ∀ d ∈ D, 1 ≤ d) (hX : ∀ o : Nat, (o : Int) < prodL D → o * wd + wd ≤ X.length) : fixX wd c2 (fixL c1 L) (fixD c1 L D) (fixX wd c1 L D X) = fixX wd (orC c1 c2) L D X := by
  have hD1 : ∀ x ∈ fixD c1 L D, 1 ≤ x := fun x hx => hD x ((fixD_sub hl).subset hx)
  have hl1 : (fixL c1 L).length = (fixD c1 L D).length := (fixD_len c1 L D).symm
  rw [show fixX wd c2 (fixL c1 L) (fixD c1 L D) (fixX wd c1 L D X) = gatherL (fun m => getL wd (fixX wd c1 L D X) (fixF c2 (fixL c1 L) (fixD c1 L D) m)) (prodL (fixD c2 (fixL c1 L) (fixD c1 L D))).toNat from rfl]
  rw [show fixX wd (orC c1 c2) L D X = gatherL (fun m => getL wd X (fixF (orC c1 c2) L D m)) (prodL (fixD (orC c1 c2) L D)).toNat from rfl, fixD_or]
  apply gather_congr
  intro m _
  obtain ⟨i1, o1, l1⟩ := fixF_lt hl1 h2 hD1 m
  have hz : fixF c2 (fixL c1 L) (fixD c1 L D) m < (prodL (fixD c1 L D)).toNat := by omega
  rw [show fixX wd c1 L D X = gatherL (fun m => getL wd X (fixF c1 L D m)) (prodL (fixD c1 L D)).toNat from rfl]
  rw [gather_get (fun j _ => by
    have h := (fixF_lt hl h1 hD j).2.2
    have h3 := hX (fixF c1 L D j) h
    unfold getL
    rw [List.length_take, List.length_drop]
    omega) hz]
  congr 1
  show (offI D (fillC (L.map c1) (idxL (fixD c1 L D) ((fixF c2 (fixL c1 L) (fixD c1 L D) m : Nat) : Int)))).toNat = (offI D (fillC (L.map (orC c1 c2)) (idxL (fixD (orC c1 c2) L D) (m : Int)))).toNat
  rw [← o1, idx_off hD1 i1, fill_or, fixD_or]
/-- The data of a slice is what the given values choose. -/
theorem fixX_sel {wd : Nat} {c : Int → Option Int} {L D X : List Int} (hc : OkC (L.map c) D) (hD : ∀ d ∈ D, 1 ≤ d) : ((List.range (prodL D).toNat).filter fun n : Nat => selC (L.map c) (idxL D (n : Int))).flatMap (getL wd X) = fixX wd c L D X := by
  rw [sel_range D.length (L.map c) D rfl hc hD, List.flatMap_map]
  rfl
/-- One label. -/
theorem sel_one {L : List Int} {b v : Int} (hn : L.Nodup) (hb : b ∈ L) : ∀ ix : List Int, ix.length = L.length → selC (L.map (cK [b] [v])) ix = decide (ix.getD (L.idxOf b) 0 = v) := by
  induction L with
  | nil => simp at hb
  | cons n L ih =>
    intro ix hx
    cases ix with
    | nil => simp at hx
    | cons x ix =>
      have hn' := List.nodup_cons.1 hn
      have hall : ∀ (M : List Int), b ∉ M → ∀ ix, selC (M.map (cK [b] [v])) ix = true := by
        intro M
        induction M with
        | nil => intro _ ix; rfl
        | cons m M ihM =>
          intro hm ix
          have h1 : m ≠ b := fun e => hm (by simp [e])
          have h2 : cK [b] [v] m = none := by unfold cK; rw [if_neg (by simpa using h1)]
          simp only [List.map_cons, h2, selC]
          exact ihM (fun h => hm (by simp [h])) _
      by_cases e : n = b
      · subst e
        have h2 : cK [n] [v] n = some v := by unfold cK; simp
        simp only [List.map_cons, h2, selC, List.headD_cons, List.tail_cons]
        rw [hall L hn'.1 ix]
        simp
        rfl
      · have h2 : cK [b] [v] n = none := by unfold cK; rw [if_neg (by simpa using e)]
        have hb' : b ∈ L := by
          rcases List.mem_cons.1 hb with h | h
          · exact absurd h.symm e
          · exact h
        simp only [List.map_cons, h2, selC, List.tail_cons]
        rw [ih hn'.2 hb' ix (by simpa using hx), List.idxOf_cons, cond_eq_ite, if_neg (by simpa using e)]
        simp
theorem fixL_one (L : List Int) (b v : Int) : fixL (cK [b] [v]) L = L.filter fun n => decide (n ≠ b) := by
  unfold fixL
  apply List.filter_congr
  intro n _
  unfold cK
  by_cases h : n = b
  · subst h; simp
  · rw [if_neg (by simpa using h)]; simp [h]
theorem cK_none {K V : List Int} {n : Int} (h : n ∉ K) : cK K V n = none := if_neg h
theorem cK_some {K V : List Int} {n : Int} (h : n ∈ K) : cK K V n = some (V.getD (K.idxOf n) 0) := if_pos h
/-- The next label of the lists. -/
theorem cK_step {K V : List Int} {i : Nat} {n v : Int} (hn : K[i]? = some n) (hv : V[i]? = some v) : ∀ m, orC (cK (K.take i) (V.take i)) (cK [n] [v]) m = cK (K.take (i + 1)) (V.take (i + 1)) m := by
  intro m
  have hi := (List.getElem?_eq_some_iff.1 hn).1
  have ek : K.take (i + 1) = K.take i ++ [n] := by rw [List.take_add_one, hn]; rfl
  have ev : V.take (i + 1) = V.take i ++ [v] := by rw [List.take_add_one, hv]; rfl
  have hiv := (List.getElem?_eq_some_iff.1 hv).1
  rw [ek, ev]
  by_cases h : m ∈ K.take i
  · have hlt := List.idxOf_lt_length_iff.2 h
    rw [show orC (cK (K.take i) (V.take i)) (cK [n] [v]) m = some ((V.take i).getD ((K.take i).idxOf m) 0) from by unfold orC; rw [cK_some h]]
    rw [cK_some (List.mem_append.2 (.inl h)), List.idxOf_append, if_pos h]
    rw [List.length_take] at hlt
    rw [List.getD_eq_getElem?_getD, List.getD_eq_getElem?_getD, List.getElem?_append_left (by rw [List.length_take]; omega)]
  · rw [show orC (cK (K.take i) (V.take i)) (cK [n] [v]) m = cK [n] [v] m from by unfold orC; rw [cK_none h]]
    by_cases e : m = n
    · subst e
      rw [cK_some (by simp), cK_some (by simp), List.idxOf_append, if_neg h]
      simp only [List.idxOf_cons_self, List.length_take]
      rw [Nat.min_eq_left (by omega)]
      simp [List.getD_eq_getElem?_getD, List.length_take, Nat.min_eq_left (Nat.le_of_lt hiv)]
    · rw [cK_none (by simpa using e), cK_none (by simp [h, e])]
theorem cK_again {K V : List Int} {i : Nat} {n v : Int} (hn : K[i]? = some n) (hv : V[i]? = some v) {L : List Int} (h : n ∉ fixL (cK (K.take i) (V.take i)) L) : ∀ m ∈ L, cK (K.take i) (V.take i) m = cK (K.take (i + 1)) (V.take (i + 1)) m := by
  intro m hm
  rw [← cK_step hn hv m]
  unfold orC
  cases hc : cK (K.take i) (V.take i) m with
  | some x => rfl
  | none =>
    have : m ≠ n := fun e => h (by subst e; unfold fixL; rw [List.mem_filter]; exact ⟨hm, by rw [hc]; rfl⟩)
    rw [cK_none (by simpa using this)]

/-- The axes that are left, and where their elements start. -/
def restA (c : Int → Option Int) (AX : List AxE) : List AxE := AX.filter fun a => (c a.1).isNone
def startA (c : Int → Option Int) (AX : List AxE) : Int := isum (AX.map fun a => match c a.1 with | some v => v * a.2.2 | none => 0)
theorem axesL_cons (n d : Int) (L D : List Int) : axesL (n :: L) (d :: D) = (n, d, prodL D) :: axesL L D := by
  unfold axesL
  rw [List.length_cons, List.range_succ_eq_map, List.map_cons, List.map_map]
  congr 1
theorem offI_cons (D ix : List Int) (d x : Int) : offI (d :: D) (x :: ix) = x * prodL D + offI D ix := by
  rw [offI_dot, offI_dot, List.length_cons, List.range_succ_eq_map, List.map_cons, List.map_map]
  show _ + isum _ = _
  congr 1
theorem offI_fill (c : Int → Option Int) : ∀ (L D ix : List Int), L.length = D.length → ix.length = freeC (L.map c) → offI D (fillC (L.map c) ix) = startA c (axesL L D) + dotA (restA c (axesL L D)) ix := by
  intro L
  induction L with
  | nil =>
    intro D ix h h2
    rw [List.eq_nil_of_length_eq_zero (l := D) (by simpa using h.symm)]
    rfl
  | cons n L ih =>
    intro D ix h h2
    cases D with
    | nil => simp at h
    | cons d D =>
      have h' : L.length = D.length := by simpa using h
      rw [axesL_cons]
      cases hc : c n with
      | some v =>
        have := ih D ix h' (by simpa [freeC, hc] using h2)
        simp only [List.map_cons, hc, fillC]
        rw [offI_cons, this, show restA c ((n, d, prodL D) :: axesL L D) = restA c (axesL L D) from List.filter_cons_of_neg (by simp [hc]), show startA c ((n, d, prodL D) :: axesL L D) = v * prodL D + startA c (axesL L D) from by unfold startA; rw [List.map_cons, hc]; rfl]
        omega
      | none =>
        cases ix with
        | nil => simp [freeC, hc] at h2
        | cons x ix =>
          have := ih D ix h' (by simp [freeC, hc] at h2; simpa [freeC] using h2)
          simp only [List.map_cons, hc, fillC, List.headD_cons, List.tail_cons]
          rw [offI_cons, this, show restA c ((n, d, prodL D) :: axesL L D) = (n, d, prodL D) :: restA c (axesL L D) from List.filter_cons_of_pos (by simp [hc]), show startA c ((n, d, prodL D) :: axesL L D) = 0 + startA c (axesL L D) from by unfold startA; rw [List.map_cons, hc]; rfl]
          unfold dotA
          simp only [List.zip_cons_cons, List.map_cons]
          show _ = _ + (_ + isum _)
          unfold isum
          omega
theorem rest_axes (c : Int → Option Int) : ∀ (L D : List Int), L.length = D.length → (restA c (axesL L D)).map (fun a => a.1) = fixL c L ∧ dimsA (restA c (axesL L D)) = fixD c L D := by
  intro L
  induction L with
  | nil => intro D h; exact ⟨rfl, rfl⟩
  | cons n L ih =>
    intro D h
    cases D with
    | nil => simp at h
    | cons d D =>
      obtain ⟨h1, h2⟩ := ih D (by simpa using h)
      rw [axesL_cons]
      cases hc : c n with
      | some v =>
        rw [show restA c ((n, d, prodL D) :: axesL L D) = restA c (axesL L D) from List.filter_cons_of_neg (by simp [hc]), fixL_cons_some hc]
        exact ⟨h1, by rw [h2]; unfold fixD; simp [hc, leftC]⟩
      | none =>
        rw [show restA c ((n, d, prodL D) :: axesL L D) = (n, d, prodL D) :: restA c (axesL L D) from List.filter_cons_of_pos (by simp [hc]), fixL_cons_none hc]
        refine ⟨by rw [List.map_cons, h1], ?_⟩
        rw [show dimsA ((n, d, prodL D) :: restA c (axesL L D)) = d :: dimsA (restA c (axesL L D)) from rfl, h2]
        unfold fixD; simp [hc, leftC]
/-- The data of a slice by strides. -/
theorem fixX_offs {wd : Nat} {c : Int → Option Int} {L D X : List Int} (hl : L.length = D.length) (hD : ∀ d ∈ D, 1 ≤ d) : (offsA (restA c (axesL L D))).flatMap (fun o => getL wd X (startA c (axesL L D) + o).toNat) = fixX wd c L D X := by
  have hd : ∀ a ∈ restA c (axesL L D), 1 ≤ a.2.1 := fun a ha => by
    have h1 : a.2.1 ∈ dimsA (restA c (axesL L D)) := List.mem_map_of_mem ha
    rw [(rest_axes c L D hl).2] at h1
    exact hD _ ((fixD_sub hl).subset h1)
  rw [offsA_is _ _ rfl hd, (rest_axes c L D hl).2, List.flatMap_map]
  unfold fixX gatherL
  refine congrArg List.flatten (List.map_congr_left ?_)
  intro m _
  unfold fixF
  rw [offI_fill c L D _ hl (by rw [idxL_len, fixD_len, freeC_fix])]
theorem offs_fix {c : Int → Option Int} {L D : List Int} (hl : L.length = D.length) (hc : OkC (L.map c) D) (hD : ∀ d ∈ D, 1 ≤ d) : ∀ o ∈ offsA (restA c (axesL L D)), 0 ≤ startA c (axesL L D) + o ∧ startA c (axesL L D) + o < prodL D := by
  intro o ho
  have hd : ∀ a ∈ restA c (axesL L D), 1 ≤ a.2.1 := fun a ha => by
    have h1 : a.2.1 ∈ dimsA (restA c (axesL L D)) := List.mem_map_of_mem ha
    rw [(rest_axes c L D hl).2] at h1
    exact hD _ ((fixD_sub hl).subset h1)
  rw [offsA_is _ _ rfl hd, (rest_axes c L D hl).2] at ho
  obtain ⟨m, _, rfl⟩ := List.mem_map.1 ho
  have h1 := fixF_lt hl hc hD m
  rw [← offI_fill c L D _ hl (by rw [idxL_len, fixD_len, freeC_fix])]
  omega
end Go.Proofs.Ytdheakjjnaifkaa
namespace Go.Proofs.Ytdheakjjnaifkaa
set_option maxRecDepth 20000

section
variable {k p q : Int} {L D X : List Int} {wd N : Nat}
theorem TF.dim (h : TF k p q L D X wd N) : ∀ d ∈ D, 1 ≤ d := fun d hd => (h.ax.2.2.2.1 d hd).1
theorem TF.room (h : TF k p q L D X wd N) (o : Nat) (ho : (o : Int) < prodL D) : o * wd + wd ≤ X.length := by
  have h1 := h.pr
  have h3 := Nat.mul_le_mul_right wd (show o + 1 ≤ N by omega)
  rw [Nat.add_mul, Nat.one_mul] at h3
  rw [h.lX]; exact h3
theorem TF.x (h : TF k p q L D X wd N) : X.length ≤ 24576 := by
  rw [h.lX]; exact Nat.le_trans (Nat.mul_le_mul h.n1.2 h.w6.2) (by omega)
theorem TF.yes (h : TF k p q L D X wd N) : tensorB k p q L D X = true := by
  have hs : sizeI L D = prodL D := by
    rcases sizeI_cases L D with ⟨-, h1⟩ | ⟨h1, -⟩
    · exact absurd ⟨axesB_true.2 h.ax, by have := h.pr; have := h.n1; omega⟩ h1
    · exact h1
  have := h.pr
  have := h.n1
  exact tensorB_yes h.rg (by omega) (by rw [hs, h.pr, h.hw, h.lX, Int.natCast_mul]) h.wX
theorem getL_in {t : Int} {X : List Int} (h : Within t X) (wd n : Nat) : Within t (getL wd X n) := fun x hx => h x (List.mem_of_mem_drop (List.mem_of_mem_take hx))
/-- What a slice is. -/
theorem TF.fix (h : TF k p q L D X wd N) {c : Int → Option Int} (hc : OkC (L.map c) D) : TF k p q (fixL c L) (fixD c L D) (fixX wd c L D X) wd (prodL (fixD c L D)).toNat := by
  obtain ⟨a1, a2, a3, a4, a5⟩ := h.ax
  have hsub := fixD_sub (c := c) a2
  have hp1 := prodL_pos (D := fixD c L D) (fun d hd => h.dim d (hsub.subset hd))
  have hp2 := prodL_subD hsub h.dim
  have h3 := h.pr
  have h4 := h.n1
  refine ⟨h.rg, ⟨Nat.le_trans (List.length_filter_le _ _) a1, (fixD_len c L D).symm, fun x hx => a3 x (List.mem_filter.1 hx).1, fun d hd => a4 d (hsub.subset hd), a5.filter _⟩, by omega, by omega, h.hw, h.w6, ?_, ?_⟩
  · exact gather_len _ fun m _ => getL_len (h.room _ (fixF_lt a2 hc h.dim m).2.2)
  · intro x hx
    unfold fixX gatherL at hx
    obtain ⟨m, -, hm⟩ := List.mem_flatMap.1 hx
    exact getL_in h.wX _ _ x hm
end
/-- SliceTensor's answer is yes. -/
noncomputable def sliceB (k p q : Int) (L D X : List Int) (b v : Int) : Bool := tensorB k p q L D X && (decide (b ∈ L) && decide (0 ≤ v ∧ v < D.getD (L.idxOf b) 0))
def FixTo (L D K V : List Int) (i : Nat) : Prop := ∀ (j : Nat) (n v : Int), j < i → K[j]? = some n → V[j]? = some v → n ∉ K.take j → n ∈ L → 0 ≤ v ∧ v < D.getD (L.idxOf n) 0
open Classical in
/-- FixLabels' answer is yes. -/
noncomputable def fixB (k p q : Int) (L D X K V : List Int) : Bool := tensorB k p q L D X && (decide (K.length = V.length) && decide (OkC (L.map (cK K V)) D))
theorem ok_of_fix {L D K V : List Int} (hl : L.length = D.length) (hn : L.Nodup) (hKV : K.length = V.length) (h : FixTo L D K V K.length) : OkC (L.map (cK K V)) D := by
  refine ⟨by rw [List.length_map, hl], fun z v d h1 h2 => ?_⟩
  rw [List.getElem?_map] at h1
  obtain ⟨n, hz, hc⟩ := Option.map_eq_some_iff.1 h1
  by_cases hk : n ∈ K
  · rw [cK_some hk] at hc
    have hi := List.idxOf_lt_length_iff.2 hk
    have hm : n ∉ K.take (K.idxOf n) := fun hm => by
      have h3 : List.idxOf n K = List.idxOf n (K.take (K.idxOf n) ++ K.drop (K.idxOf n)) := by rw [List.take_append_drop]
      rw [List.idxOf_append, if_pos hm] at h3
      have h4 := List.idxOf_lt_length_iff.2 hm
      rw [List.length_take] at h4
      omega
    have h5 := h (K.idxOf n) n v hi (at_idxOf hk) (by
      have e : V[K.idxOf n]? = some V[K.idxOf n] := List.getElem?_eq_getElem (by omega)
      injection hc with hc
      rw [getD_at e] at hc
      rw [e, hc]) hm (List.mem_of_getElem? hz)
    rw [idxOf_at hn hz, getD_at h2] at h5
    exact h5
  · rw [cK_none hk] at hc; cases hc
theorem fix_of_ok {L D K V : List Int} (hl : L.length = D.length) (h : OkC (L.map (cK K V)) D) (i : Nat) : FixTo L D K V i := by
  intro j n v _ hn hv hm hL
  have hz := at_idxOf hL
  have hk : n ∈ K := List.mem_of_getElem? hn
  have hlt := (List.getElem?_eq_some_iff.1 hz).1
  have hd : D[L.idxOf n]? = some (D.getD (L.idxOf n) 0) := by
    rw [List.getD_eq_getElem?_getD, List.getElem?_eq_getElem (by omega)]; rfl
  have hj : K.idxOf n = j := by
    have h3 : List.idxOf n K = List.idxOf n (K.take j ++ K.drop j) := by rw [List.take_append_drop]
    rw [List.idxOf_append, if_neg hm] at h3
    have hjl := (List.getElem?_eq_some_iff.1 hn).1
    have hdr : K.drop j = n :: K.drop (j + 1) := by
      rw [List.drop_eq_getElem_cons hjl]
      rw [List.getElem?_eq_getElem hjl] at hn
      injection hn with hn
      rw [hn]
    rw [hdr, List.idxOf_cons_self, List.length_take] at h3
    omega
  exact h.2 (L.idxOf n) v _ (by rw [List.getElem?_map, hz, Option.map_some, cK_some hk, hj, getD_at hv]) hd
theorem ok_not {L D K V : List Int} {z : Nat} {n d v : Int} (hz : L[z]? = some n) (hd : D[z]? = some d) (hn : cK K V n = some v) (h : ¬ (0 ≤ v ∧ v < d)) : ¬ OkC (L.map (cK K V)) D := fun hc =>
  h (hc.2 z v d (by rw [List.getElem?_map, hz, Option.map_some, hn]) hd)
/-- A slice of what is left: the value is in range. -/
theorem ok_one {L D : List Int} {b v : Int} (hl : L.length = D.length) (hn : L.Nodup) (h : b ∈ L → 0 ≤ v ∧ v < D.getD (L.idxOf b) 0) : OkC (L.map (cK [b] [v])) D := by
  refine ok_of_fix hl hn rfl fun j n u hj hnn hu hm hL => ?_
  have : j = 0 := by simpa using hj
  subst this
  simp at hnn hu
  subst hnn hu
  exact h hL
/-- Where a label lies among those that are left. -/
theorem left_at (c : Int → Option Int) {n : Int} (hc : c n = none) : ∀ (L D : List Int), L.length = D.length → n ∈ L → (fixD c L D).getD ((fixL c L).idxOf n) 0 = D.getD (L.idxOf n) 0 := by
  intro L
  induction L with
  | nil => intro D _ h; simp at h
  | cons m L ih =>
    intro D hl hm
    cases D with
    | nil => simp at hl
    | cons d D =>
      have hl' : L.length = D.length := by simpa using hl
      by_cases e : m = n
      · subst e
        rw [fixL_cons_none hc]
        unfold fixD
        simp [hc, leftC]
      · have hm' : n ∈ L := by
          rcases List.mem_cons.1 hm with h | h
          · exact absurd h.symm e
          · exact h
        have h1 := ih D hl' hm'
        rw [List.idxOf_cons, cond_eq_ite, if_neg (by simpa using e)]
        cases hcm : c m with
        | some v =>
          rw [fixL_cons_some hcm]
          unfold fixD at h1 ⊢
          simp only [List.map_cons, hcm, leftC, List.tail_cons]
          rw [h1]; simp
        | none =>
          rw [fixL_cons_none hcm, List.idxOf_cons, cond_eq_ite, if_neg (by simpa using e)]
          unfold fixD at h1 ⊢
          simp only [List.map_cons, hcm, leftC, List.tail_cons, List.headD_cons]
          simpa using h1
/-- The next slice is one of what is left. -/
theorem fix_next {L D K V : List Int} {i : Nat} {n v : Int} (hl : L.length = D.length) (h : OkC (L.map (cK K V)) D) (hn : K[i]? = some n) (hv : V[i]? = some v) (hm : n ∈ fixL (cK (K.take i) (V.take i)) L) : 0 ≤ v ∧ v < (fixD (cK (K.take i) (V.take i)) L D).getD ((fixL (cK (K.take i) (V.take i)) L).idxOf n) 0 := by
  have h1 := List.mem_filter.1 hm
  have hi := (List.getElem?_eq_some_iff.1 hn).1
  have hk : n ∉ K.take i := fun hk => by
    have h2 := h1.2
    rw [cK_some hk] at h2
    cases h2
  rw [left_at _ (cK_none hk) L D hl h1.1]
  exact fix_of_ok hl h (i + 1) i n v (by omega) hn hv hk h1.1
theorem ok_take {L D K V : List Int} (hl : L.length = D.length) (hnd : L.Nodup) (hKV : K.length = V.length) (h : OkC (L.map (cK K V)) D) (i : Nat) : OkC (L.map (cK (K.take i) (V.take i))) D := by
  refine ok_of_fix hl hnd (by rw [List.length_take, List.length_take, hKV]) fun j n v hj hn hv hm hL => ?_
  rw [List.length_take] at hj
  rw [List.getElem?_take_of_lt (by omega)] at hn hv
  rw [List.take_take, Nat.min_eq_left (by omega)] at hm
  exact fix_of_ok hl h (j + 1) j n v (by omega) hn hv hm hL
end Go.Proofs.Ytdheakjjnaifkaa
namespace Go.Proofs.Ytdheakjjnaifkaa
set_option maxRecDepth 20000

/-- Element after element, of each of the layers. -/
def stackL (wd N : Nat) (Ys : List (List Int)) : List Int := gatherL (fun n => Ys.flatMap fun Y => getL wd Y n) N
def stackTo (wd : Nat) (Ys : List (List Int)) (n : Nat) : List Int := getL wd (Ys.getD (n % Ys.length) []) (n / Ys.length)
theorem flatMap_range {α β : Type} (d : α) (l : List α) (f : α → List β) : l.flatMap f = (List.range l.length).flatMap fun i => f (l.getD i d) := by
  have e : l = (List.range l.length).map fun i => l.getD i d := by
    apply List.ext_getElem?
    intro i
    rw [List.getElem?_map]
    by_cases hi : i < l.length
    · rw [List.getElem?_range hi, List.getElem?_eq_getElem hi]
      simp [List.getD_eq_getElem?_getD, hi]
    · rw [List.getElem?_eq_none (by omega), List.getElem?_eq_none (by simp; omega)]; rfl
  conv => lhs; rw [e]
  rw [List.flatMap_map]
theorem stack_is (wd N : Nat) (Ys : List (List Int)) (hY : 1 ≤ Ys.length) : stackL wd N Ys = gatherL (stackTo wd Ys) (N * Ys.length) := by
  unfold stackL gatherL
  rw [range_mul, List.flatMap_assoc]
  refine congrArg List.flatten (List.map_congr_left ?_)
  intro n _
  rw [flatMap_range [] Ys, List.flatMap_map]
  refine congrArg List.flatten (List.map_congr_left ?_)
  intro v hv
  have hv' := List.mem_range.1 hv
  unfold stackTo
  rw [Nat.add_comm, Nat.add_mul_mod_self_right, Nat.mod_eq_of_lt hv', Nat.add_mul_div_right _ _ (by omega), Nat.div_eq_of_lt hv', Nat.zero_add]
theorem fixD_via {c : Int → Option Int} {L D : List Int} (hn : L.Nodup) (hl : L.length = D.length) : fixD c L D = dimsVia L D (fixL c L) := by
  apply List.ext_getElem?
  intro j
  by_cases hj : j < (fixL c L).length
  · have h1 : (fixL c L)[j]? = some (fixL c L)[j] := List.getElem?_eq_getElem hj
    obtain ⟨n, hn1⟩ : ∃ n, n = (fixL c L)[j] := ⟨_, rfl⟩
    rw [← hn1] at h1
    have hm := List.mem_filter.1 (List.mem_of_getElem? h1)
    have hc : c n = none := by have := hm.2; cases h : c n <;> simp_all
    have h2 := left_at c hc L D hl hm.1
    have hnf : (fixL c L).Nodup := hn.filter _
    rw [idxOf_at hnf h1] at h2
    unfold dimsVia
    rw [List.getElem?_map, h1, Option.map_some, ← h2, List.getElem?_eq_getElem (by rw [fixD_len]; exact hj)]
    simp [List.getD_eq_getElem?_getD, fixD_len, hj]
  · rw [List.getElem?_eq_none (by rw [fixD_len]; omega), List.getElem?_eq_none (by simp [dimsVia]; omega)]
theorem fixL_ex (L : List Int) (b v : Int) : fixL (cK [b] [v]) L = exL L b := fixL_one L b v
theorem fixD_ex {L D : List Int} (hn : L.Nodup) (hl : L.length = D.length) (b v : Int) : fixD (cK [b] [v]) L D = exD L D b := by
  rw [fixD_via hn hl, fixL_ex]; rfl
/-- One slice more: what the lists say so far. -/
theorem fix_more {k p q : Int} {wd N : Nat} {L D X K V : List Int} {i : Nat} {n v : Int} (h : TF k p q L D X wd N) (hKV : K.length = V.length) (hok : OkC (L.map (cK K V)) D) (hn : K[i]? = some n) (hv : V[i]? = some v) (hm : n ∈ fixL (cK (K.take i) (V.take i)) L) :
    exL (fixL (cK (K.take i) (V.take i)) L) n = fixL (cK (K.take (i + 1)) (V.take (i + 1))) L ∧ exD (fixL (cK (K.take i) (V.take i)) L) (fixD (cK (K.take i) (V.take i)) L D) n = fixD (cK (K.take (i + 1)) (V.take (i + 1))) L D ∧ fixX wd (cK [n] [v]) (fixL (cK (K.take i) (V.take i)) L) (fixD (cK (K.take i) (V.take i)) L D) (fixX wd (cK (K.take i) (V.take i)) L D X) = fixX wd (cK (K.take (i + 1)) (V.take (i + 1))) L D X := by
  have hl := h.ax.2.1
  have hnd := h.ax.2.2.2.2
  have h1 := ok_take hl hnd hKV hok i
  have h2 := fix_next hl hok hn hv hm
  have hf := h.fix h1
  have h3 : OkC ((fixL (cK (K.take i) (V.take i)) L).map (cK [n] [v])) (fixD (cK (K.take i) (V.take i)) L D) := ok_one hf.ax.2.1 hf.ax.2.2.2.2 fun _ => h2
  have e := fun m (_ : m ∈ L) => cK_step hn hv m
  refine ⟨?_, ?_, ?_⟩
  · rw [← fixL_ex _ n v, ← fixL_or]; exact fixL_congr e
  · rw [← fixD_ex hf.ax.2.2.2.2 hf.ax.2.1 n v, ← fixD_or]; exact fixD_congr e
  · rw [fixX_or hl h1 h3 h.dim h.room]; exact fixX_congr e
theorem fix_same {wd : Nat} {L D X K V : List Int} {i : Nat} {n v : Int} (hn : K[i]? = some n) (hv : V[i]? = some v) (hm : n ∉ fixL (cK (K.take i) (V.take i)) L) :
    fixL (cK (K.take i) (V.take i)) L = fixL (cK (K.take (i + 1)) (V.take (i + 1))) L ∧ fixD (cK (K.take i) (V.take i)) L D = fixD (cK (K.take (i + 1)) (V.take (i + 1))) L D ∧ fixX wd (cK (K.take i) (V.take i)) L D X = fixX wd (cK (K.take (i + 1)) (V.take (i + 1))) L D X :=
  ⟨fixL_congr (cK_again hn hv hm), fixD_congr (cK_again hn hv hm), fixX_congr (cK_again hn hv hm)⟩
theorem fix_nil {k p q : Int} {wd N : Nat} {L D X : List Int} (h : TF k p q L D X wd N) (V : List Int) : fixL (cK [] V) L = L ∧ fixD (cK [] V) L D = D ∧ fixX wd (cK [] V) L D X = X := by
  have hl := h.ax.2.1
  have e0 : ∀ n ∈ L, cK [] V n = none := fun n _ => cK_none (by simp)
  have e1 : fixL (cK [] V) L = L := fix_none e0
  have e2 : fixD (cK [] V) L D = D := by
    rw [fixD_via h.ax.2.2.2.2 hl, e1, dims_self h.ax.2.2.2.2 hl]
  refine ⟨e1, e2, ?_⟩
  have hid : ∀ (M ix : List Int), ix.length = M.length → fillC (M.map (cK [] V)) ix = ix := by
    intro M
    induction M with
    | nil => intro ix h; rw [List.eq_nil_of_length_eq_zero h]; rfl
    | cons m M ih =>
      intro ix h
      cases ix with
      | nil => simp at h
      | cons x ix =>
        rw [List.map_cons, cK_none (by simp)]
        simp only [fillC, List.headD_cons, List.tail_cons]
        rw [ih ix (by simpa using h)]
  have hX := gather_self h.lX
  have hN : (prodL D).toNat = N := by have := h.pr; omega
  unfold fixX
  rw [e2, hN]
  conv => rhs; rw [← hX]
  refine gather_congr fun m hm => ?_
  have hm2 : (m : Int) < prodL D := by have := h.pr; omega
  unfold fixF
  rw [e2, hid _ _ (by rw [idxL_len, hl]), off_idx h.dim (by omega) hm2, Int.toNat_natCast]
end Go.Proofs.Ytdheakjjnaifkaa
