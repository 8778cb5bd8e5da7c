
/- The text of tensors as plain mathematics; a row of texts of the call's own that grows. -/
import Derived.Test.YtceidekfcnmeaaaGreatDoorTenFacts
import Derived.Test.YtceidekfcnmeaaaGreatDoorElemText
import Derived.Deep.AppendLies
import Derived.Deep.RegionLaw
namespace Go.Proofs.YtceidekfcnmeaaaGreatDoor
set_option maxRecDepth 20000
open Go.RowKit

/-- The word of an axis, of an element, and all words. -/
def axW (l d : Int) : List UInt8 := joinL [58] (texts [l, d])
def axWs (L D : List Int) : List ByteArray := (L.zip D).map fun z => ⟨(axW z.1 z.2).toArray⟩
def elW (wd : Nat) (X : List Int) (n : Nat) : List UInt8 := joinL [44] (texts (getL wd X n))
def elWs (wd : Nat) (X : List Int) (N : Nat) : List ByteArray := (List.range N).map fun i => ⟨(elW wd X i).toArray⟩
def tenWs (wd N : Nat) (L D X : List Int) : List ByteArray := axWs L D ++ (⟨#[61]⟩ :: elWs wd X N)
noncomputable def fmtTen (k p q : Int) (L D X : List Int) : List UInt8 := if tensorB k p q L D X = true then joinL [32] (tenWs (widthI k q).toNat (prodL D).toNat L D X) else []
theorem fmtTen_no {k p q : Int} {L D X : List Int} (h : tensorB k p q L D X = false) : fmtTen k p q L D X = [] := by simp [fmtTen, h]
theorem fmtTen_yes {k p q : Int} {L D X : List Int} (h : tensorB k p q L D X = true) : fmtTen k p q L D X = joinL [32] (tenWs (widthI k q).toNat (prodL D).toNat L D X) := by simp [fmtTen, h]
theorem axW_eq (l d : Int) : axW l d = Lib.itoa l ++ 58 :: Lib.itoa d := by simp [axW, joinL, texts]
theorem axWs_len {L D : List Int} (h : L.length = D.length) : (axWs L D).length = L.length := by simp [axWs, h]
theorem elWs_len (wd : Nat) (X : List Int) (N : Nat) : (elWs wd X N).length = N := by simp [elWs]
theorem tenWs_len {wd N : Nat} {L D X : List Int} (h : L.length = D.length) : (tenWs wd N L D X).length = L.length + 1 + N := by
  rw [tenWs, List.length_append, List.length_cons, axWs_len h, elWs_len]; omega
theorem tenWs_ax {wd N : Nat} {L D X : List Int} (h : L.length = D.length) {j : Nat} {l d : Int} (hl : L[j]? = some l) (hd : D[j]? = some d) : (tenWs wd N L D X)[j]? = some ⟨(axW l d).toArray⟩ := by
  have hj := (List.getElem?_eq_some_iff.1 hl).1
  rw [tenWs, List.getElem?_append_left (by rw [axWs_len h]; exact hj), axWs, List.getElem?_map, show (L.zip D)[j]? = some (l, d) from List.getElem?_zip_eq_some.2 ⟨hl, hd⟩]
  rfl
theorem tenWs_eq {wd N : Nat} {L D X : List Int} (h : L.length = D.length) {m : Nat} (hm : L.length = m) : (tenWs wd N L D X)[m]? = some ⟨#[61]⟩ := by
  rw [tenWs, List.getElem?_append_right (by rw [axWs_len h]; omega), axWs_len h, hm, Nat.sub_self]
  rfl
theorem tenWs_el {wd N : Nat} {L D X : List Int} (h : L.length = D.length) {m n : Nat} (hm : L.length = m) (hn : n < N) : (tenWs wd N L D X)[m + 1 + n]? = some ⟨(elW wd X n).toArray⟩ := by
  rw [tenWs, List.getElem?_append_right (by rw [axWs_len h]; omega), axWs_len h, hm, show m + 1 + n - m = n + 1 from by omega, List.getElem?_cons_succ, elWs, List.getElem?_map, List.getElem?_range hn]
  rfl
theorem strs_next {ss : List ByteArray} {j : Nat} {y : ByteArray} (h : ss[j]? = some y) : strs (ss.take (j + 1)) = strs (ss.take j) ++ [.string y] := by
  rw [List.take_add_one, h]; simp [strs]
theorem joinL_bound (b : UInt8) (c : Nat) : ∀ ss : List ByteArray, (∀ y ∈ ss, y.data.toList.length ≤ c) → (joinL [b] ss).length ≤ ss.length * (c + 1) := by
  intro ss h
  cases ss with
  | nil => simp [joinL]
  | cons x r =>
    have h1 : ∀ r : List ByteArray, (∀ y ∈ r, y.data.toList.length ≤ c) → (r.map fun y => [b] ++ y.data.toList).flatten.length ≤ r.length * (c + 1) := by
      intro r
      induction r with
      | nil => intro _; simp
      | cons y r ih =>
        intro hy
        have h2 := ih fun z hz => hy z (List.mem_cons_of_mem _ hz)
        have h3 := hy y List.mem_cons_self
        rw [List.map_cons, List.flatten_cons, List.length_append, List.length_append, show [b].length = 1 from rfl, show (y :: r).length = r.length + 1 from rfl, Nat.add_mul, Nat.one_mul]
        omega
    have h4 := h1 r fun z hz => h z (List.mem_cons_of_mem _ hz)
    have h5 := h x List.mem_cons_self
    rw [joinL, List.length_append, show (x :: r).length = r.length + 1 from rfl, Nat.add_mul, Nat.one_mul]
    omega
theorem allI_pair {l d : Int} (h1 : inI l) (h2 : inI d) : allI [l, d] := by
  intro z hz
  simp only [List.mem_cons, List.not_mem_nil, or_false] at hz
  rcases hz with rfl | rfl
  · exact h1
  · exact h2
theorem allI_get {wd n : Nat} {X : List Int} (h : allI X) : allI (getL wd X n) := fun z hz => by
  unfold getL at hz
  exact h z (List.mem_of_mem_drop (List.mem_of_mem_take hz))
theorem axW_len {l d : Int} (h1 : inI l) (h2 : inI d) : (axW l d).length ≤ 42 := by
  have h := join_len 58 [l, d] (allI_pair h1 h2)
  simpa [axW] using h
theorem elW_len {wd n : Nat} {X : List Int} (h : allI X) (hl : n * wd + wd ≤ X.length) (h6 : wd ≤ 6) : (elW wd X n).length ≤ 126 := by
  have h1 := join_len 44 (getL wd X n) (allI_get h)
  rw [getL_len hl] at h1
  unfold elW
  omega
theorem tenWs_small {wd N : Nat} {L D X : List Int} (hI : allI L) (hJ : allI D) (hK : allI X) (h6 : wd ≤ 6) (hX : X.length = N * wd) : ∀ y ∈ tenWs wd N L D X, y.data.toList.length ≤ 126 := by
  intro y hy
  rw [tenWs] at hy
  rcases List.mem_append.1 hy with hy | hy
  · obtain ⟨z, hz, rfl⟩ := List.mem_map.1 hy
    have h := axW_len (hI z.1 (List.of_mem_zip hz).1) (hJ z.2 (List.of_mem_zip hz).2)
    show (axW z.1 z.2).length ≤ 126
    omega
  · rcases List.mem_cons.1 hy with rfl | hy
    · show (1 : Nat) ≤ 126; omega
    · obtain ⟨n, hn, rfl⟩ := List.mem_map.1 hy
      have hn := List.mem_range.1 hn
      have h1 := Nat.mul_le_mul_right wd (show n + 1 ≤ N by omega)
      rw [Nat.add_mul, Nat.one_mul] at h1
      exact elW_len hK (by omega) h6
theorem tenWs_join {wd N : Nat} {L D X : List Int} (h : L.length = D.length) (h12 : L.length ≤ 12) (hN : N ≤ 4096) (hI : allI L) (hJ : allI D) (hK : allI X) (h6 : wd ≤ 6) (hX : X.length = N * wd) : (joinL [32] (tenWs wd N L D X)).length ≤ 70368744177664 := by
  have h1 := joinL_bound 32 126 _ (tenWs_small hI hJ hK h6 hX)
  rw [tenWs_len h] at h1
  have h2 := Nat.mul_le_mul_right 127 (show L.length + 1 + N ≤ 4109 by omega)
  omega

/-- A row of texts of the call's own, behind a world. -/
structure StrS (w0 wr : World) (v : Value) (n : Nat) (ss : List ByteArray) : Prop where
  bel : Below w0.heap.size w0 wr
  own : wr.ownsRow w0.heap.size 9 1 v n (strs ss)
section
variable {w0 W W' : World} {v : Value} {n : Nat} {ss : List ByteArray}
theorem StrS.nil (hb : Below w0.heap.size w0 W) : StrS w0 W (.slice none 0 0) 0 [] := ⟨hb, World.ownsRow_nil _ _ _ _⟩
theorem StrS.made (hb : Below w0.heap.size w0 W) : StrS w0 (W.alloc (.cells #[] 9)) (.slice (some ⟨W.heap.size, 0, none⟩) 0 0) 0 [] := ⟨hb.alloc hb.size _, World.ownsRow_lit (base := w0.heap.size) (e := 9) (size := 1) W #[] 0 hb.size (by unfold maxLen; omega) rfl⟩
theorem StrS.step (h : StrS w0 W v n ss) (hb : Below W.heap.size W W') : StrS w0 W' v n ss := ⟨h.bel.trans (hb.mono h.bel.size), own_below h.own hb⟩
theorem StrS.drew (h : StrS w0 W v n ss) : StrS w0 W.drew v n ss := h.step (Below.drew (Below.refl _ _))
theorem StrS.litX (h : StrS w0 W v n ss) (s : ByteArray) (T : TypeId) : ∃ WX g, W.alloc (.cells #[.string s] T) = WX ∧ W.heap.size = g ∧ StrS w0 WX v n ss ∧ ∀ (j : Nat) (u : Value), [Value.string s][j]? = some u → WX.cell? ((⟨g, 0, none⟩ : Addr).add j) = some u := by
  refine ⟨_, _, rfl, rfl, h.step ((Below.refl _ _).alloc (Nat.le_refl _) _), fun j u hu => ?_⟩
  have hj : j = 0 := by
    have := (List.getElem?_eq_some_iff.1 hu).1
    simp at this
    omega
  subst hj
  have e : ((⟨W.heap.size, 0, none⟩ : Addr).add 0) = ⟨W.heap.size, 0, none⟩ := by unfold Addr.add; split <;> simp_all
  rw [e, ← hu]
  simp [World.cell?_alloc_at]
theorem StrS.app {g cap : Nat} {s : ByteArray} (h : StrS w0 W v n ss) (ho : W'.ownsRow w0.heap.size 9 1 (.slice (some ⟨g, 0, none⟩) (n + 1) cap) (n + 1) (strs ss ++ [.string s])) (hg : W.grownBy W' v.ownBlock) : StrS w0 W' (.slice (some ⟨g, 0, none⟩) (n + 1) cap) (n + 1) (ss ++ [s]) := by
  refine ⟨h.bel.grown hg h.bel.size (fun k hk => (h.own.lt k hk).1), ?_⟩
  have e : strs (ss ++ [s]) = strs ss ++ [.string s] := by simp [strs]
  rw [e]; exact ho
theorem StrS.appV {v' : Value} {s : ByteArray} {T : TypeId} (h : StrS w0 W v n ss) (ho : W'.ownsRow w0.heap.size 9 1 v' (n + 1) (strs ss ++ [.string s])) (hg : (W.alloc (.cells #[.string s] T)).grownBy W' v.ownBlock) : StrS w0 W' v' (n + 1) (ss ++ [s]) := by
  have h1 := h.step ((Below.refl _ _).alloc (Nat.le_refl _) (.cells #[.string s] T))
  refine ⟨h1.bel.grown hg h1.bel.size (fun k hk => (h.own.lt k hk).1), ?_⟩
  have e : strs (ss ++ [s]) = strs ss ++ [.string s] := by simp [strs]
  rw [e]; exact ho
theorem StrS.rd (h : StrS w0 W v n ss) : Rd W.heap.size W v (strs ss) := Rd.of_own h.own
end
theorem one_str (s : ByteArray) : ∀ u ∈ [Value.string s], u.oneCell' = true := by
  intro u hu
  simp only [List.mem_cons, List.not_mem_nil, or_false] at hu
  subst hu; rfl
end Go.Proofs.YtceidekfcnmeaaaGreatDoor
