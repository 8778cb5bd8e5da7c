
/- Reading the text of a tensor as plain mathematics. -/
import Derived.Test.YtceidekfcnmeaaaGreatDoorTenText
import Derived.Test.YtceidekfcnmeaaaGreatDoorWords
import Derived.Test.YtceidekfcnmeaaaGreatDoorImplParse
import Derived.Test.YtceidekfcnmeaaaGreatDoorAppZero
namespace Go.Proofs.YtceidekfcnmeaaaGreatDoor
set_option maxRecDepth 20000
open Go Go.RowKit

theorem cut_tailW (c : UInt8) (r : List ByteArray) (h : ∀ y ∈ r, ∀ x ∈ y.data.toList, x.toNat ≠ c.toNat) : ∀ (ps : List (List UInt8)) (cur : List UInt8), (cfold c.toNat (ps, cur) ((r.map fun y => [c] ++ y.data.toList).flatten)).1 ++ [(cfold c.toNat (ps, cur) ((r.map fun y => [c] ++ y.data.toList).flatten)).2] = ps ++ cur :: r.map fun p => p.data.toList := by
  induction r with
  | nil => intro ps cur; rfl
  | cons z r ih =>
    intro ps cur
    rw [List.map_cons, List.flatten_cons, List.append_assoc, cfold_app, cfold_hit _ c rfl, cfold_app, cfold_none _ _ (h z List.mem_cons_self), ih fun y hy => h y (List.mem_cons_of_mem _ hy)]
    simp
/-- Joined words, cut again. -/
theorem cut_words (c : UInt8) {ws : List ByteArray} (h0 : ws ≠ []) (h : ∀ y ∈ ws, ∀ x ∈ y.data.toList, x.toNat ≠ c.toNat) : cutL c.toNat (joinL [c] ws) = ws.map fun p => p.data.toList := by
  cases ws with
  | nil => exact absurd rfl h0
  | cons y r =>
    unfold cutL joinL
    rw [cfold_app, cfold_none _ _ (h y List.mem_cons_self), cut_tailW c r fun z hz => h z (List.mem_cons_of_mem _ hz)]
    rfl
theorem parts_join (c : UInt8) {ws : List ByteArray} (h0 : ws ≠ []) (h : ∀ y ∈ ws, ∀ x ∈ y.data.toList, x.toNat ≠ c.toNat) {s : ByteArray} (hs : s.data.toList = joinL [c] ws) : parts s c.toNat = ws :=
  bytes_inj (by rw [parts_cut, hs, cut_words c h0 h])
theorem words_join {ws : List ByteArray} (h0 : ws ≠ []) (h : ∀ y ∈ ws, full y = true ∧ ∀ x ∈ y.data.toList, x.toNat ≠ 32) {s : ByteArray} (hs : s.data.toList = joinL [32] ws) : wordsOf s = ws := by
  unfold wordsOf
  rw [show (32 : Nat) = (32 : UInt8).toNat from rfl, parts_join 32 h0 (fun y hy => (h y hy).2) hs]
  exact List.filter_eq_self.2 fun y hy => (h y hy).1
theorem itoa_byte (n : Int) : ∀ c ∈ Lib.itoa n, c.toNat = 45 ∨ (48 ≤ c.toNat ∧ c.toNat ≤ 57) := by
  intro c hc
  rcases itoa_shape n with e | e
  · rw [e] at hc; have := digs_dec _ c hc; omega
  · rw [e] at hc
    rcases List.mem_cons.1 hc with rfl | hc
    · exact .inl rfl
    · have := digs_dec _ c hc; omega
theorem joinL_mem {b : List UInt8} {ws : List ByteArray} {x : UInt8} (h : x ∈ joinL b ws) : x ∈ b ∨ ∃ y ∈ ws, x ∈ y.data.toList := by
  cases ws with
  | nil => simp [joinL] at h
  | cons y r =>
    rw [joinL] at h
    rcases List.mem_append.1 h with h | h
    · exact .inr ⟨y, List.mem_cons_self, h⟩
    · obtain ⟨l, hl, hx⟩ := List.mem_flatten.1 h
      obtain ⟨z, hz, rfl⟩ := List.mem_map.1 hl
      rcases List.mem_append.1 hx with hx | hx
      · exact .inl hx
      · exact .inr ⟨z, List.mem_cons_of_mem _ hz, hx⟩
theorem texts_byte {zs : List Int} : ∀ y ∈ texts zs, ∀ x ∈ y.data.toList, x.toNat = 45 ∨ (48 ≤ x.toNat ∧ x.toNat ≤ 57) := by
  intro y hy x hx
  obtain ⟨z, -, rfl⟩ := List.mem_map.1 hy
  exact itoa_byte z x hx
theorem join_byte {c : UInt8} {zs : List Int} : ∀ x ∈ joinL [c] (texts zs), x = c ∨ x.toNat = 45 ∨ (48 ≤ x.toNat ∧ x.toNat ≤ 57) := by
  intro x hx
  rcases joinL_mem hx with h | ⟨y, hy, h⟩
  · exact .inl (by simpa using h)
  · exact .inr (texts_byte y hy x h)

/-- The integers of a text that is cut at a byte; none if one of its parts is no integer. -/
def siL (c : Nat) (s : ByteArray) : List Int := if (parts s c).all (fun p => (pv p).isSome) = true then (parts s c).filterMap pv else []
theorem siL_of {c : Nat} {s : ByteArray} {zs : List Int} {b : Bool} (h : SI c s zs b) : zs = siL c s := by
  unfold siL
  rcases h with ⟨-, h⟩ | ⟨-, rfl, p, hp, hn⟩
  · have h1 : (parts s c).all (fun p => (pv p).isSome) = true := by
      rw [List.all_eq_true]
      intro p hp
      have h2 : pv p ∈ (parts s c).map pv := List.mem_map_of_mem hp
      rw [h] at h2
      obtain ⟨z, -, e⟩ := List.mem_map.1 h2
      rw [← e]; rfl
    have h2 : (parts s c).filterMap pv = ((parts s c).map pv).filterMap id := by rw [List.filterMap_map]; rfl
    rw [if_pos h1, h2, h, List.filterMap_map]
    exact (List.filterMap_some).symm
  · rw [if_neg]
    intro h
    have := List.all_eq_true.1 h p hp
    rw [hn] at this
    cases this
theorem pval_text {zs : List Int} (h : allI zs) : (texts zs).map pv = zs.map some := by
  unfold texts
  rw [List.map_map]
  exact List.map_congr_left fun z hz => pval_some (h z hz)
theorem siL_join {c : UInt8} (hc : c.toNat ≠ 45 ∧ (c.toNat < 48 ∨ 57 < c.toNat)) {zs : List Int} (hz : zs ≠ []) (hI : allI zs) {s : ByteArray} (hs : s.data.toList = joinL [c] (texts zs)) : SI c.toNat s zs true :=
  .inl ⟨rfl, by rw [parts_join c (by simpa [texts] using hz) (fun y hy x hx => by have := texts_byte y hy x hx; omega) hs, pval_text hI]⟩
theorem pval_inI {l : List UInt8} {n : Int} (h : pval l = some n) : inI n := by
  by_cases hx : ∃ m, inI m ∧ l = Lib.itoa m
  · obtain ⟨m, h1, rfl⟩ := hx
    rw [pval_some h1] at h
    cases h; exact h1
  · rw [pval_none fun m hm e => hx ⟨m, hm, e⟩] at h
    cases h
theorem SI.inI {c : Nat} {s : ByteArray} {zs : List Int} {b : Bool} (h : SI c s zs b) : allI zs := by
  intro z hz
  rcases h with ⟨-, h⟩ | ⟨-, rfl, -⟩
  · have h1 : some z ∈ zs.map some := List.mem_map_of_mem hz
    rw [← h] at h1
    obtain ⟨p, -, e⟩ := List.mem_map.1 h1
    exact pval_inI e
  · cases hz
theorem siL_len (c : Nat) (s : ByteArray) : (siL c s).length ≤ (parts s c).length := by
  unfold siL
  split
  · exact List.length_filterMap_le _ _
  · exact Nat.zero_le _
theorem siL_inI (c : Nat) (s : ByteArray) : allI (siL c s) := by
  intro z hz
  unfold siL at hz
  split at hz
  · obtain ⟨p, -, e⟩ := List.mem_filterMap.1 hz
    exact pval_inI e
  · cases hz

/-- The integers of all words. -/
def intsW (c : Nat) (ws : List ByteArray) : List Int := ws.flatMap (siL c)
theorem intsW_next {c : Nat} {ws : List ByteArray} {j : Nat} {y : ByteArray} (h : ws[j]? = some y) : intsW c (ws.take (j + 1)) = intsW c (ws.take j) ++ siL c y := by
  unfold intsW
  rw [List.take_add_one, h, List.flatMap_append]
  simp
/-- Those at even and at odd places. -/
def evK (k : Nat) (l : List Int) : List Int := ((l.zipIdx k).filter fun z => z.2 % 2 == 0).map (·.1)
def odK (k : Nat) (l : List Int) : List Int := ((l.zipIdx k).filter fun z => !(z.2 % 2 == 0)).map (·.1)
theorem ev_next {l : List Int} {j : Nat} {x : Int} (h : l[j]? = some x) : evK 0 (l.take (j + 1)) = evK 0 (l.take j) ++ (if j % 2 = 0 then [x] else []) := by
  have hj := (List.getElem?_eq_some_iff.1 h).1
  unfold evK
  rw [List.take_add_one, h, List.zipIdx_append, List.filter_append, List.map_append, List.length_take, Nat.min_eq_left (by omega), Nat.zero_add]
  congr 1
  by_cases e : j % 2 = 0 <;> simp [e]
theorem od_next {l : List Int} {j : Nat} {x : Int} (h : l[j]? = some x) : odK 0 (l.take (j + 1)) = odK 0 (l.take j) ++ (if j % 2 = 0 then [] else [x]) := by
  have hj := (List.getElem?_eq_some_iff.1 h).1
  unfold odK
  rw [List.take_add_one, h, List.zipIdx_append, List.filter_append, List.map_append, List.length_take, Nat.min_eq_left (by omega), Nat.zero_add]
  congr 1
  by_cases e : j % 2 = 0 <;> simp [e]
theorem ev_len (k : Nat) (l : List Int) : (evK k l).length ≤ l.length := by
  unfold evK
  rw [List.length_map]
  refine Nat.le_trans (List.length_filter_le _ _) ?_
  rw [List.length_zipIdx]; exact Nat.le_refl _
theorem od_len (k : Nat) (l : List Int) : (odK k l).length ≤ l.length := by
  unfold odK
  rw [List.length_map]
  refine Nat.le_trans (List.length_filter_le _ _) ?_
  rw [List.length_zipIdx]; exact Nat.le_refl _
theorem ev_inI {k : Nat} {l : List Int} (h : allI l) : allI (evK k l) := by
  intro z hz
  obtain ⟨p, hp, rfl⟩ := List.mem_map.1 hz
  have h1 := List.mem_map_of_mem (f := Prod.fst) (List.mem_filter.1 hp).1
  rw [List.zipIdx_map_fst] at h1
  exact h _ h1
theorem od_inI {k : Nat} {l : List Int} (h : allI l) : allI (odK k l) := by
  intro z hz
  obtain ⟨p, hp, rfl⟩ := List.mem_map.1 hz
  have h1 := List.mem_map_of_mem (f := Prod.fst) (List.mem_filter.1 hp).1
  rw [List.zipIdx_map_fst] at h1
  exact h _ h1
theorem turn_pairs (ps : List (Int × Int)) : ∀ i : Nat, evK (2 * i) (ps.flatMap fun z => [z.1, z.2]) = ps.map (·.1) ∧ odK (2 * i) (ps.flatMap fun z => [z.1, z.2]) = ps.map (·.2) := by
  induction ps with
  | nil => intro i; exact ⟨rfl, rfl⟩
  | cons z r ih =>
    intro i
    obtain ⟨h1, h2⟩ := ih (i + 1)
    have e : (z :: r).flatMap (fun z => [z.1, z.2]) = z.1 :: z.2 :: r.flatMap fun z => [z.1, z.2] := by simp
    have m1 : 2 * i % 2 = 0 := by omega
    have m2 : (2 * i + 1) % 2 = 1 := by omega
    have m3 : 2 * i + 1 + 1 = 2 * (i + 1) := by omega
    unfold evK at h1
    unfold odK at h2
    rw [e]
    unfold evK odK
    rw [List.zipIdx_cons, List.zipIdx_cons, m3]
    constructor
    · simp [m1, m2]; exact h1
    · simp [m1, m2]; exact h2

/-- Where the first '=' is. -/
def isEq (y : ByteArray) : Bool := y.data.toList == [61]
def eqIx (ws : List ByteArray) : Nat := ws.findIdx isEq
def parL (s : ByteArray) : List Int := evK 0 (intsW 58 ((wordsOf s).take (eqIx (wordsOf s))))
def parD (s : ByteArray) : List Int := odK 0 (intsW 58 ((wordsOf s).take (eqIx (wordsOf s))))
def parX (s : ByteArray) : List Int := intsW 44 ((wordsOf s).drop (eqIx (wordsOf s) + 1))
noncomputable def parB (k p q : Int) (s : ByteArray) : Bool := decide (eqIx (wordsOf s) < (wordsOf s).length) && (fmtTen k p q (parL s) (parD s) (parX s) == s.data.toList)

/-- The numbers of a valid tensor are ints. -/
theorem ten_inI {k p q : Int} {L D X : List Int} (h : tensorB k p q L D X = true) : allI L ∧ allI D ∧ allI X := by
  have hf := TF.of h
  have ht := ring_top hf.rg
  refine ⟨fun z hz => ?_, fun z hz => ?_, fun z hz => ?_⟩
  · have := hf.ax.2.2.1 z hz; unfold Go.Proofs.YtceidekfcnmeaaaGreatDoor.inI; omega
  · have := hf.ax.2.2.2.1 z hz; unfold Go.Proofs.YtceidekfcnmeaaaGreatDoor.inI; omega
  · have := hf.wX z hz; unfold Go.Proofs.YtceidekfcnmeaaaGreatDoor.inI; omega
theorem gather_getL {wd : Nat} {X : List Int} : ∀ N : Nat, N * wd ≤ X.length → (List.range N).flatMap (getL wd X) = X.take (N * wd) := by
  intro N
  induction N with
  | zero => intro _; simp
  | succ N ih =>
    intro h
    rw [Nat.add_mul, Nat.one_mul] at h ⊢
    rw [List.range_succ, List.flatMap_append, ih (by omega), List.take_add]
    simp [getL]
section
variable {k p q : Int} {L D X : List Int} {s : ByteArray}
theorem ax_word {l d : Int} (hl : inI l) (hd : inI d) : full ⟨(axW l d).toArray⟩ = true ∧ (∀ x ∈ axW l d, x.toNat ≠ 32) ∧ isEq ⟨(axW l d).toArray⟩ = false ∧ siL 58 ⟨(axW l d).toArray⟩ = [l, d] := by
  have h1 := List.length_pos_iff.2 (itoa_ne l)
  refine ⟨?_, fun x hx => ?_, ?_, ?_⟩
  · unfold full
    refine decide_eq_true ?_
    show 0 < (axW l d).toArray.size
    rw [List.size_toArray, axW_eq, List.length_append]; omega
  · rcases join_byte x hx with rfl | h
    · decide
    · omega
  · unfold isEq
    refine beq_eq_false_iff_ne.2 fun e => ?_
    have e2 : axW l d = [61] := e
    have e3 := congrArg List.length e2
    rw [axW_eq, List.length_append, List.length_cons] at e3
    simp at e3
    omega
  · exact (siL_of (siL_join (c := 58) (by decide) (by simp) (allI_pair hl hd) rfl)).symm
theorem el_word {wd n : Nat} (h : allI X) (hl : n * wd + wd ≤ X.length) (h1 : 1 ≤ wd) : full ⟨(elW wd X n).toArray⟩ = true ∧ (∀ x ∈ elW wd X n, x.toNat ≠ 32) ∧ SI 44 ⟨(elW wd X n).toArray⟩ (getL wd X n) true := by
  have hg := getL_len hl
  have hne : getL wd X n ≠ [] := fun e => by rw [e] at hg; simp at hg; omega
  refine ⟨?_, fun x hx => ?_, siL_join (c := 44) (by decide) hne (allI_get h) rfl⟩
  · unfold full
    refine decide_eq_true ?_
    show 0 < (elW wd X n).toArray.size
    rw [List.size_toArray]
    exact join_pos 44 hne
  · rcases join_byte x hx with rfl | h
    · decide
    · omega
/-- The words of a tensor's text. -/
theorem words_of {wd N : Nat} (hf : TF k p q L D X wd N) (hI : allI L ∧ allI D ∧ allI X) (hs : s.data.toList = joinL [32] (tenWs wd N L D X)) : wordsOf s = tenWs wd N L D X := by
  refine words_join (by simp [tenWs]) (fun y hy => ?_) hs
  rw [tenWs] at hy
  rcases List.mem_append.1 hy with hy | hy
  · obtain ⟨z, hz, rfl⟩ := List.mem_map.1 hy
    have h := ax_word (hI.1 z.1 (List.of_mem_zip hz).1) (hI.2.1 z.2 (List.of_mem_zip hz).2)
    exact ⟨h.1, h.2.1⟩
  · rcases List.mem_cons.1 hy with rfl | hy
    · exact ⟨rfl, by decide⟩
    · obtain ⟨n, hn, rfl⟩ := List.mem_map.1 hy
      have hn := List.mem_range.1 hn
      have h1 := Nat.mul_le_mul_right wd (show n + 1 ≤ N by omega)
      rw [Nat.add_mul, Nat.one_mul] at h1
      have h := el_word hI.2.2 (n := n) (wd := wd) (by have := hf.lX; omega) hf.w6.1
      exact ⟨h.1, h.2.1⟩
theorem eqIx_of {wd N : Nat} (hld : L.length = D.length) (hI : allI L ∧ allI D) : eqIx (tenWs wd N L D X) = L.length := by
  unfold eqIx tenWs
  rw [List.findIdx_append]
  have h0 : ∀ y ∈ axWs L D, isEq y = false := fun y hy => by
    obtain ⟨z, hz, rfl⟩ := List.mem_map.1 hy
    exact (ax_word (hI.1 z.1 (List.of_mem_zip hz).1) (hI.2 z.2 (List.of_mem_zip hz).2)).2.2.1
  have h1 : (axWs L D).findIdx isEq = (axWs L D).length := List.findIdx_eq_length.2 h0
  rw [h1, if_neg (Nat.lt_irrefl _), List.findIdx_cons, show isEq ⟨#[61]⟩ = true from rfl]
  simp [axWs_len hld]
theorem flat_same {α : Type} {f g : α → List Int} : ∀ {l : List α}, (∀ x ∈ l, f x = g x) → l.flatMap f = l.flatMap g := by
  intro l
  induction l with
  | nil => intro _; rfl
  | cons a r ih => intro h; rw [List.flatMap_cons, List.flatMap_cons, h a List.mem_cons_self, ih fun x hx => h x (List.mem_cons_of_mem _ hx)]
theorem zip_fst : ∀ {L D : List Int}, L.length = D.length → (L.zip D).map (·.1) = L ∧ (L.zip D).map (·.2) = D := fun h => ⟨List.map_fst_zip (by omega), List.map_snd_zip (by omega)⟩
/-- A tensor's text is read as that tensor. -/
theorem par_is (ht : tensorB k p q L D X = true) (hs : s.data.toList = fmtTen k p q L D X) : wordsOf s = tenWs (widthI k q).toNat (prodL D).toNat L D X ∧ parL s = L ∧ parD s = D ∧ parX s = X ∧ parB k p q s = true := by
  have hf := TF.of ht
  have hI := ten_inI ht
  rw [fmtTen_yes ht] at hs
  obtain ⟨wd, hwd⟩ : ∃ x, x = (widthI k q).toNat := ⟨_, rfl⟩
  obtain ⟨N, hN⟩ : ∃ x, x = (prodL D).toNat := ⟨_, rfl⟩
  have hs0 := hs
  rw [← hwd, ← hN] at hf hs ⊢
  have hld : L.length = D.length := hf.ax.2.1
  have hw := words_of hf hI hs
  have hx := eqIx_of (wd := wd) (N := N) (X := X) hld ⟨hI.1, hI.2.1⟩
  have htk : (tenWs wd N L D X).take L.length = axWs L D := by
    rw [tenWs, List.take_left' (axWs_len hld)]
  have hdr : (tenWs wd N L D X).drop (L.length + 1) = elWs wd X N := by
    rw [tenWs, ← axWs_len hld, List.drop_append]
    simp
  have h58 : intsW 58 (axWs L D) = (L.zip D).flatMap fun z => [z.1, z.2] := by
    unfold intsW axWs
    rw [List.flatMap_map]
    refine flat_same ?_
    intro z hz
    exact (ax_word (hI.1 z.1 (List.of_mem_zip hz).1) (hI.2.1 z.2 (List.of_mem_zip hz).2)).2.2.2
  have h44 : intsW 44 (elWs wd X N) = X := by
    unfold intsW elWs
    rw [List.flatMap_map]
    have e : (List.range N).flatMap (fun i => siL 44 ⟨(elW wd X i).toArray⟩) = (List.range N).flatMap (getL wd X) := by
      refine flat_same ?_
      intro n hn
      have hn := List.mem_range.1 hn
      have h1 := Nat.mul_le_mul_right wd (show n + 1 ≤ N by omega)
      rw [Nat.add_mul, Nat.one_mul] at h1
      exact (siL_of (el_word hI.2.2 (n := n) (wd := wd) (by have := hf.lX; omega) hf.w6.1).2.2).symm
    rw [e, gather_getL N (by rw [hf.lX]; exact Nat.le_refl _), ← hf.lX, List.take_length]
  have hz := zip_fst hld
  have htp := turn_pairs (L.zip D) 0
  have e1 : parL s = L := by unfold parL; rw [hw, hx, htk, h58]; exact htp.1.trans hz.1
  have e2 : parD s = D := by unfold parD; rw [hw, hx, htk, h58]; exact htp.2.trans hz.2
  have e3 : parX s = X := by unfold parX; rw [hw, hx, hdr, h44]
  refine ⟨hw, e1, e2, e3, ?_⟩
  unfold parB
  rw [e1, e2, e3, hw, hx, fmtTen_yes ht, hs0, tenWs_len hld]
  simp
  omega
/-- Where the text of what was read is the text, it is that of a tensor. -/
theorem par_ok (h : fmtTen k p q L D X = s.data.toList) (h0 : s.data.toList ≠ []) : tensorB k p q L D X = true ∧ parB k p q s = true ∧ parL s = L ∧ parD s = D ∧ parX s = X := by
  cases ht : tensorB k p q L D X with
  | false => rw [fmtTen_no ht] at h; exact absurd h.symm h0
  | true => have h1 := par_is ht h.symm; exact ⟨rfl, h1.2.2.2.2, h1.2.1, h1.2.2.1, h1.2.2.2.1⟩
/-- What is no tensor's text. -/
theorem par_no (h : ∀ L D X, tensorB k p q L D X = true → s.data.toList ≠ fmtTen k p q L D X) (h0 : s.data.toList ≠ []) : parB k p q s = false := by
  cases hb : parB k p q s with
  | false => rfl
  | true =>
    unfold parB at hb
    have h1 : fmtTen k p q (parL s) (parD s) (parX s) = s.data.toList := eq_of_beq (Bool.and_eq_true_iff.1 hb).2
    exact absurd h1.symm (h _ _ _ (par_ok h1 h0).1)
theorem par_none (h0 : s.data.toList = []) : parB k p q s = false := by
  have e : s = ⟨#[]⟩ := by
    apply ByteArray.ext
    apply Array.ext'
    exact h0
  subst e
  rfl
end
theorem parts_small (s : ByteArray) (c : Nat) : (parts s c).length ≤ s.size + 1 := by
  have h := pst_le s c s.size
  unfold parts
  rw [List.length_append, List.length_singleton]; omega
theorem mem_small {l : List ByteArray} {y : ByteArray} {m : Nat} (h : (l.map fun p => p.size + 1).sum ≤ m) (hy : y ∈ l) : y.size + 1 ≤ m := by
  induction l with
  | nil => cases hy
  | cons a r ih =>
    rw [List.map_cons, List.sum_cons] at h
    rcases List.mem_cons.1 hy with rfl | hy
    · omega
    · exact ih (by omega) hy
/-- All parts together are as long as the text, and one a part less one. -/
theorem cfold_sum (c : Nat) (l : List UInt8) : ∀ ps cur, (((cfold c (ps, cur) l).1.map fun p => p.length + 1).sum + (cfold c (ps, cur) l).2.length) = (ps.map fun p => p.length + 1).sum + cur.length + l.length := by
  induction l with
  | nil => intro ps cur; simp [cfold]
  | cons x r ih =>
    intro ps cur
    have e : cfold c (ps, cur) (x :: r) = cfold c (cstep c (ps, cur) x) r := rfl
    rw [e]
    unfold cstep
    split
    · rw [ih]; simp; omega
    · rw [ih]; simp; omega
theorem parts_sum (s : ByteArray) (c : Nat) : ((parts s c).map fun p => p.size + 1).sum = s.size + 1 := by
  have h1 := parts_cut s c
  have h2 := cfold_sum c s.data.toList [] []
  have e : ((parts s c).map fun p => p.size + 1) = ((parts s c).map fun p => p.data.toList).map fun q => q.length + 1 := by
    rw [List.map_map]
    refine List.map_congr_left fun p _ => ?_
    simp
  rw [e, h1]
  unfold cutL
  rw [List.map_append, List.sum_append]
  simp only [List.map_nil, List.sum_nil, List.sum_cons, List.map_cons, List.length_nil, Nat.zero_add, Nat.add_zero] at h2 ⊢
  have e3 : s.data.toList.length = s.size := by simp
  omega
theorem sum_filter (f : ByteArray → Bool) (g : ByteArray → Nat) (l : List ByteArray) : ((l.filter f).map g).sum ≤ (l.map g).sum := by
  induction l with
  | nil => simp
  | cons a r ih =>
    rw [List.map_cons, List.sum_cons, List.filter_cons]
    split
    · rw [List.map_cons, List.sum_cons]; omega
    · omega
theorem words_sum (s : ByteArray) : ((wordsOf s).map fun p => p.size + 1).sum ≤ s.size + 1 := by
  rw [← parts_sum s 32]
  exact sum_filter _ _ _
theorem word_small {s : ByteArray} {y : ByteArray} (hy : y ∈ wordsOf s) : y.size ≤ s.size := by
  have := mem_small (words_sum s) hy
  omega
theorem intsW_len (c : Nat) : ∀ ws : List ByteArray, (intsW c ws).length ≤ (ws.map fun p => p.size + 1).sum := by
  intro ws
  induction ws with
  | nil => simp [intsW]
  | cons y r ih =>
    have h1 := siL_len c y
    have h2 := parts_small y c
    have e : intsW c (y :: r) = siL c y ++ intsW c r := by simp [intsW]
    rw [e, List.length_append, List.map_cons, List.sum_cons]
    omega
theorem sum_take (g : ByteArray → Nat) (l : List ByteArray) (n : Nat) : ((l.take n).map g).sum ≤ (l.map g).sum ∧ ((l.drop n).map g).sum ≤ (l.map g).sum := by
  have h := congrArg (fun x => (List.map g x).sum) (List.take_append_drop n l)
  simp only [List.map_append, List.sum_append] at h
  omega
theorem intsW_all (c : Nat) (ws : List ByteArray) : allI (intsW c ws) := by
  intro z hz
  obtain ⟨y, -, h⟩ := List.mem_flatMap.1 hz
  exact siL_inI c y z h
/-- How much is read. -/
theorem par_len (s : ByteArray) : (intsW 58 ((wordsOf s).take (eqIx (wordsOf s)))).length ≤ s.size + 1 ∧ (parL s).length ≤ s.size + 1 ∧ (parD s).length ≤ s.size + 1 ∧ (parX s).length ≤ s.size + 1 := by
  have h0 := words_sum s
  have h1 := intsW_len 58 ((wordsOf s).take (eqIx (wordsOf s)))
  have h2 := intsW_len 44 ((wordsOf s).drop (eqIx (wordsOf s) + 1))
  have h3 := (sum_take (fun p => p.size + 1) (wordsOf s) (eqIx (wordsOf s))).1
  have h4 := (sum_take (fun p => p.size + 1) (wordsOf s) (eqIx (wordsOf s) + 1)).2
  have h5 := ev_len 0 (intsW 58 ((wordsOf s).take (eqIx (wordsOf s))))
  have h6 := od_len 0 (intsW 58 ((wordsOf s).take (eqIx (wordsOf s))))
  refine ⟨by omega, ?_, ?_, ?_⟩
  · unfold parL; omega
  · unfold parD; omega
  · unfold parX; omega
theorem par_all (s : ByteArray) : allI (parL s) ∧ allI (parD s) ∧ allI (parX s) := ⟨ev_inI (intsW_all _ _), od_inI (intsW_all _ _), intsW_all _ _⟩
end Go.Proofs.YtceidekfcnmeaaaGreatDoor
namespace Go.Proofs.YtceidekfcnmeaaaGreatDoor
set_option maxRecDepth 20000
open Go.RowKit

theorem eqIx_hit {ws : List ByteArray} {j : Nat} {x : ByteArray} (hx : ws[j]? = some x) (he : isEq x = true) (h : ∀ (i : Nat) (y : ByteArray), i < j → ws[i]? = some y → isEq y = false) : eqIx ws = j := by
  have hj := (List.getElem?_eq_some_iff.1 hx).1
  unfold eqIx
  refine (List.findIdx_eq hj).2 ⟨?_, fun i hi => ?_⟩
  · rw [(List.getElem?_eq_some_iff.1 hx).2]; exact he
  · exact h i _ hi (List.getElem?_eq_getElem (by omega))
theorem eqIx_none {ws : List ByteArray} (h : ∀ (i : Nat) (y : ByteArray), i < ws.length → ws[i]? = some y → isEq y = false) : eqIx ws = ws.length := by
  unfold eqIx
  refine List.findIdx_eq_length.2 fun y hy => ?_
  obtain ⟨i, hi⟩ := List.getElem?_of_mem hy
  exact h i y (List.getElem?_eq_some_iff.1 hi).1 hi
/-- Where the index is found. -/
def eqAt (ws : List ByteArray) : Int := if eqIx ws < ws.length then (eqIx ws : Int) else -1

set_option maxHeartbeats 800000 in
theorem index_eq_full (b off cap n : Nat) (ws : List ByteArray) (w : World) (hw : ws.length = n) (hn : n ≤ 70368744177664)
    (hc : ∀ i (h : i < ws.length), w.cell? ⟨b, off + i, none⟩ = some (.string ws[i])) :
    Calls Tryz.prog 30 #[.slice (some ⟨b, off, none⟩) n cap, .string ⟨#[61]⟩] w fun e w' => e = .returned (.int .i64 (eqAt ws)) ∧ w = w' := by
  have HC := Lib.hid hc
  have HN := Lib.hid hw
  clear hc hw
  go_enter Tryz.func30, Tryz.ntmps30
  go_wp2
  go_loop [8] (fun i => ∃ j : Nat, j ≤ n ∧ i = .int .i64 j ∧ Hid (∀ (i : Nat) (y : ByteArray), i < j → ws[i]? = some y → isEq y = false)) (fun i => n - (intOf i).toNat)
  case atStart => exact ⟨0, by omega, rfl, fun i y h => by omega⟩
  case round =>
    obtain ⟨j, hj, rfl, HF⟩ := hrel
    by_cases hlt : j < n
    · obtain ⟨x, c1, X1⟩ := strs_cell HN.out HC.out hlt
      cases he : isEq x with
      | true =>
        have h1 : (([61] : List UInt8) == x.data.toList) = true := by unfold isEq at he; rw [eq_of_beq he]; rfl
        have h2 : (([61] : List UInt8) == x.toList) = true := by rw [ByteArray.toList_eq]; exact h1
        have HX := Lib.hid (eqIx_hit X1.out he HF.out)
        go_wp2
        go_ret
        exact ⟨by unfold eqAt; rw [HX.out, HN.out, if_pos hlt]; rfl, rfl⟩
      | false =>
        have h1 : (([61] : List UInt8) == x.data.toList) = false := by
          unfold isEq at he
          refine beq_eq_false_iff_ne.2 fun e => ?_
          rw [← e] at he
          exact absurd he (by decide)
        have h2 : (([61] : List UInt8) == x.toList) = false := by rw [ByteArray.toList_eq]; exact h1
        have HX : Hid (∀ (i : Nat) (y : ByteArray), i < j + 1 → ws[i]? = some y → isEq y = false) := Lib.hid (fun i y hi hy => by
          by_cases e : i = j
          · subst e
            rw [X1.out] at hy
            cases hy
            exact he
          · exact HF.out i y (by omega) hy)
        go_wp2
        go_round
        case rel => exact ⟨j + 1, by omega, by go_num, HX⟩
        case measure => simp [intOf]; omega
    · obtain rfl : j = n := by omega
      have HX := Lib.hid (eqIx_none (ws := ws) (fun i y hi hy => HF.out i y (by rw [← HN.out]; exact hi) hy))
      go_wp2
      go_ret
      exact ⟨by unfold eqAt; rw [HX.out, if_neg (Nat.lt_irrefl _)]; rfl, rfl⟩
theorem index_eq_none (a : Option Addr) (cap : Nat) (w : World) :
    Calls Tryz.prog 30 #[.slice a 0 cap, .string ⟨#[61]⟩] w fun e w' => e = .returned (.int .i64 (-1)) ∧ w = w' := by
  go_enter Tryz.func30, Tryz.ntmps30
  go_wp2
  go_loop [8] (fun i => i = .int .i64 0) (fun _ => 0)
  case atStart => rfl
  case round =>
    obtain rfl := hrel
    go_wp2
    go_ret
    exact ⟨rfl, rfl⟩
theorem index_eq {B : Nat} {v : Value} {ws : List ByteArray} {w : World} (h : Rd B w v (strs ws)) (hn : ws.length ≤ 70368744177664) :
    Calls Tryz.prog 30 #[v, .string ⟨#[61]⟩] w fun e w' => e = .returned (.int .i64 (eqAt ws)) ∧ w = w' := by
  rcases h.strs_cases with ⟨rfl, a, ca, rfl⟩ | ⟨b, off, ca, rfl, -, -, hc⟩
  · exact index_eq_none a ca w
  · exact index_eq_full b off ca _ ws w rfl hn hc

set_option maxHeartbeats 3200000 in
theorem ints_in {B c n cap : Nat} {a : Option Addr} {ws : List ByteArray} {w : World} (h : Rd B w (.slice a n cap) (strs ws)) (hw : ws.length = n) (hB : B ≤ w.heap.size) (hn : n ≤ 1048577) (hc : c < 128) (hs : ∀ y ∈ ws, y.size ≤ 1048576) (hl : (intsW c ws).length ≤ 4194304) (hv : LibVars w) :
    Calls Tryz.prog 32 #[.slice a n cap, .int .i32 c] w (NewRow w (intsW c ws)) := by
  obtain ⟨i0, hi, hz0, hz1, hz2⟩ := info_parts infoInt
  have J0 := Lib.hid hi
  have J1 := Lib.hid hz0
  have J2 := Lib.hid hz1
  have J3 := Lib.hid hz2
  have HR0 := Lib.hid h
  have HW := Lib.hid hw
  have HB := Lib.hid hB
  have HS := Lib.hid hs
  have HL := Lib.hid hl
  have HV := Lib.hid hv
  clear h hw hB hs hl hv hi hz0 hz1 hz2
  go_enter Tryz.func32, Tryz.ntmps32
  go_wp2
  go_loopw [5, 12] (fun u i wr => ∃ (j m cg : Nat) (ag : Option Addr), j ≤ n ∧ i = .int .i64 j ∧ u = .slice ag m cg ∧ Hid ((intsW c (ws.take j)).length = m) ∧ Hid (Rs w wr [] [(.slice ag m cg, intsW c (ws.take j))])) (fun _ i _ => n - (intOf i).toNat)
  case atStart => exact ⟨0, 0, 0, none, by omega, rfl, rfl, Lib.hid (by simp [intsW]), (Rs.start w).nil⟩
  case round =>
    obtain ⟨j, m, cg, ag, hj, rfl, rfl, HM, HR⟩ := hrel
    by_cases hlt : j < n
    · obtain ⟨y, hy⟩ : ∃ y, ws[j]? = some y := ⟨_, List.getElem?_eq_getElem (by rw [HW.out]; exact hlt)⟩
      obtain ⟨b, off, rfl, hb, hcell⟩ : ∃ b off, a = some ⟨b, off, none⟩ ∧ b < B ∧ w.cell? ⟨b, off + j, none⟩ = some (.string y) := by
        rcases HR0.out.strs_cases with ⟨e, -⟩ | ⟨b, off, ca, e, hb, -, hc⟩
        · rw [e] at hy; simp at hy
        · cases e
          have := hc j (by rw [HW.out]; exact hlt)
          rw [(List.getElem?_eq_some_iff.1 hy).2] at this
          exact ⟨b, off, rfl, hb, this⟩
      have c1 : wr.cell? ⟨b, off + j, none⟩ = some (.string y) := (HR.out.bel.cell (p := ⟨b, off + j, none⟩) (Nat.lt_of_lt_of_le hb HB.out)).trans hcell
      have HNX := Lib.hid (intsW_next (c := c) hy)
      have HTO : Hid ((intsW c (ws.take (j + 1))).length ≤ 4194304) := Lib.hid (by
        have h1 : intsW c ws = intsW c (ws.take (j + 1)) ++ intsW c (ws.drop (j + 1)) := by unfold intsW; rw [← List.flatMap_append, List.take_append_drop]
        have h2 := HL.out
        rw [h1, List.length_append] at h2
        omega)
      have HSP := Lib.hid (splits_any c y wr hc (HS.out y (List.mem_of_getElem? hy)) (HV.out.below HR.out.bel))
      clear hy hcell hb
      go_wp2_with fail
      refine HSP.out.mono ?_
      clear HSP
      rintro e w2 ⟨v, zs, b2, rfl, hsi, ho, hb2⟩
      obtain rfl := siL_of hsi
      obtain ⟨z, hz⟩ : ∃ z, z = siL c y := ⟨_, rfl⟩
      rw [← hz] at ho HNX
      have R2 := Lib.hid (HR.out.new hb2 ⟨ho, fun g hg => (ho.lt g hg).2, Nat.le_refl _⟩)
      obtain ⟨a2, c2, rfl, -⟩ := ints_form (Rd.of_own ho)
      obtain ⟨k, hk⟩ : ∃ k, k = z.length := ⟨_, rfl⟩
      rw [← hk] at R2 ⊢
      have HK := Lib.hid hk
      have HLT : Hid (m + k ≤ 4194304) := Lib.hid (by
        have h1 := HTO.out
        rw [HNX.out, List.length_append, HM.out, ← HK.out] at h1
        exact h1)
      have O1 := Lib.hid (R2.out.row (v := .slice ag m cg) (xs := intsW c (ws.take j)) (by simp) HM.out)
      clear hz hk ho hb2 hsi c1 HR
      by_cases hk0 : k = 0
      · subst hk0
        have hz0 : z = [] := List.length_eq_zero_iff.1 HK.out.symm
        rw [hz0, List.append_nil] at HNX
        have R3 := Lib.hid (R2.out.sub (List.sublist_cons_self _ _))
        clear hz0
        go_wp2_with (at_builtin; go_must (refine wpList_append_zero rfl _ _ 26 rfl w.heap.size 3 i0 1 Tryz.underlying26 J0.out _ m c2 _ _ rfl O1.out rfl ?_))
        go_roundw
        case rel => exact ⟨j + 1, m, cg, ag, by omega, by go_num, rfl, by rw [HNX.out]; exact HM, by rw [HNX.out]; exact R3⟩
        case measure => simp [intOf]; omega
      · obtain ⟨gz, hgz, hnews⟩ : ∃ gz, a2 = some ⟨gz, 0, none⟩ ∧ ∀ i u, (ints z)[i]? = some u → w2.cell? ((⟨gz, 0, none⟩ : Addr).add i) = some u := by
          obtain ⟨gz, cz, e, hnews⟩ := own_form (R2.out.own1 (v := .slice a2 k c2) (xs := z) (by simp)) HK.out.symm (by omega)
          cases e
          exact ⟨gz, rfl, hnews⟩
        subst hgz
        have HNW := Lib.hid hnews
        clear hnews
        go_wp2_with (at_builtin; go_must (refine wpList_append_lies _ rfl _ _ 26 rfl w.heap.size 3 i0 (.int .i64 0) 1 8 Tryz.underlying26 J0.out J1.out J2.out J3.out rfl (by decide) _ m (ints (intsW c (ws.take j))) rfl O1.out ⟨gz, 0, none⟩ k c2 (ints z) rfl ?c1 HNW.out (one_cells _) ?c2 ?c3 ?c4 ?c5 _ rfl ?_))
        case c1 => rw [ints_len, ← HK.out, Nat.mul_one]
        case c2 => omega
        case c3 => unfold maxLen; have := HLT.out; omega
        case c4 => have := HLT.out; omega
        case c5 => exact R2.out.bel.size
        intro g1 cap1 w8 hown hgrow hl1 _
        rw [← ints_append] at hown
        have h1 : (intsW c (ws.take j) ++ z).length = m + k := by rw [List.length_append, HM.out, ← HK.out]
        have happ := (R2.out.swap.app hown h1 hgrow hl1).sub (List.Sublist.cons_cons _ (List.sublist_cons_self _ _))
        rw [← HNX.out] at happ h1
        have R9 := Lib.hid happ
        have M9 := Lib.hid h1
        clear hown hgrow hl1 happ O1 HNW h1
        go_wp2
        go_roundw
        case rel => exact ⟨j + 1, m + k, cap1, some ⟨g1, 0, none⟩, by omega, by go_num, rfl, M9, R9⟩
        case measure => simp [intOf]; omega
    · obtain rfl : j = n := by omega
      have e : ws.take j = ws := List.take_of_length_le (by rw [HW.out]; exact Nat.le_refl _)
      rw [e] at HR
      go_wp2
      go_ret
      exact ⟨_, rfl, HR.out.own1 (v := .slice ag m cg) (by simp), HR.out.bel⟩

/-- What two rows are answered. -/
def TwoRows (w : World) (xs ys : List Int) (e : Ending) (w' : World) : Prop := ∃ u v, e = .returned (.tuple #[u, v]) ∧ Rs w w' [] [(u, xs), (v, ys)]
set_option maxHeartbeats 3200000 in
theorem turns_full {B n cap : Nat} {a : Option Addr} {l : List Int} {w : World} (h : Rd B w (.slice a n cap) (ints l)) (hl : l.length = n) (hB : B ≤ w.heap.size) (hn : n ≤ 4194304) :
    Calls Tryz.prog 31 #[.slice a n cap] w (TwoRows w (evK 0 l) (odK 0 l)) := by
  obtain ⟨i0, hi, hz0, hz1, hz2⟩ := info_parts infoInt
  have J0 := Lib.hid hi
  have J1 := Lib.hid hz0
  have J2 := Lib.hid hz1
  have J3 := Lib.hid hz2
  have HR0 := Lib.hid h
  have HW := Lib.hid hl
  have HB := Lib.hid hB
  clear h hl hB hi hz0 hz1 hz2
  go_enter Tryz.func31, Tryz.ntmps31
  go_wp2
  go_loopw [2, 3, 8] (fun u v i wr => ∃ (j m1 m2 c1 c2 : Nat) (a1 a2 : Option Addr), j ≤ n ∧ m1 ≤ j ∧ m2 ≤ j ∧ i = .int .i64 j ∧ u = .slice a1 m1 c1 ∧ v = .slice a2 m2 c2 ∧ Hid ((evK 0 (l.take j)).length = m1 ∧ (odK 0 (l.take j)).length = m2) ∧ Hid (Rs w wr [] [(.slice a1 m1 c1, evK 0 (l.take j)), (.slice a2 m2 c2, odK 0 (l.take j))])) (fun _ _ i _ => n - (intOf i).toNat)
  case atStart => exact ⟨0, 0, 0, 0, 0, none, none, by omega, by omega, by omega, rfl, rfl, rfl, Lib.hid ⟨rfl, rfl⟩, (Rs.start w).nil.nil⟩
  case round =>
    obtain ⟨j, m1, m2, k1, k2, a1, a2, hj, hm1, hm2, rfl, rfl, rfl, HM, HR⟩ := hrel
    by_cases hlt : j < n
    · obtain ⟨x, hx⟩ : ∃ x, l[j]? = some x := ⟨_, List.getElem?_eq_getElem (by rw [HW.out]; exact hlt)⟩
      obtain ⟨b, off, rfl, hb, hcell⟩ := HR0.out.cellAt hx
      have c1 : wr.cell? ⟨b, off + j, none⟩ = some (.int .i64 x) := (HR.out.bel.cell (p := ⟨b, off + j, none⟩) (Nat.lt_of_lt_of_le hb HB.out)).trans hcell
      have HE := Lib.hid (ev_next hx)
      have HO := Lib.hid (od_next hx)
      have RA := Lib.hid (HR.out.alloc (.cells #[.int .i64 x] 3))
      have e2 : (j : Int).tmod 2 = ((j % 2 : Nat) : Int) := (Int.ofNat_tmod j 2).symm
      clear hx hb hcell
      by_cases h2 : j % 2 = 0
      · rw [h2] at e2
        rw [if_pos h2] at HE HO
        rw [List.append_nil] at HO
        have O1 := Lib.hid (RA.out.row (v := .slice a1 m1 k1) (xs := evK 0 (l.take j)) (by simp) HM.out.1)
        clear h2 HR
        go_wp2_with (at_builtin; go_must (refine wpList_append_lies _ rfl _ _ 26 rfl w.heap.size 3 i0 (.int .i64 0) 1 8 Tryz.underlying26 J0.out J1.out J2.out J3.out rfl (by decide) _ m1 (ints (evK 0 (l.take j))) rfl O1.out ⟨wr.heap.size, 0, none⟩ 1 1 (ints [x]) rfl rfl (cell_one_new _ _ _) (one_cells _) ?c2 ?c3 ?c4 ?c5 _ rfl ?_))
        case c2 => omega
        case c3 => unfold maxLen; omega
        case c4 => omega
        case c5 => exact RA.out.bel.size
        intro g1 cap1 w8 hown hgrow hl1 _
        rw [← ints_append] at hown
        have h1 : (evK 0 (l.take j) ++ [x]).length = m1 + 1 := by rw [List.length_append, HM.out.1]; rfl
        have R9 := Lib.hid (RA.out.app hown h1 hgrow (by rw [World.size_alloc]; exact hl1))
        rw [← HE.out, ← HO.out] at R9
        rw [← HE.out] at h1
        have M9 : Hid ((evK 0 (l.take (j + 1))).length = m1 + 1 ∧ (odK 0 (l.take (j + 1))).length = m2) := Lib.hid ⟨h1, by rw [HO.out]; exact HM.out.2⟩
        clear hown hgrow hl1 O1 h1 RA HE HO
        go_wp2
        go_roundw
        case rel => exact ⟨j + 1, m1 + 1, m2, cap1, k2, some ⟨g1, 0, none⟩, a2, by omega, by omega, by omega, by go_num, rfl, rfl, M9, R9⟩
        case measure => simp [intOf]; omega
      · have h3 : j % 2 = 1 := by omega
        rw [h3] at e2
        rw [if_neg h2] at HE HO
        rw [List.append_nil] at HE
        have O1 := Lib.hid (RA.out.row (v := .slice a2 m2 k2) (xs := odK 0 (l.take j)) (by simp) HM.out.2)
        clear h2 h3 HR
        go_wp2_with (at_builtin; go_must (refine wpList_append_lies _ rfl _ _ 26 rfl w.heap.size 3 i0 (.int .i64 0) 1 8 Tryz.underlying26 J0.out J1.out J2.out J3.out rfl (by decide) _ m2 (ints (odK 0 (l.take j))) rfl O1.out ⟨wr.heap.size, 0, none⟩ 1 1 (ints [x]) rfl rfl (cell_one_new _ _ _) (one_cells _) ?c2 ?c3 ?c4 ?c5 _ rfl ?_))
        case c2 => omega
        case c3 => unfold maxLen; omega
        case c4 => omega
        case c5 => exact RA.out.bel.size
        intro g1 cap1 w8 hown hgrow hl1 _
        rw [← ints_append] at hown
        have h1 : (odK 0 (l.take j) ++ [x]).length = m2 + 1 := by rw [List.length_append, HM.out.2]; rfl
        have R9 := Lib.hid (RA.out.swap.app hown h1 hgrow (by rw [World.size_alloc]; exact hl1)).swap
        rw [← HE.out, ← HO.out] at R9
        rw [← HO.out] at h1
        have M9 : Hid ((evK 0 (l.take (j + 1))).length = m1 ∧ (odK 0 (l.take (j + 1))).length = m2 + 1) := Lib.hid ⟨by rw [HE.out]; exact HM.out.1, h1⟩
        clear hown hgrow hl1 O1 h1 RA HE HO
        go_wp2
        go_roundw
        case rel => exact ⟨j + 1, m1, m2 + 1, k1, cap1, a1, some ⟨g1, 0, none⟩, by omega, by omega, by omega, by go_num, rfl, rfl, M9, R9⟩
        case measure => simp [intOf]; omega
    · obtain rfl : j = n := by omega
      have e : l.take j = l := List.take_of_length_le (by rw [HW.out]; exact Nat.le_refl _)
      rw [e] at HR
      go_wp2
      go_ret2
      exact ⟨_, _, rfl, HR.out⟩
end Go.Proofs.YtceidekfcnmeaaaGreatDoor
