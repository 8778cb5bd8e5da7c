
/- spec.ParseInts and impl.ParseInts: the integers between single spaces, or (nil, false). -/
import Derived.Test.YtceidekfcnmeaaaGreatDoorImplParse
import Derived.Test.YtceidekfcnmeaaaGreatDoorSpecParse
import Derived.Test.YtceidekfcnmeaaaGreatDoorPieces
namespace Go.Proofs.YtceidekfcnmeaaaGreatDoor
set_option maxRecDepth 20000
open Go.RowKit

/-- The int whose numeral l is. -/
def pval (l : List UInt8) : Option Int := match Lib.atoiAll l with
  | .ok v => if Lib.itoa v = l then some v else none
  | _ => none
theorem pval_some {n : Int} (h : inI n) : pval (Lib.itoa n) = some n := by
  unfold pval; rw [atoi_itoa h.1 h.2]; simp
theorem pval_none {l : List UInt8} (h : ∀ n, inI n → l ≠ Lib.itoa n) : pval l = none := by
  unfold pval
  split
  · next v hv => rw [if_neg (fun e => h v (Lib.atoiAll_bounds hv) e.symm)]
  · rfl
theorem ParseEnd.val {l : List UInt8} {e : Ending} (h : ParseEnd l e) : (∃ n, inI n ∧ pval l = some n ∧ e = .returned (.tuple #[.int .i64 n, .bool true])) ∨ (pval l = none ∧ e = .returned (.tuple #[.int .i64 0, .bool false])) := by
  rcases h with ⟨n, hn, rfl, rfl⟩ | ⟨hno, rfl⟩
  · exact .inl ⟨n, hn, pval_some hn, rfl⟩
  · exact .inr ⟨pval_none hno, rfl⟩
def pv (p : ByteArray) : Option Int := pval p.data.toList
/-- What ParseInts gives. -/
def PI (s : ByteArray) (zs : List Int) (b : Bool) : Prop :=
  (b = true ∧ s.size = 0 ∧ zs = []) ∨ (b = true ∧ 0 < s.size ∧ (parts s 32).map pv = zs.map some) ∨ (b = false ∧ 0 < s.size ∧ zs = [] ∧ ∃ p ∈ parts s 32, pv p = none)
theorem PI.unique {s : ByteArray} {zs zs' : List Int} {b b' : Bool} (h : PI s zs b) (h' : PI s zs' b') : zs = zs' ∧ b = b' := by
  have bad : ∀ ys : List Int, (parts s 32).map pv = ys.map some → ¬ ∃ p ∈ parts s 32, pv p = none := by
    rintro ys e ⟨p, hp, hn⟩
    have : pv p ∈ ys.map some := e ▸ List.mem_map_of_mem hp
    rw [hn] at this
    simp at this
  have inj : ∀ xs ys : List Int, xs.map some = ys.map some → xs = ys := by
    intro xs
    induction xs with
    | nil => intro ys e; cases ys with | nil => rfl | cons y r => simp at e
    | cons x r ih => intro ys e; cases ys with | nil => simp at e | cons y q => simp at e; rw [e.1, ih q (by simpa using e.2)]
  rcases h with ⟨rfl, h1, rfl⟩ | ⟨rfl, h1, e⟩ | ⟨rfl, h1, rfl, e⟩ <;> rcases h' with ⟨rfl, h1', rfl⟩ | ⟨rfl, h1', e'⟩ | ⟨rfl, h1', rfl, e'⟩
  · exact ⟨rfl, rfl⟩
  · omega
  · omega
  · omega
  · exact ⟨inj _ _ (e.symm.trans e'), rfl⟩
  · exact absurd e' (bad _ e)
  · omega
  · exact absurd e (bad _ e')
  · exact ⟨rfl, rfl⟩
theorem PI.len {s : ByteArray} {zs : List Int} {b : Bool} (h : PI s zs b) : zs.length ≤ s.size + 1 := by
  rcases h with ⟨-, -, rfl⟩ | ⟨-, -, e⟩ | ⟨-, -, rfl, -⟩
  · simp
  · have h1 := congrArg List.length e
    have h2 := pst_le s 32 s.size
    rw [List.length_map, List.length_map] at h1
    unfold parts at h1
    rw [List.length_append, List.length_singleton] at h1
    omega
  · simp
theorem pst_sub {s : ByteArray} {c : Nat} {j : Nat} : ∀ d, ∀ p ∈ (pst s c j).1, p ∈ (pst s c (j + d)).1
  | 0, p, hp => hp
  | d + 1, p, hp => by
    have := pst_sub d p hp
    rw [show j + (d + 1) = (j + d) + 1 from rfl, pst]
    split
    · exact List.mem_append_left _ this
    · exact this
theorem part_mem {c : Nat} {s : ByteArray} {k a : Nat} {ps : List ByteArray} (hp : pst s c k = (ps, a)) (hk : k < s.size) (hc : s[k].toNat = c) : s.extract a k ∈ parts s c := by
  have h := pst_hit hk hc
  rw [hp] at h
  have h2 := pst_sub (s := s) (c := c) (j := k + 1) (s.size - (k + 1)) (s.extract a k) (by rw [h]; simp)
  rw [show k + 1 + (s.size - (k + 1)) = s.size from by omega] at h2
  exact List.mem_append_left _ h2
/-- The integers between the bytes c, or none. -/
def SI (c : Nat) (s : ByteArray) (zs : List Int) (b : Bool) : Prop := (b = true ∧ (parts s c).map pv = zs.map some) ∨ (b = false ∧ zs = [] ∧ ∃ p ∈ parts s c, pv p = none)
theorem SI.pi {s : ByteArray} {zs : List Int} {b : Bool} (h : SI 32 s zs b) (h0 : 0 < s.size) : PI s zs b := by
  rcases h with ⟨rfl, h⟩ | ⟨rfl, rfl, h⟩
  · exact .inr (.inl ⟨rfl, h0, h⟩)
  · exact .inr (.inr ⟨rfl, h0, rfl, h⟩)
theorem some_inj : ∀ xs ys : List Int, xs.map some = ys.map some → xs = ys := by
  intro xs
  induction xs with
  | nil => intro ys e; cases ys with | nil => rfl | cons y r => simp at e
  | cons x r ih => intro ys e; cases ys with | nil => simp at e | cons y q => simp at e; rw [e.1, ih q (by simpa using e.2)]
theorem SI.unique {c : Nat} {s : ByteArray} {zs zs' : List Int} {b b' : Bool} (h : SI c s zs b) (h' : SI c s zs' b') : zs = zs' ∧ b = b' := by
  have bad : ∀ ys : List Int, (parts s c).map pv = ys.map some → ¬ ∃ p ∈ parts s c, pv p = none := by
    rintro ys e ⟨p, hp, hn⟩
    have : pv p ∈ ys.map some := e ▸ List.mem_map_of_mem hp
    rw [hn] at this
    simp at this
  rcases h with ⟨rfl, e⟩ | ⟨rfl, rfl, e⟩ <;> rcases h' with ⟨rfl, e'⟩ | ⟨rfl, rfl, e'⟩
  · exact ⟨some_inj _ _ (e.symm.trans e'), rfl⟩
  · exact absurd e' (bad _ e)
  · exact absurd e (bad _ e')
  · exact ⟨rfl, rfl⟩
theorem SI.len {c : Nat} {s : ByteArray} {zs : List Int} {b : Bool} (h : SI c s zs b) : zs.length ≤ s.size + 1 := by
  rcases h with ⟨-, e⟩ | ⟨-, rfl, -⟩
  · have h1 := congrArg List.length e
    have h2 := pst_le s c s.size
    rw [List.length_map, List.length_map] at h1
    unfold parts at h1
    rw [List.length_append, List.length_singleton] at h1
    omega
  · simp

/-- How ParseInts ends, in a world that has grown. -/
def PIPost (s : ByteArray) (w : World) (e : Ending) (w' : World) : Prop :=
  ∃ v zs b, e = .returned (.tuple #[v, .bool b]) ∧ PI s zs b ∧ w'.ownsRow w.heap.size 3 1 v zs.length (ints zs) ∧ Below w.heap.size w w'
theorem pi_mk {s : ByteArray} {w : World} {e : Ending} {w' : World} (v : Value) (zs : List Int) (b : Bool) (he : e = .returned (.tuple #[v, .bool b])) (h : PI s zs b) (ho : w'.ownsRow w.heap.size 3 1 v zs.length (ints zs)) (hb : Below w.heap.size w w') : PIPost s w e w' := ⟨v, zs, b, he, h, ho, hb⟩
theorem ints_app (zs : List Int) (z : Int) : ints zs ++ [.int .i64 z] = ints (zs ++ [z]) := by simp [ints]

/-- How splitInts ends. -/
def SIPost (c : Nat) (s : ByteArray) (w : World) (e : Ending) (w' : World) : Prop :=
  ∃ v zs b, e = .returned (.tuple #[v, .bool b]) ∧ SI c s zs b ∧ w'.ownsRow w.heap.size 3 1 v zs.length (ints zs) ∧ Below w.heap.size w w'
theorem si_mk {c : Nat} {s : ByteArray} {w : World} {e : Ending} {w' : World} (v : Value) (zs : List Int) (b : Bool) (he : e = .returned (.tuple #[v, .bool b])) (h : SI c s zs b) (ho : w'.ownsRow w.heap.size 3 1 v zs.length (ints zs)) (hb : Below w.heap.size w w') : SIPost c s w e w' := ⟨v, zs, b, he, h, ho, hb⟩

set_option maxHeartbeats 1600000 in
theorem splits_any (c : Nat) (s : ByteArray) (w : World) (hc : c < 128) (hs : s.size ≤ 1048576) (hv : LibVars w) :
    Calls Tryz.prog 26 #[.string s, .int .i32 c] w (SIPost c s w) := by
  obtain ⟨i0, hi, hz0, hz1, hz2⟩ := info_parts infoInt
  have J0 := Lib.hid hi
  have J1 := Lib.hid hz0
  have J2 := Lib.hid hz1
  have J3 := Lib.hid hz2
  have HV := Lib.hid hv
  clear hi hz0 hz1 hz2 hv
  go_enter Tryz.func26, Tryz.ntmps26
  go_wp2_with fail
  refine (pieces_any s c w hs hc).mono ?_
  rintro e w1 ⟨v, rfl, hown, hb⟩
  have hplen : (parts s c).length ≤ s.size + 1 := by
    have h := pst_le s c s.size
    unfold parts
    rw [List.length_append, List.length_singleton]; omega
  have hle : ∀ p ∈ parts s c, p.size ≤ 281474976710656 := by
    intro p hp
    have hk : ∀ k, ∀ p ∈ (pst s c k).1, p.size ≤ s.size := by
      intro k
      induction k with
      | zero => intro p hp; simp [pst] at hp
      | succ k ih =>
        intro p hp
        rw [pst] at hp
        split at hp
        · rcases List.mem_append.1 hp with h | h
          · exact ih p h
          · simp at h; rw [h, ByteArray.size_extract]; omega
        · exact ih p hp
    unfold parts at hp
    rcases List.mem_append.1 hp with h | h
    · have := hk _ p h; omega
    · simp at h; rw [h, ByteArray.size_extract]; omega
  obtain ⟨n, hn⟩ : ∃ n, n = (parts s c).length := ⟨_, rfl⟩
  rw [← hn] at hown hplen
  have HN := Lib.hid hn
  have HLE := Lib.hid hle
  obtain ⟨g, cap, hv⟩ : ∃ g cap, v = .slice (some ⟨g, 0, none⟩) n cap := by
    rcases hown.2 with ⟨-, h⟩ | ⟨g, cap, cur, rfl, -⟩
    · have h2 : 0 < n := by rw [hn]; unfold parts; rw [List.length_append, List.length_singleton]; omega
      omega
    · exact ⟨g, cap, rfl⟩
  subst hv
  have HO := Lib.hid hown
  have HB := Lib.hid hb
  have HG := Lib.hid ((hown.lt g rfl).2)
  have HZ1 := Lib.hid hb.size
  have HV1 := Lib.hid (HV.out.below hb)
  clear hown hb hn hle
  go_wp2
  go_loopw [6, 15] (fun v i wr => ∃ (k : Nat) (zs : List Int), k ≤ n ∧ i = .int .i64 k ∧ zs.length ≤ k ∧ Hid (((parts s c).take k).map pv = zs.map some) ∧ Hid (wr.ownsRow w1.heap.size 3 1 v zs.length (ints zs)) ∧ Hid (Below w1.heap.size w1 wr)) (fun _ i _ => n - (intOf i).toNat)
  case atStart => exact ⟨0, [], by omega, rfl, by simp, rfl, World.ownsRow_nil _ _ _ _, Below.refl _ _⟩
  case round =>
    obtain ⟨k, zs, hk1, rfl, hzs, HF, HOW, HBW⟩ := hrel
    by_cases hlt : k < n
    · have hkl : k < (parts s c).length := by rw [← HN.out]; exact hlt
      obtain ⟨x, X⟩ : ∃ x, (parts s c)[k]? = some x := ⟨_, List.getElem?_eq_getElem hkl⟩
      have c1 : wr.cell? ⟨g, k, none⟩ = some (.string x) := by
        rw [HBW.out.cell (p := ⟨g, k, none⟩) HG.out, HO.out.cellAt k (by omega)]
        simp [strs, X]
      have hxs := HLE.out x (List.mem_of_getElem? X)
      have X1 := Lib.hid X
      have HZ := Lib.hid HBW.out.size
      have HVW := Lib.hid (HV1.out.below HBW.out)
      clear hkl X
      go_wp2_with fail
      refine (impl_parse x wr hxs HVW.out).mono ?_
      rintro e w2 ⟨he2, hb2⟩
      have HO2 := Lib.hid (ownb HOW.out hb2)
      have HB2 := Lib.hid (HBW.out.trans (hb2.mono HBW.out.size))
      clear hb2
      rcases he2.val with ⟨z, hz, hp, rfl⟩ | ⟨hp, rfl⟩
      · have HPZ := Lib.hid hp
        have HZ2 := Lib.hid HB2.out.size
        clear he2 hz hp
        go_wp2_with (at_builtin; go_must (refine wpList_append_own _ rfl _ _ 26 rfl w1.heap.size 3 i0 (.int .i64 0) 1 8 Tryz.underlying26 J0.out J1.out J2.out J3.out rfl (by decide) _ _ _ rfl (HO2.out.alloc _) ⟨w2.heap.size, 0, none⟩ 1 1 [.int .i64 z] rfl rfl (cell_one_new _ _ _) ?c2 ?c3 ?c4 ?c5 ?_))
        case c2 => first | rfl | (intro u hu; simp at hu; subst hu; rfl)
        case c3 => unfold maxLen; omega
        case c4 => omega
        case c5 => have := HZ2.out; simp; omega
        intro v' w4 hown4 hgrow4 _
        have HO4 := Lib.hid hown4
        have HB4 := Lib.hid ((HB2.out.alloc HB2.out.size _).grown hgrow4 (by have := HZ2.out; simp; omega) (fun g hg => (HO2.out.lt g hg).1))
        clear hown4 hgrow4
        go_wp2
        go_roundw
        case rel => exact ⟨k + 1, zs ++ [z], by omega, by go_num, by rw [List.length_append, List.length_singleton]; omega, by show _ = _; rw [List.take_add_one, X1.out, Option.toList_some, List.map_append, List.map_append, HF.out, List.map_singleton, List.map_singleton]; congr 2, by have h := HO4.out; rw [ints_app] at h; show World.ownsRow _ _ _ _ _ _ _; rw [List.length_append, List.length_singleton]; exact h, HB4.out⟩
        case measure => simp [intOf]; omega
      · have HPN := Lib.hid hp
        clear he2 hp
        go_wp2
        go_ret2
        exact si_mk _ [] false rfl (.inr ⟨rfl, rfl, x, List.mem_of_getElem? X1.out, HPN.out⟩) (World.ownsRow_nil _ _ _ _) (HB.out.trans (HB2.out.mono HB.out.size))
    · obtain rfl : k = n := by omega
      have e : (parts s c).map pv = zs.map some := by
        have h := HF.out
        rw [List.take_of_length_le (by rw [← HN.out]; omega)] at h
        exact h
      have E := Lib.hid e
      clear e
      go_wp2
      go_ret2
      exact si_mk _ zs true rfl (.inl ⟨rfl, E.out⟩) (HOW.out.mono HZ1.out) (HB.out.trans (HBW.out.mono HB.out.size))

set_option maxHeartbeats 400000 in
theorem impl_parses (s : ByteArray) (w : World) (hs : s.size ≤ 1048576) (hv : LibVars w) :
    Calls Tryz.prog 20 #[.string s] w (PIPost s w) := by
  have HV := Lib.hid hv
  clear hv
  by_cases h0 : s.size = 0
  · have H0 := Lib.hid h0
    have he : s.toList.isEmpty = true := by
      rw [ByteArray.toList_eq, List.isEmpty_iff]
      apply List.eq_nil_of_length_eq_zero
      have h2 : s.data.toList.length = s.size := by simp
      omega
    clear h0
    go_enter Tryz.func20, Tryz.ntmps20
    go_wp2
    go_ret2
    exact pi_mk _ [] true rfl (.inl ⟨rfl, H0.out, rfl⟩) (World.ownsRow_nil _ _ _ _) (Below.refl _ _)
  have hpos : 0 < s.size := by omega
  have he : s.toList.isEmpty = false := by
    rw [ByteArray.toList_eq, Bool.eq_false_iff]
    intro h
    have e := List.isEmpty_iff.1 h
    have h2 : s.data.toList.length = s.size := by simp
    rw [e, List.length_nil] at h2
    omega
  clear h0
  have HP := Lib.hid hpos
  clear hpos
  go_enter Tryz.func20, Tryz.ntmps20
  go_wp2_with fail
  refine (splits_any 32 s w (by omega) hs HV.out).mono ?_
  rintro e w1 ⟨v, zs, b, rfl, hsi, hown, hb⟩
  go_wp2
  go_ret2
  exact pi_mk _ zs b rfl (hsi.pi HP.out) hown hb
end Go.Proofs.YtceidekfcnmeaaaGreatDoor
