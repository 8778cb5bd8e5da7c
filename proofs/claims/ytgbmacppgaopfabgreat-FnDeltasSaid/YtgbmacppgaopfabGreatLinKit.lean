import Derived.Test.YtgbmacppgaopfabGreatTensorOk
import Derived.Test.YtgbmacppgaopfabGreatOpen
import Derived.WalkSpells
import Derived.WalkLawsBesides
import Derived.Maps.OwnSet
import Derived.Lib.Hide
import Derived.Test.YtgbmacppgaopfabGreatPermSpec
import Derived.Test.YtgbmacppgaopfabGreatTimesOne
import Derived.Test.YtgbmacppgaopfabGreatElem
import Derived.Test.YtgbmacppgaopfabGreatAssocKit
import Derived.Test.YtgbmacppgaopfabGreatPermutedMath
import Derived.Test.YtgbmacppgaopfabGreatZeroImpl
import Derived.Deep.RegionLaw
import Derived.Test.YtgbmacppgaopfabGreatPermuted
import Derived.Test.YtgbmacppgaopfabGreatTenOkImpl
import Derived.Test.YtgbmacppgaopfabGreatIndexIn
import Derived.Test.YtgbmacppgaopfabGreatTensorOk2
import Derived.Test.YtgbmacppgaopfabGreatElemRd
import Derived.Test.YtgbmacppgaopfabGreatElemAt
import Derived.Test.YtgbmacppgaopfabGreatZero
import Derived.Deep.RegionHeld3
import Derived.Test.YtgbmacppgaopfabGreatSizeImpl
import Derived.Deep.AppendLies

/- Sums and multiples of tensors in every order of axes: what the law FnLinear compares. -/
namespace Go.Proofs.YtgbmacppgaopfabGreat
set_option maxRecDepth 20000
open Go.RowKit Go.Maps

abbrev kI (i : Int) : Lit := .int .i64 i
abbrev dB (b : Bool) : DataW Unit := .lit (.bool b)
theorem kI_ne {i j : Int} (h : i ≠ j) : kI i ≠ kI j := fun e => h (by injection e)
/-- A map that holds true at just the numbers for which f holds. -/
def FreeD (D : DataW Unit) (f : Int → Bool) (c : Nat) : Prop := IsMap D ∧ (∀ x, D.atKey (kI x) (dB false) = dB (f x)) ∧ (∀ x, has D (kI x) = f x) ∧ size D = c
theorem FreeD.none : FreeD (.map []) (fun _ => false) 0 := ⟨isMap_empty, fun x => by rfl, fun x => by rfl, rfl⟩
theorem FreeD.put {D : DataW Unit} {f : Int → Bool} {c : Nat} (h : FreeD D f c) (ht : Tidy D) (j : Int) (hf : f j = false) : FreeD (D.put (kI j) (dB true)) (fun x => x == j || f x) (c + 1) :=
  ⟨h.1.put _ _, fun x => by
    by_cases e : x = j
    · subst e
      rw [atKey_put_same h.1 (by trivial)]
      simp
    · rw [atKey_put_other (kI_ne e), h.2.1 x]
      simp [e], fun x => by
    by_cases e : x = j
    · subst e
      rw [has_put_same h.1 (by trivial)]
      simp
    · rw [has_put_other (kI_ne e), h.2.2.1 x]
      simp [e], by rw [size_put ht, h.2.2.1 j, hf, h.2.2.2]; rfl⟩
theorem FreeD.del {D : DataW Unit} {f : Int → Bool} {c : Nat} (h : FreeD D f c) (ht : Tidy D) (j : Int) (hf : f j = true) : FreeD (D.del (kI j)) (fun x => x != j && f x) (c - 1) :=
  ⟨h.1.del _, fun x => by
    by_cases e : x = j
    · subst e
      rw [atKey_del_same]
      simp
    · rw [atKey_del_other (kI_ne e), h.2.1 x]
      simp [e], fun x => by
    by_cases e : x = j
    · subst e
      rw [has_del_same]
      simp
    · rw [has_del_other (kI_ne e), h.2.2.1 x]
      simp [e], by
    have h1 := size_del ht (k := kI j)
    rw [h.2.2.1 j, hf, h.2.2.2] at h1
    simp at h1
    omega⟩
/-- A world behind w0 in which block b, new since w0, is such a map. -/
def MapB (w0 w : World) (b n : Nat) (f : Int → Bool) (c : Nat) : Prop := Below w0.heap.size w0 w ∧ w0.heap.size ≤ b ∧ ∃ D : DataW Unit, w.ownsMap Tryz.prog 3 (plainElem Tryz.prog 4) b n D ∧ FreeD D f c
theorem keysInt : Keyed Tryz.prog 3 := int_keyed Tryz.underlying3
/-- 'delete(m, i)'. -/
theorem MapB.drop {w0 w : World} {ops : Array Oper} {rest : List Oper} {o : Oper} {a : Act} {Q : Exit → Act → World → Prop} {m x : Operand} {i : Int} {b n c : Nat} {f : Int → Bool}
    (hg : o.guard = none) (hop : o.op = Op.call { callee := Callee.builtin Builtin.delete, args := #[m, x], argTypes := #[170, 3] }) (hm : a.eval m = .map (some b)) (hx : a.eval x = .int .i64 i) (hown : Hid (MapB w0 w b n f c)) (hf : f i = true) (hi : (Lit.int .i64 i).wf = true)
    (hK : ∀ w', Hid (MapB w0 w' b n (fun x => x != i && f x) (c - 1)) → wpList Tryz.prog ops Q rest (a.put o.dst (.tuple #[])) w') :
    wpList Tryz.prog ops Q (o :: rest) a w := by
  obtain ⟨hb, hle, D, hD, hF⟩ := hown.out
  have hT := hD.tidy keysInt
  refine wpList_delete_own _ hg _ _ 170 3 hop 4 keysInt Tryz.underlying170 _ b n D hm hD _ (kI i) hx (keyOf_int_mk Tryz.underlying3 hi) ?_
  intro w' h1 h2
  exact hK w' ⟨hb.grown h2.grown hb.size (fun g hg => by cases hg; exact hle), hle, _, h1, hF.del hT i hf⟩

end Go.Proofs.YtgbmacppgaopfabGreat
namespace Go.Proofs.YtgbmacppgaopfabGreat
set_option maxRecDepth 20000
open Go.RowKit

/-- The sum, or the product, of the elements at an offset. -/
def joinF (k p : Int) (wd : Nat) (X Y : List Int) (pr : Bool) (i : Nat) : List Int := if pr = true then timesL k p (getL wd X i) (getL wd Y i) else plusL k p (getL wd X i) (getL wd Y i)
end Go.Proofs.YtgbmacppgaopfabGreat
namespace Go.Proofs.YtgbmacppgaopfabGreat
set_option maxRecDepth 20000
open Go.RowKit

end Go.Proofs.YtgbmacppgaopfabGreat
namespace Go.Proofs.YtgbmacppgaopfabGreat
set_option maxRecDepth 20000
open Go.RowKit

end Go.Proofs.YtgbmacppgaopfabGreat
namespace Go.Proofs.YtgbmacppgaopfabGreat
set_option maxRecDepth 20000
open Go.RowKit

/-- The data of the sum, or of the product. -/
noncomputable def joinTenL (k p q : Int) (L D X L' D' X' : List Int) (pr : Bool) : List Int := gatherL (joinF k p (widthI k q).toNat X (permDataL k q L' D' X' L) pr) (prodL D).toNat
end Go.Proofs.YtgbmacppgaopfabGreat
namespace Go.Proofs.YtgbmacppgaopfabGreat
set_option maxRecDepth 20000

/-- Where the element with n indices before it lies, the axes put in another order. -/
def permF (L D labels : List Int) (n : Nat) : Nat := (offI D (viaL L labels (idxL (dimsVia L D labels) (n : Int)))).toNat
structure LinT (k p q : Int) (wd N : Nat) (L D X : List Int) : Prop where
  rg : ringB k p q = true
  hw : widthI k q = (wd : Int)
  w1 : 1 ≤ wd ∧ wd ≤ 6
  ax : AxesV L D
  pr : prodL D = (N : Int)
  n1 : 1 ≤ N ∧ N ≤ 4096
  lX : X.length = N * wd
  wX : Within (topI k p q) X
theorem LinT.of {k p q : Int} {L D X : List Int} (ht : tensorB k p q L D X = true) : LinT k p q (widthI k q).toNat (prodL D).toNat L D X := by
  have hrb := (tensorB_inv ht).1
  have hwd := ring_width hrb
  have hf := TenF.of (wd := (widthI k q).toNat) ht (by omega)
  exact ⟨hrb, by omega, by omega, hf.ax, hf.pr, hf.n1, hf.lX, hf.wX⟩
section
variable {k p q : Int} {wd N : Nat} {L D X : List Int}
theorem LinT.dim (h : LinT k p q wd N L D X) : ∀ d ∈ D, 1 ≤ d := fun d hd => (h.ax.2.2.2.1 d hd).1
theorem LinT.yes (h : LinT k p q wd N L D X) : tensorB k p q L D X = true := by
  have h1 := h.pr
  have h2 := h.n1
  exact (tensorB_of h.rg h.ax (by omega) (by rw [h.pr, h.hw, h.lX, Int.natCast_mul]) h.wX).1
theorem LinT.get (h : LinT k p q wd N L D X) {i : Nat} (hi : i < N) : ElemV k p q (getL wd X i) := getL_elem h.hw h.lX h.wX hi
theorem LinT.at (h : LinT k p q wd N L D X) {f : Nat → List Int} (hf : ∀ i, i < N → ElemV k p q (f i)) {i : Nat} (hi : i < N) : getL wd (gatherL f N) i = f i :=
  gather_get (fun j hj => by have h1 := (hf j hj).1; have h2 := h.hw; omega) hi
theorem LinT.permLt (h : LinT k p q wd N L D X) {A : List Int} (hA : A.Perm L) (n : Nat) : permF L D A n < N := by
  have hs := setV_perm hA h.ax.2.2.2.2
  obtain ⟨o, h1, h2, -⟩ := (PF.of h.yes hs).off n
  unfold Go.Proofs.YtgbmacppgaopfabGreat.permF
  rw [h1, Int.toNat_natCast]
  have := h.pr
  omega
theorem LinT.perm (h : LinT k p q wd N L D X) (A : List Int) : permDataL k q L D X A = gatherL (fun n => getL wd X (Go.Proofs.YtgbmacppgaopfabGreat.permF L D A n)) N := by
  unfold permDataL permX gatherL
  have h1 : (widthI k q).toNat = wd := by have := h.hw; omega
  have h2 : (prodL D).toNat = N := by have := h.pr; omega
  rw [h1, h2]
  rfl
/-- The tensor with its axes in another order. -/
theorem LinT.turn (h : LinT k p q wd N L D X) {A : List Int} (hA : A.Perm L) : LinT k p q wd N A (dimsVia L D A) (permDataL k q L D X A) := by
  have h1 := perm_ok h.yes hA
  have h2 := LinT.of h1.2.1
  have h3 : (widthI k q).toNat = wd := by have := h.hw; omega
  have h4 : (prodL (dimsVia L D A)).toNat = N := by rw [h1.2.2]; have := h.pr; omega
  rw [h3, h4] at h2
  exact h2
theorem LinT.back (h : LinT k p q wd N L D X) {A : List Int} (hA : A.Perm L) : dimsVia A (dimsVia L D A) L = D ∧ permDataL k q A (dimsVia L D A) (permDataL k q L D X A) L = X := by
  have h1 := perm_perm h.yes hA (List.Perm.refl L)
  have h2 := perm_back h.yes
  exact ⟨h1.1.trans h2.1, h1.2.trans h2.2⟩
theorem LinT.join (h : LinT k p q wd N L D X) (L' D' X' : List Int) (pr : Bool) : joinTenL k p q L D X L' D' X' pr = gatherL (joinF k p wd X (permDataL k q L' D' X' L) pr) N := by
  have h1 : (widthI k q).toNat = wd := by have := h.hw; omega
  have h2 : (prodL D).toNat = N := by have := h.pr; omega
  unfold joinTenL
  rw [h1, h2]
end
end Go.Proofs.YtgbmacppgaopfabGreat
namespace Go.Proofs.YtgbmacppgaopfabGreat
set_option maxRecDepth 20000
open Go.RowKit

end Go.Proofs.YtgbmacppgaopfabGreat
namespace Go.Proofs.YtgbmacppgaopfabGreat
set_option maxRecDepth 20000
open Go.RowKit

theorem NewS.of2 {w w' : World} {L D X : List Int} {e : Ending} (h : NewTen2 w L D X true e w') : NewS w L D X (fun t => .tuple #[t, .bool true]) e w' := by
  obtain ⟨lv, dv, xv, rfl, ho, hb⟩ := h
  exact NewS.of (f := fun t => .tuple #[t, .bool true]) ho hb
theorem ten_len {k p q : Int} {L D X : List Int} (h : tensorB k p q L D X = true) : LenT L D X := by
  have h1 := ten_lens h
  exact ⟨by omega, by omega, by omega⟩
theorem ten_ints {k p q : Int} {L D X : List Int} (h : tensorB k p q L D X = true) : allI L := fun z hz => by
  have := (tensor_axes h).2.2.1 z hz
  exact ⟨by omega, by omega⟩
section
variable {B B' : Nat} {lv dv xv lu du xu : Value} {k p q : Int} {L D X L' D' X' Y : List Int} {w : World}
theorem same_lin (h : sameB k p q L D X L' D' X' = true) (ht : tensorB k p q L D X = true) (hu : tensorB k p q L' D' X' = true) (ha : RdT B w lv dv xv L D X) (hb : RdT B' w lu du xu L' D' X') (hB : B ≤ w.heap.size) (hB' : B' ≤ w.heap.size) :
    Calls Tryz.prog 16 #[ringV k p q, tenV lv dv xv, tenV lu du xu] w fun e w' => e = .returned (.bool true) ∧ Below w.heap.size w w' := by
  have hq := same_tensor_impl (k := k) (p := p) (q := q) ha hb hB hB' (ten_len ht) (ten_len hu) (ten_ints ht) (ten_ints hu)
  rw [h] at hq
  exact hq
end
end Go.Proofs.YtgbmacppgaopfabGreat
