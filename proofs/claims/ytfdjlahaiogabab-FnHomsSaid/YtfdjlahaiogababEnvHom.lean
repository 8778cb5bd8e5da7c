
/- A world with two rings, a homomorphism and elements of both that are read: what the functions do there. -/
import Derived.Test.YtfdjlahaiogababDrawHom
import Derived.Test.YtfdjlahaiogababApplyHom
import Derived.Test.YtfdjlahaiogababHomMath
import Derived.Test.YtfdjlahaiogababEnv
namespace Go.Proofs.Ytfdjlahaiogabab
set_option maxRecDepth 20000
open Go.RowKit

/-- Elements of the first ring (L) and of the second one (M), next to the three variables at b. -/
def EnvH (w0 w : World) (b : Nat) (fk fp fn tk tp tn hk ha : Int) (L M : List (Value × List Int)) : Prop :=
  Inv3 w0 w b fk fp fn tk tp tn hk ha ∧ (∀ x ∈ L, Rd w.heap.size w x.1 (ints x.2) ∧ ElemV fk fp fn x.2) ∧ (∀ x ∈ M, Rd w.heap.size w x.1 (ints x.2) ∧ ElemV tk tp tn x.2)
section
variable {w0 w w1 : World} {b : Nat} {fk fp fn tk tp tn hk ha : Int} {L M : List (Value × List Int)} {va vb : Value} {xs ys zs zs' : List Int} {P : Program} {f : FuncId} {args : Array Value} {R : Ending → Prop}
theorem EnvH.step (h : EnvH w0 w b fk fp fn tk tp tn hk ha L M) (hb : Below w.heap.size w w1) : EnvH w0 w1 b fk fp fn tk tp tn hk ha L M :=
  ⟨h.1.step hb, fun x hx => ⟨((h.2.1 x hx).1.below hb (Nat.le_refl _)).mono hb.size, (h.2.1 x hx).2⟩, fun x hx => ⟨((h.2.2 x hx).1.below hb (Nat.le_refl _)).mono hb.size, (h.2.2 x hx).2⟩⟩
theorem EnvH.drew (h : EnvH w0 w b fk fp fn tk tp tn hk ha L M) : EnvH w0 w.drew b fk fp fn tk tp tn hk ha L M := h.step (Below.drew (Below.refl _ _))
theorem EnvH.addL (h : EnvH w0 w b fk fp fn tk tp tn hk ha L M) (hr : Rd w.heap.size w va (ints xs)) (he : ElemV fk fp fn xs) : EnvH w0 w b fk fp fn tk tp tn hk ha ((va, xs) :: L) M :=
  ⟨h.1, fun x hx => by
    rcases List.mem_cons.1 hx with rfl | hx
    · exact ⟨hr, he⟩
    · exact h.2.1 x hx, h.2.2⟩
theorem EnvH.addM (h : EnvH w0 w b fk fp fn tk tp tn hk ha L M) (hr : Rd w.heap.size w va (ints xs)) (he : ElemV tk tp tn xs) : EnvH w0 w b fk fp fn tk tp tn hk ha L ((va, xs) :: M) :=
  ⟨h.1, h.2.1, fun x hx => by
    rcases List.mem_cons.1 hx with rfl | hx
    · exact ⟨hr, he⟩
    · exact h.2.2 x hx⟩
theorem EnvH.madeL (h : Hid (EnvH w0 w b fk fp fn tk tp tn hk ha L M)) (he : ElemV fk fp fn zs) (hz : zs' = zs) (hc : Calls P f args w (NewRow w zs')) : Calls P f args w fun e w' => ∃ v, e = .returned v ∧ Hid (EnvH w0 w' b fk fp fn tk tp tn hk ha ((v, zs) :: L) M) :=
  hc.mono fun _ _ ⟨v, h1, ho, hb⟩ => ⟨v, h1, (h.out.step hb).addL (hz ▸ ho.rd.mono ho.2.2) he⟩
theorem EnvH.madeM (h : Hid (EnvH w0 w b fk fp fn tk tp tn hk ha L M)) (he : ElemV tk tp tn zs) (hz : zs' = zs) (hc : Calls P f args w (NewRow w zs')) : Calls P f args w fun e w' => ∃ v, e = .returned v ∧ Hid (EnvH w0 w' b fk fp fn tk tp tn hk ha L ((v, zs) :: M)) :=
  hc.mono fun _ _ ⟨v, h1, ho, hb⟩ => ⟨v, h1, (h.out.step hb).addM (hz ▸ ho.rd.mono ho.2.2) he⟩
theorem EnvH.told (h : Hid (EnvH w0 w b fk fp fn tk tp tn hk ha L M)) (hc : Calls P f args w fun e w' => R e ∧ Below w.heap.size w w') : Calls P f args w fun e w' => R e ∧ Hid (EnvH w0 w' b fk fp fn tk tp tn hk ha L M) :=
  hc.mono fun _ _ ⟨h1, hb⟩ => ⟨h1, h.out.step hb⟩
theorem eh_addL (h : Hid (EnvH w0 w b fk fp fn tk tp tn hk ha L M)) (hr : ringB fk fp fn = true) (h1 : (va, xs) ∈ L) (h2 : (vb, ys) ∈ L) : Calls Try.prog 55 #[ringV fk fp fn, va, vb] w fun e w' => ∃ v, e = .returned v ∧ Hid (EnvH w0 w' b fk fp fn tk tp tn hk ha ((v, plusL fk fp xs ys) :: L) M) := by
  obtain ⟨a1, a2⟩ := h.out.2.1 _ h1
  obtain ⟨b1, b2⟩ := h.out.2.1 _ h2
  have e1 := elem_short hr a2
  have e2 := elem_short hr b2
  exact EnvH.madeL h (plusL_elem hr a2 b2) (by unfold addElemL; rw [if_pos]; unfold twoOk; rw [hr, elemB_true.2 a2, elemB_true.2 b2]; rfl) (add_elem_impl a1 b1 (Nat.le_refl _) (Nat.le_trans e1 (by omega)) (Nat.le_trans e2 (by omega)))
theorem eh_addM (h : Hid (EnvH w0 w b fk fp fn tk tp tn hk ha L M)) (hr : ringB tk tp tn = true) (h1 : (va, xs) ∈ M) (h2 : (vb, ys) ∈ M) : Calls Try.prog 55 #[ringV tk tp tn, va, vb] w fun e w' => ∃ v, e = .returned v ∧ Hid (EnvH w0 w' b fk fp fn tk tp tn hk ha L ((v, plusL tk tp xs ys) :: M)) := by
  obtain ⟨a1, a2⟩ := h.out.2.2 _ h1
  obtain ⟨b1, b2⟩ := h.out.2.2 _ h2
  have e1 := elem_short hr a2
  have e2 := elem_short hr b2
  exact EnvH.madeM h (plusL_elem hr a2 b2) (by unfold addElemL; rw [if_pos]; unfold twoOk; rw [hr, elemB_true.2 a2, elemB_true.2 b2]; rfl) (add_elem_impl a1 b1 (Nat.le_refl _) (Nat.le_trans e1 (by omega)) (Nat.le_trans e2 (by omega)))
theorem eh_mulL (h : Hid (EnvH w0 w b fk fp fn tk tp tn hk ha L M)) (hr : ringB fk fp fn = true) (h1 : (va, xs) ∈ L) (h2 : (vb, ys) ∈ L) : Calls Try.prog 65 #[ringV fk fp fn, va, vb] w fun e w' => ∃ v, e = .returned v ∧ Hid (EnvH w0 w' b fk fp fn tk tp tn hk ha ((v, timesL fk fp xs ys) :: L) M) := by
  obtain ⟨a1, a2⟩ := h.out.2.1 _ h1
  obtain ⟨b1, b2⟩ := h.out.2.1 _ h2
  have e1 := elem_short hr a2
  have e2 := elem_short hr b2
  exact EnvH.madeL h (timesL_elem hr a2 b2) (by unfold mulElemL; rw [if_pos]; unfold twoOk; rw [hr, elemB_true.2 a2, elemB_true.2 b2]; rfl) (mul_elem_impl a1 b1 (Nat.le_refl _) (Nat.le_trans e1 (by omega)) (Nat.le_trans e2 (by omega)))
theorem eh_mulM (h : Hid (EnvH w0 w b fk fp fn tk tp tn hk ha L M)) (hr : ringB tk tp tn = true) (h1 : (va, xs) ∈ M) (h2 : (vb, ys) ∈ M) : Calls Try.prog 65 #[ringV tk tp tn, va, vb] w fun e w' => ∃ v, e = .returned v ∧ Hid (EnvH w0 w' b fk fp fn tk tp tn hk ha L ((v, timesL tk tp xs ys) :: M)) := by
  obtain ⟨a1, a2⟩ := h.out.2.2 _ h1
  obtain ⟨b1, b2⟩ := h.out.2.2 _ h2
  have e1 := elem_short hr a2
  have e2 := elem_short hr b2
  exact EnvH.madeM h (timesL_elem hr a2 b2) (by unfold mulElemL; rw [if_pos]; unfold twoOk; rw [hr, elemB_true.2 a2, elemB_true.2 b2]; rfl) (mul_elem_impl a1 b1 (Nat.le_refl _) (Nat.le_trans e1 (by omega)) (Nat.le_trans e2 (by omega)))
theorem eh_zeroL (h : Hid (EnvH w0 w b fk fp fn tk tp tn hk ha L M)) (hr : ringB fk fp fn = true) : Calls Try.prog 67 #[ringV fk fp fn] w fun e w' => ∃ v, e = .returned v ∧ Hid (EnvH w0 w' b fk fp fn tk tp tn hk ha ((v, zeroL fk fp fn) :: L) M) :=
  EnvH.madeL h (zeroL_elem hr) (by unfold zeroOfL; rw [if_pos hr]) (zero_of_impl fk fp fn w)
theorem eh_zeroM (h : Hid (EnvH w0 w b fk fp fn tk tp tn hk ha L M)) (hr : ringB tk tp tn = true) : Calls Try.prog 67 #[ringV tk tp tn] w fun e w' => ∃ v, e = .returned v ∧ Hid (EnvH w0 w' b fk fp fn tk tp tn hk ha L ((v, zeroL tk tp tn) :: M)) :=
  EnvH.madeM h (zeroL_elem hr) (by unfold zeroOfL; rw [if_pos hr]) (zero_of_impl tk tp tn w)
theorem eh_oneL (h : Hid (EnvH w0 w b fk fp fn tk tp tn hk ha L M)) (hr : ringB fk fp fn = true) : Calls Try.prog 68 #[ringV fk fp fn] w fun e w' => ∃ v, e = .returned v ∧ Hid (EnvH w0 w' b fk fp fn tk tp tn hk ha ((v, oneL fk fp fn) :: L) M) :=
  EnvH.madeL h (oneL_elem hr) (by unfold oneOfL; rw [if_pos hr]) (one_of_impl fk fp fn w)
theorem eh_oneM (h : Hid (EnvH w0 w b fk fp fn tk tp tn hk ha L M)) (hr : ringB tk tp tn = true) : Calls Try.prog 68 #[ringV tk tp tn] w fun e w' => ∃ v, e = .returned v ∧ Hid (EnvH w0 w' b fk fp fn tk tp tn hk ha L ((v, oneL tk tp tn) :: M)) :=
  EnvH.madeM h (oneL_elem hr) (by unfold oneOfL; rw [if_pos hr]) (one_of_impl tk tp tn w)
theorem eh_apply (h : Hid (EnvH w0 w b fk fp fn tk tp tn hk ha L M)) (hh : homB fk fp fn tk tp tn hk ha = true) (h1 : (va, xs) ∈ L) : Calls Try.prog 71 #[ringV fk fp fn, ringV tk tp tn, homV hk ha, va] w fun e w' => ∃ v, e = .returned v ∧ Hid (EnvH w0 w' b fk fp fn tk tp tn hk ha L ((v, imageL fk tk tp tn hk ha xs) :: M)) := by
  obtain ⟨a1, a2⟩ := h.out.2.1 _ h1
  have e1 := elem_short (homB_parts hh).1 a2
  exact EnvH.madeM h ((hom_any hh).elem xs a2) (by unfold applyL; rw [if_pos (by rw [hh, elemB_true.2 a2]; rfl)]) (apply_impl a1 (Nat.le_refl _) (Nat.le_trans e1 (by omega)))
theorem eh_ints (h : Hid (EnvH w0 w b fk fp fn tk tp tn hk ha L M)) (hr : ringB tk tp tn = true) (h1 : (va, xs) ∈ M) (h2 : (vb, ys) ∈ M) (he : xs = ys) : Calls Try.prog 51 #[va, vb] w fun e w' => e = .returned (.bool true) ∧ Hid (EnvH w0 w' b fk fp fn tk tp tn hk ha L M) := by
  subst he
  obtain ⟨a1, a2⟩ := h.out.2.2 _ h1
  obtain ⟨b1, b2⟩ := h.out.2.2 _ h2
  have e1 := elem_short hr a2
  exact EnvH.told h ((ints_same a1 b1 (Nat.le_trans e1 (by omega))).mono fun _ _ ⟨h3, h4⟩ => ⟨h3, h4 ▸ Below.refl _ _⟩)
theorem eh_ok (h : Hid (EnvH w0 w b fk fp fn tk tp tn hk ha L M)) (hr : ringB tk tp tn = true) (h1 : (va, xs) ∈ M) : Calls Try.prog 66 #[ringV tk tp tn, va] w fun e w' => e = .returned (.bool true) ∧ Hid (EnvH w0 w' b fk fp fn tk tp tn hk ha L M) := by
  obtain ⟨a1, a2⟩ := h.out.2.2 _ h1
  have e1 := elem_short hr a2
  have e : okElemB tk tp tn xs = true := by unfold okElemB; rw [hr, elemB_true.2 a2]; rfl
  exact EnvH.told h (e ▸ elem_ok_impl a1 (Nat.le_refl _) (Nat.le_trans e1 (by omega)))
theorem eh_hom (h : Hid (EnvH w0 w b fk fp fn tk tp tn hk ha L M)) (hh : homB fk fp fn tk tp tn hk ha = true) : Calls Try.prog 72 #[ringV fk fp fn, ringV tk tp tn, homV hk ha] w fun e w' => e = .returned (.bool true) ∧ Hid (EnvH w0 w' b fk fp fn tk tp tn hk ha L M) :=
  EnvH.told h (hh ▸ hom_ok_impl fk fp fn tk tp tn hk ha w)
end
end Go.Proofs.Ytfdjlahaiogabab
