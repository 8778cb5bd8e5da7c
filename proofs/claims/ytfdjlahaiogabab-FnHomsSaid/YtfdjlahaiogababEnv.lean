
/- A world with a ring's variable and elements that are read: what the functions of rings do there. -/
import Derived.Test.YtfdjlahaiogababDrawn
import Derived.Test.YtfdjlahaiogababPairsMath
import Derived.Test.YtfdjlahaiogababSum
namespace Go.Proofs.Ytfdjlahaiogabab
set_option maxRecDepth 20000
open Go.RowKit

set_option maxHeartbeats 800000 in
theorem ints_same {B B' : Nat} {va vb : Value} {xs : List Int} {w : World} (ha : Rd B w va (ints xs)) (hb : Rd B' w vb (ints xs)) (hn : xs.length ≤ 281474976710656) :
    Calls Try.prog 51 #[va, vb] w fun e w' => e = .returned (.bool true) ∧ w = w' := by
  obtain ⟨a, ca, rfl, hca⟩ := ints_form ha
  obtain ⟨b, cb, rfl, hcb⟩ := ints_form hb
  obtain ⟨n, hnn⟩ : ∃ n, n = xs.length := ⟨_, rfl⟩
  rw [← hnn] at hn ⊢
  have HN := Lib.hid hnn.symm
  have HA := Lib.hid hca
  have HBB := Lib.hid hcb
  clear ha hb hca hcb hnn
  go_enter Try.func51, Try.ntmps51
  go_wp2
  go_loop [9] (fun i => ∃ j : Nat, j ≤ n ∧ i = .int .i64 j) (fun i => n - (intOf i).toNat)
  case atStart => exact ⟨0, by omega, rfl⟩
  case round =>
    obtain ⟨j, hj, rfl⟩ := hrel
    by_cases hlt : j < n
    · obtain ⟨ba, oa, rfl, -, hc1⟩ := HA.out (by rw [HN.out]; omega)
      obtain ⟨bb, ob, rfl, -, hc2⟩ := HBB.out (by rw [HN.out]; omega)
      obtain ⟨x, e1, X1⟩ := ints_cell HN.out hc1 hlt
      obtain ⟨y, e2, Y1⟩ := ints_cell HN.out hc2 hlt
      obtain rfl : x = y := Option.some.inj (X1.out.symm.trans Y1.out)
      have hge : decide (n ≤ j) = false := by simp; omega
      clear hc1 hc2
      go_wp2
      go_round
      case rel => exact ⟨j + 1, by omega, by go_num⟩
      case measure => simp [intOf]; omega
    · obtain rfl : j = n := by omega
      go_wp2
      go_ret
      exact ⟨rfl, rfl⟩

/-- Elements that are read, behind w0, next to the ring's variable rb. -/
def Env (w0 w : World) (rb : Nat) (k p q : Int) (L : List (Value × List Int)) : Prop :=
  Below w0.heap.size w0 w ∧ BoxAt w rb k p q ∧ rb < w.heap.size ∧ ringB k p q = true ∧ ∀ x ∈ L, Rd w.heap.size w x.1 (ints x.2) ∧ ElemV k p q x.2
theorem Env.step {w0 w w1 : World} {rb : Nat} {k p q : Int} {L : List (Value × List Int)} (h : Env w0 w rb k p q L) (hb : Below w.heap.size w w1) : Env w0 w1 rb k p q L :=
  ⟨h.1.trans (hb.mono h.1.size), h.2.1.below hb h.2.2.1, Nat.lt_of_lt_of_le h.2.2.1 hb.size, h.2.2.2.1, fun x hx => ⟨((h.2.2.2.2 x hx).1.below hb (Nat.le_refl _)).mono hb.size, (h.2.2.2.2 x hx).2⟩⟩
theorem Env.add {w0 w : World} {rb : Nat} {k p q : Int} {L : List (Value × List Int)} (h : Env w0 w rb k p q L) {v : Value} {xs : List Int} (hr : Rd w.heap.size w v (ints xs)) (he : ElemV k p q xs) : Env w0 w rb k p q ((v, xs) :: L) :=
  ⟨h.1, h.2.1, h.2.2.1, h.2.2.2.1, fun x hx => by
    rcases List.mem_cons.1 hx with rfl | hx
    · exact ⟨hr, he⟩
    · exact h.2.2.2.2 x hx⟩
theorem Env.heap {w0 w w1 : World} {rb : Nat} {k p q : Int} {L : List (Value × List Int)} (h : Env w0 w rb k p q L) {n : Nat} (hw : w1 = w.drewN n) : Env w0 w1 rb k p q L := h.step (below_of_drewN hw)
theorem Env.drew {w0 w : World} {rb : Nat} {k p q : Int} {L : List (Value × List Int)} (h : Env w0 w rb k p q L) : Env w0 w.drew rb k p q L := h.step (Below.drew (Below.refl _ _))
abbrev Cells (w : World) (rb : Nat) (k p q : Int) : Prop := w.cell? ⟨rb, 0, none⟩ = some (.int .i64 k) ∧ w.cell? ⟨rb, 1, none⟩ = some (.int .i64 p) ∧ w.cell? ⟨rb, 2, none⟩ = some (.int .i64 q)
/-- What a call that makes an element answers. -/
def EnvPost (w0 : World) (rb : Nat) (k p q : Int) (L : List (Value × List Int)) (zs : List Int) (e : Ending) (w' : World) : Prop := ∃ v, e = .returned v ∧ Hid (Env w0 w' rb k p q ((v, zs) :: L)) ∧ Cells w' rb k p q
theorem Env.made {P : Program} {f : Nat} {args : Array Value} {w0 w : World} {rb : Nat} {k p q : Int} {L : List (Value × List Int)} {zs zs' : List Int} (h : Hid (Env w0 w rb k p q L)) (he : ElemV k p q zs) (hz : zs' = zs) (hc : Calls P f args w (NewRow w zs')) : Calls P f args w (EnvPost w0 rb k p q L zs) :=
  hc.mono fun _ _ ⟨v, h1, ho, hb⟩ => ⟨v, h1, (h.out.step hb).add (hz ▸ ho.rd.mono ho.2.2) he, (h.out.step hb).2.1⟩
theorem Env.told {P : Program} {f : Nat} {args : Array Value} {w0 w : World} {rb : Nat} {k p q : Int} {L : List (Value × List Int)} {R : Ending → Prop} (h : Hid (Env w0 w rb k p q L)) (hc : Calls P f args w fun e w' => R e ∧ Below w.heap.size w w') : Calls P f args w fun e w' => R e ∧ Hid (Env w0 w' rb k p q L) ∧ Cells w' rb k p q :=
  hc.mono fun _ _ ⟨h1, hb⟩ => ⟨h1, h.out.step hb, (h.out.step hb).2.1⟩
section
variable {w0 w : World} {rb : Nat} {k p q : Int} {L : List (Value × List Int)} {va vb : Value} {xs ys : List Int}
theorem elem_short (hr : ringB k p q = true) (h : ElemV k p q xs) : xs.length ≤ 6 := by have := ring_width hr; have := h.1; omega
theorem env_add (h : Hid (Env w0 w rb k p q L)) (h1 : (va, xs) ∈ L) (h2 : (vb, ys) ∈ L) : Calls Try.prog 55 #[ringV k p q, va, vb] w (EnvPost w0 rb k p q L (plusL k p xs ys)) := by
  obtain ⟨a1, a2⟩ := h.out.2.2.2.2 _ h1
  obtain ⟨b1, b2⟩ := h.out.2.2.2.2 _ h2
  have hr := h.out.2.2.2.1
  have e1 := elem_short hr a2
  have e2 := elem_short hr b2
  exact Env.made h (plusL_elem hr a2 b2) (by unfold addElemL; rw [if_pos]; unfold twoOk; rw [hr, elemB_true.2 a2, elemB_true.2 b2]; rfl) (add_elem_impl a1 b1 (Nat.le_refl _) (Nat.le_trans e1 (by omega)) (Nat.le_trans e2 (by omega)))
theorem env_mul (h : Hid (Env w0 w rb k p q L)) (h1 : (va, xs) ∈ L) (h2 : (vb, ys) ∈ L) : Calls Try.prog 65 #[ringV k p q, va, vb] w (EnvPost w0 rb k p q L (timesL k p xs ys)) := by
  obtain ⟨a1, a2⟩ := h.out.2.2.2.2 _ h1
  obtain ⟨b1, b2⟩ := h.out.2.2.2.2 _ h2
  have hr := h.out.2.2.2.1
  have e1 := elem_short hr a2
  have e2 := elem_short hr b2
  exact Env.made h (timesL_elem hr a2 b2) (by unfold mulElemL; rw [if_pos]; unfold twoOk; rw [hr, elemB_true.2 a2, elemB_true.2 b2]; rfl) (mul_elem_impl a1 b1 (Nat.le_refl _) (Nat.le_trans e1 (by omega)) (Nat.le_trans e2 (by omega)))
theorem env_zero (h : Hid (Env w0 w rb k p q L)) : Calls Try.prog 67 #[ringV k p q] w (EnvPost w0 rb k p q L (zeroL k p q)) :=
  Env.made h (zeroL_elem h.out.2.2.2.1) (by unfold zeroOfL; rw [if_pos h.out.2.2.2.1]) (zero_of_impl k p q w)
theorem env_one (h : Hid (Env w0 w rb k p q L)) : Calls Try.prog 68 #[ringV k p q] w (EnvPost w0 rb k p q L (oneL k p q)) :=
  Env.made h (oneL_elem h.out.2.2.2.1) (by unfold oneOfL; rw [if_pos h.out.2.2.2.1]) (one_of_impl k p q w)
theorem env_count (h : Hid (Env w0 w rb k p q L)) (c : Nat) {z : Int} (hz : z = (c : Int)) (hc : c ≤ 1000000) : Calls Try.prog 64 #[ringV k p q, .int .i64 z] w (EnvPost w0 rb k p q L (countL k p q c)) := by
  subst hz
  exact Env.made h (count_elem h.out.2.2.2.1 c) (by unfold countElemL; rw [if_pos (by simp [h.out.2.2.2.1])]; rfl) (count_impl k p q c w (by omega))
theorem env_pow (h : Hid (Env w0 w rb k p q L)) (h1 : (va, xs) ∈ L) (c : Nat) {z : Int} (hz : z = (c : Int)) (hc : c ≤ 1000) : Calls Try.prog 70 #[ringV k p q, va, .int .i64 z] w (EnvPost w0 rb k p q L (powL k p q xs c)) := by
  subst hz
  obtain ⟨a1, a2⟩ := h.out.2.2.2.2 _ h1
  have hr := h.out.2.2.2.1
  have e1 := elem_short hr a2
  exact Env.made h (pow_elem hr a2 c) (by unfold powElemL okElemB inB; rw [if_pos (by rw [hr, elemB_true.2 a2]; simp; omega)]; rfl) (pow_impl a1 (Nat.le_refl _) (Nat.le_trans e1 (by omega)))
theorem env_ints (h : Hid (Env w0 w rb k p q L)) (h1 : (va, xs) ∈ L) (h2 : (vb, ys) ∈ L) (he : xs = ys) : Calls Try.prog 51 #[va, vb] w fun e w' => e = .returned (.bool true) ∧ Hid (Env w0 w' rb k p q L) ∧ Cells w' rb k p q := by
  subst he
  obtain ⟨a1, a2⟩ := h.out.2.2.2.2 _ h1
  obtain ⟨b1, b2⟩ := h.out.2.2.2.2 _ h2
  have e1 := elem_short h.out.2.2.2.1 a2
  exact Env.told h ((ints_same a1 b1 (Nat.le_trans e1 (by omega))).mono fun _ _ ⟨h3, h4⟩ => ⟨h3, h4 ▸ Below.refl _ _⟩)
theorem env_ok (h : Hid (Env w0 w rb k p q L)) (h1 : (va, xs) ∈ L) : Calls Try.prog 66 #[ringV k p q, va] w fun e w' => e = .returned (.bool true) ∧ Hid (Env w0 w' rb k p q L) ∧ Cells w' rb k p q := by
  obtain ⟨a1, a2⟩ := h.out.2.2.2.2 _ h1
  have hr := h.out.2.2.2.1
  have e1 := elem_short hr a2
  have e : okElemB k p q xs = true := by unfold okElemB; rw [hr, elemB_true.2 a2]; rfl
  exact Env.told h (e ▸ elem_ok_impl a1 (Nat.le_refl _) (Nat.le_trans e1 (by omega)))
theorem env_width (h : Hid (Env w0 w rb k p q L)) : Calls Try.prog 69 #[ringV k p q] w fun e w' => e = .returned (.int .i64 (widthI k q)) ∧ Hid (Env w0 w' rb k p q L) ∧ Cells w' rb k p q := by
  have e : ringWidthI k p q = widthI k q := by unfold ringWidthI; rw [if_pos h.out.2.2.2.1]
  exact Env.told h (e ▸ ring_width_impl k p q w)
end
end Go.Proofs.Ytfdjlahaiogabab
