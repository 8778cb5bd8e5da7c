
/- toHom; the hom's box; spec.HomOk. -/
import Derived.Test.YtfdjlahaiogababHomSpec
namespace Go.Proofs.Ytfdjlahaiogabab
set_option maxRecDepth 20000
open Go.RowKit

/-- The block b holds a homomorphism of these fields. -/
def HomAt (w : World) (b : Nat) (k a : Int) : Prop := w.cell? ⟨b, 0, none⟩ = some (.int .i64 k) ∧ w.cell? ⟨b, 1, none⟩ = some (.int .i64 a)
theorem HomAt.below {w w' : World} {b B : Nat} {k a : Int} (h : HomAt w b k a) (hb : Below B w w') (hlt : b < B) : HomAt w' b k a :=
  ⟨(hb.cell (p := ⟨b, 0, none⟩) hlt).trans h.1, (hb.cell (p := ⟨b, 1, none⟩) hlt).trans h.2⟩
theorem HomAt.grown {w w' : World} {b : Nat} {k a : Int} {row : Option Nat} (h : HomAt w b k a) (hg : w.grownBy w' row) (hlt : b < w.heap.size) (hne : ∀ g, row = some g → b < g) : HomAt w' b k a := by
  have hb : w'.heap[b]? = w.heap[b]? := hg.block b hlt (fun e => by have := hne b e.symm; omega)
  have hc : ∀ o, w'.cell? ⟨b, o, none⟩ = w.cell? ⟨b, o, none⟩ := fun o => World.cell?_of_block (w := w) hb
  exact ⟨(hc 0).trans h.1, (hc 1).trans h.2⟩
theorem HomAt.new (w : World) (k a : Int) (T : TypeId) : HomAt (w.alloc (.cells #[.int .i64 k, .int .i64 a] T)) w.heap.size k a :=
  ⟨by rw [World.cell?_alloc_new]; rfl, by rw [World.cell?_alloc_new]; rfl⟩
set_option maxHeartbeats 400000 in
theorem to_hom (k a : Int) (w : World) :
    Calls Try.prog 31 #[homV k a] w fun e w' => e = .returned (homV k a) ∧ Below w.heap.size w w' := by
  go_enter Try.func31, Try.ntmps31
  go_wp2
  refine bodyPost_ret (v := homV k a) (by simp [results, Try.results31, go_sem]) rfl ⟨rfl, ?_⟩
  exact (((Below.refl _ _).alloc (Nat.le_refl _) _).alloc (by simp) _).alloc (by simp; omega) _

set_option maxRecDepth 100000 in
set_option maxHeartbeats 800000 in
theorem spec_from (fk fp fn tk tp tn hk ha : Int) (w : World) (hf : ringB fk fp fn = false) :
    Calls Try.prog 89 #[ringV fk fp fn, ringV tk tp tn, homV hk ha] w fun e w' => e = .returned (.bool false) ∧ Below w.heap.size w w' := by
  have HF := Lib.hid hf
  clear hf
  go_enter Try.func89, Try.ntmps89
  go_wp2_with fail
  refine (Inv3.call (Lib.hid (Inv3.box w fk fp fn tk tp tn hk ha _ _)) (ring_ok_spec fk fp fn _)).mono ?_
  rw [HF.out]
  rintro e w1 ⟨rfl, HV1, c0, c1, c2, d0, d1, d2, e0, e1⟩
  go_wp2
  go_ret
  exact ⟨rfl, HV1.out.bel⟩
set_option maxRecDepth 100000 in
set_option maxHeartbeats 800000 in
theorem spec_to (fk fp fn tk tp tn hk ha : Int) (w : World) (hf : ringB fk fp fn = true) (ht : ringB tk tp tn = false) :
    Calls Try.prog 89 #[ringV fk fp fn, ringV tk tp tn, homV hk ha] w fun e w' => e = .returned (.bool false) ∧ Below w.heap.size w w' := by
  have HF := Lib.hid hf
  have HT := Lib.hid ht
  clear hf ht
  go_enter Try.func89, Try.ntmps89
  go_wp2_with fail
  refine (Inv3.call (Lib.hid (Inv3.box w fk fp fn tk tp tn hk ha _ _)) (ring_ok_spec fk fp fn _)).mono ?_
  rw [HF.out]
  rintro e w1 ⟨rfl, HV1, c0, c1, c2, d0, d1, d2, e0, e1⟩
  go_wp2_with fail
  refine (Inv3.call HV1 (ring_ok_spec tk tp tn _)).mono ?_
  rw [HT.out]
  clear c0 c1 c2 d0 d1 d2 e0 e1
  rintro e w2 ⟨rfl, HV2, c0, c1, c2, d0, d1, d2, e0, e1⟩
  go_wp2
  go_ret
  exact ⟨rfl, HV2.out.bel⟩
theorem hom_spec_valid (fk fp fn tk tp tn hk ha : Int) (w : World) (hf : ringB fk fp fn = true) (ht : ringB tk tp tn = true) :
    Calls Try.prog 89 #[ringV fk fp fn, ringV tk tp tn, homV hk ha] w fun e w' => e = .returned (.bool (decide (HomV fk fp fn tk tp tn hk ha))) ∧ Below w.heap.size w w' := by
  by_cases h3 : hk = 3
  · subst h3; exact spec_h3 fk fp fn tk tp tn ha w hf ht
  by_cases h4 : hk = 4
  · subst h4; exact spec_h4 fk fp fn tk tp tn ha w hf ht
  by_cases h6 : hk = 6
  · subst h6
    by_cases h8 : fk = 8
    case neg => exact spec_h6a fk fp fn tk tp tn ha w hf ht (by simpa using h8)
    subst h8
    by_cases h2 : tk = 2
    case neg => exact spec_h6b fp fn tk tp tn ha w hf ht (by simpa using h2)
    subst h2
    by_cases hp : fp = tp
    case neg => exact spec_h6c fp fn tp tn ha w hf ht (by simpa using hp)
    subst hp
    cases hi : inB ha 1 (fp - 1) with
    | false => exact spec_h6d fp fn tn ha w hf ht hi
    | true => exact spec_h6e fp fn tn ha w hf ht hi
  by_cases h0 : ha = 0
  case neg => exact spec_ha fk fp fn tk tp tn hk ha w hf ht (by simpa using h3) (by simpa using h4) (by simpa using h6) (by simpa using h0)
  subst h0
  by_cases h1 : hk = 1
  · subst h1; exact spec_h1 fk fp fn tk tp tn w hf ht
  by_cases h2 : hk = 2
  · subst h2; exact spec_h2 fk fp fn tk tp tn w hf ht
  by_cases h5 : hk = 5
  · subst h5; exact spec_h5 fk fp fn tk tp tn w hf ht
  by_cases h7 : hk = 7
  · subst h7; exact spec_h7 fk fp fn tk tp tn w hf ht
  by_cases h8 : hk = 8
  · subst h8; exact spec_h8 fk fp fn tk tp tn w hf ht
  exact spec_ho fk fp fn tk tp tn hk w hf ht (by simpa using h3) (by simpa using h4) (by simpa using h6) (by simpa using h1) (by simpa using h2) (by simpa using h5) (by simpa using h7) (by simpa using h8)
/-- spec.HomOk. -/
theorem hom_ok_spec (fk fp fn tk tp tn hk ha : Int) (w : World) :
    Calls Try.prog 89 #[ringV fk fp fn, ringV tk tp tn, homV hk ha] w fun e w' => e = .returned (.bool (homB fk fp fn tk tp tn hk ha)) ∧ Below w.heap.size w w' := by
  cases hf : ringB fk fp fn with
  | false => rw [show homB fk fp fn tk tp tn hk ha = false by simp [homB, hf]]; exact spec_from fk fp fn tk tp tn hk ha w hf
  | true =>
    cases ht : ringB tk tp tn with
    | false => rw [show homB fk fp fn tk tp tn hk ha = false by simp [homB, ht]]; exact spec_to fk fp fn tk tp tn hk ha w hf ht
    | true => rw [show homB fk fp fn tk tp tn hk ha = decide (HomV fk fp fn tk tp tn hk ha) by simp [homB, hf, ht]]; exact hom_spec_valid fk fp fn tk tp tn hk ha w hf ht
end Go.Proofs.Ytfdjlahaiogabab
