/- checkHom, HomOk of impl. -/
import Derived.Test.YtjkajbbipgmdoaaHom2
namespace Go.Proofs.Ytjkajbbipgmdoaa
open Go.RowKit

noncomputable def homB (fk fp fn tk tp tn hk ha : Int) : Bool := ringB fk fp fn && (ringB tk tp tn && decide (HomV fk fp fn tk tp tn hk ha))
/-- The block b holds a checked homomorphism of these fields. -/
structure Box8 (w : World) (b : Nat) (fk fp fn tk tp tn hk ha : Int) : Prop where
  c0 : w.cell? ⟨b, 0, none⟩ = some (.int .i64 fk)
  c1 : w.cell? ⟨b, 1, none⟩ = some (.int .i64 fp)
  c2 : w.cell? ⟨b, 2, none⟩ = some (.int .i64 fn)
  c3 : w.cell? ⟨b, 3, none⟩ = some (.int .i64 tk)
  c4 : w.cell? ⟨b, 4, none⟩ = some (.int .i64 tp)
  c5 : w.cell? ⟨b, 5, none⟩ = some (.int .i64 tn)
  c6 : w.cell? ⟨b, 6, none⟩ = some (.int .i64 hk)
  c7 : w.cell? ⟨b, 7, none⟩ = some (.int .i64 ha)
theorem Box8.below {w w' : World} {b B : Nat} {fk fp fn tk tp tn hk ha : Int} (h : Box8 w b fk fp fn tk tp tn hk ha) (hb : Below B w w') (hlt : b < B) : Box8 w' b fk fp fn tk tp tn hk ha :=
  ⟨(hb.cell (p := ⟨b, 0, none⟩) hlt).trans h.c0, (hb.cell (p := ⟨b, 1, none⟩) hlt).trans h.c1, (hb.cell (p := ⟨b, 2, none⟩) hlt).trans h.c2, (hb.cell (p := ⟨b, 3, none⟩) hlt).trans h.c3, (hb.cell (p := ⟨b, 4, none⟩) hlt).trans h.c4, (hb.cell (p := ⟨b, 5, none⟩) hlt).trans h.c5, (hb.cell (p := ⟨b, 6, none⟩) hlt).trans h.c6, (hb.cell (p := ⟨b, 7, none⟩) hlt).trans h.c7⟩
theorem Box8.new (w : World) (fk fp fn tk tp tn hk ha : Int) (T : TypeId) : Box8 (w.alloc (.cells #[.int .i64 fk, .int .i64 fp, .int .i64 fn, .int .i64 tk, .int .i64 tp, .int .i64 tn, .int .i64 hk, .int .i64 ha] T)) w.heap.size fk fp fn tk tp tn hk ha :=
  ⟨by rw [World.cell?_alloc_new]; rfl, by rw [World.cell?_alloc_new]; rfl, by rw [World.cell?_alloc_new]; rfl, by rw [World.cell?_alloc_new]; rfl, by rw [World.cell?_alloc_new]; rfl, by rw [World.cell?_alloc_new]; rfl, by rw [World.cell?_alloc_new]; rfl, by rw [World.cell?_alloc_new]; rfl⟩
/-- The three boxes of the parameters, and what is kept along the calls. -/
structure Inv3 (w0 w : World) (b : Nat) (fk fp fn tk tp tn hk ha : Int) : Prop where
  bel : Below w0.heap.size w0 w
  hb : w0.heap.size ≤ b
  lt : b + 2 < w.heap.size
  fr : BoxAt w b fk fp fn
  to : BoxAt w (b + 1) tk tp tn
  h0 : w.cell? ⟨b + 1 + 1, 0, none⟩ = some (.int .i64 hk)
  h1 : w.cell? ⟨b + 1 + 1, 1, none⟩ = some (.int .i64 ha)
theorem Inv3.box (w : World) (fk fp fn tk tp tn hk ha : Int) (T T2 : TypeId) : Inv3 w (((w.alloc (.cells (ringC fk fp fn) T)).alloc (.cells (ringC tk tp tn) T)).alloc (.cells (homC hk ha) T2)) w.heap.size fk fp fn tk tp tn hk ha := by
  have hb1 := (Below.refl w.heap.size w).alloc (Nat.le_refl _) (.cells (ringC fk fp fn) T)
  have hb2 := (Below.refl (w.alloc (.cells (ringC fk fp fn) T)).heap.size (w.alloc (.cells (ringC fk fp fn) T))).alloc (Nat.le_refl _) (.cells (ringC tk tp tn) T)
  have hb3 := (Below.refl ((w.alloc (.cells (ringC fk fp fn) T)).alloc (.cells (ringC tk tp tn) T)).heap.size ((w.alloc (.cells (ringC fk fp fn) T)).alloc (.cells (ringC tk tp tn) T))).alloc (Nat.le_refl _) (.cells (homC hk ha) T2)
  refine ⟨hb1.trans ((hb2.mono (by simp)).trans (hb3.mono (by simp; omega))), Nat.le_refl _, by simp, ?_, ?_, ?_, ?_⟩
  · exact ((BoxAt.new w fk fp fn T).below hb2 (by simp)).below hb3 (by simp; omega)
  · have h := (BoxAt.new (w.alloc (.cells (ringC fk fp fn) T)) tk tp tn T).below hb3 (by simp)
    rw [World.size_alloc] at h
    exact h
  · have h : (((w.alloc (.cells (ringC fk fp fn) T)).alloc (.cells (ringC tk tp tn) T)).alloc (.cells (homC hk ha) T2)).cell? ⟨((w.alloc (.cells (ringC fk fp fn) T)).alloc (.cells (ringC tk tp tn) T)).heap.size, 0, none⟩ = some (.int .i64 hk) := by rw [World.cell?_alloc_new]; rfl
    rw [World.size_alloc, World.size_alloc] at h
    exact h
  · have h : (((w.alloc (.cells (ringC fk fp fn) T)).alloc (.cells (ringC tk tp tn) T)).alloc (.cells (homC hk ha) T2)).cell? ⟨((w.alloc (.cells (ringC fk fp fn) T)).alloc (.cells (ringC tk tp tn) T)).heap.size, 1, none⟩ = some (.int .i64 ha) := by rw [World.cell?_alloc_new]; rfl
    rw [World.size_alloc, World.size_alloc] at h
    exact h
theorem Inv3.step {w0 w w1 : World} {b : Nat} {fk fp fn tk tp tn hk ha : Int} (h : Inv3 w0 w b fk fp fn tk tp tn hk ha) (hb : Below w.heap.size w w1) : Inv3 w0 w1 b fk fp fn tk tp tn hk ha := by
  have h1 := h.lt
  exact ⟨h.bel.trans (hb.mono h.bel.size), h.hb, Nat.lt_of_lt_of_le h1 hb.size, h.fr.below hb (by omega), h.to.below hb (by omega), (hb.cell (p := ⟨b + 1 + 1, 0, none⟩) (by simpa using h1)).trans h.h0, (hb.cell (p := ⟨b + 1 + 1, 1, none⟩) (by simpa using h1)).trans h.h1⟩
theorem Inv3.cells {w0 w : World} {b : Nat} {fk fp fn tk tp tn hk ha : Int} (h : Inv3 w0 w b fk fp fn tk tp tn hk ha) : w.cell? ⟨b, 0, none⟩ = some (.int .i64 fk) ∧ w.cell? ⟨b, 1, none⟩ = some (.int .i64 fp) ∧ w.cell? ⟨b, 2, none⟩ = some (.int .i64 fn) ∧
    w.cell? ⟨b + 1, 0, none⟩ = some (.int .i64 tk) ∧ w.cell? ⟨b + 1, 1, none⟩ = some (.int .i64 tp) ∧ w.cell? ⟨b + 1, 2, none⟩ = some (.int .i64 tn) ∧ w.cell? ⟨b + 1 + 1, 0, none⟩ = some (.int .i64 hk) ∧ w.cell? ⟨b + 1 + 1, 1, none⟩ = some (.int .i64 ha) :=
  ⟨h.fr.1, h.fr.2.1, h.fr.2.2, h.to.1, h.to.2.1, h.to.2.2, h.h0, h.h1⟩
/-- A call that keeps what lay: the boxes are carried across. -/
theorem Inv3.call {P : Program} {f : FuncId} {args : Array Value} {w0 w : World} {b : Nat} {fk fp fn tk tp tn hk ha : Int} {R : Ending → Prop} (h : Hid (Inv3 w0 w b fk fp fn tk tp tn hk ha)) (hc : Calls P f args w fun e w' => R e ∧ Below w.heap.size w w') :
    Calls P f args w fun e w' => R e ∧ Hid (Inv3 w0 w' b fk fp fn tk tp tn hk ha) ∧ w'.cell? ⟨b, 0, none⟩ = some (.int .i64 fk) ∧ w'.cell? ⟨b, 1, none⟩ = some (.int .i64 fp) ∧ w'.cell? ⟨b, 2, none⟩ = some (.int .i64 fn) ∧
    w'.cell? ⟨b + 1, 0, none⟩ = some (.int .i64 tk) ∧ w'.cell? ⟨b + 1, 1, none⟩ = some (.int .i64 tp) ∧ w'.cell? ⟨b + 1, 2, none⟩ = some (.int .i64 tn) ∧ w'.cell? ⟨b + 1 + 1, 0, none⟩ = some (.int .i64 hk) ∧ w'.cell? ⟨b + 1 + 1, 1, none⟩ = some (.int .i64 ha) :=
  hc.mono fun _ _ ⟨h1, h2⟩ => ⟨h1, Lib.hid (h.out.step h2), (h.out.step h2).cells⟩

def CheckPost (ok : Bool) (fk fp fn tk tp tn hk ha : Int) (w : World) (e : Ending) (w' : World) : Prop :=
  Below w.heap.size w w' ∧ if ok = true then ∃ b, e = .returned (.pointer (some ⟨b, 0, none⟩)) ∧ w.heap.size ≤ b ∧ b < w'.heap.size ∧ Box8 w' b fk fp fn tk tp tn hk ha else e = .returned (.pointer none)

set_option maxHeartbeats 800000 in
theorem check_from (fk fp fn tk tp tn hk ha : Int) (w : World) (hf : ringB fk fp fn = false) :
    Calls Try.prog 57 #[ringV fk fp fn, ringV tk tp tn, homV hk ha] w fun e w' => Below w.heap.size w w' ∧ e = .returned (.pointer none) := by
  have HF := Lib.hid hf
  clear hf
  go_enter Try.func57, Try.ntmps57
  go_wp2_with fail
  refine (Inv3.call (Lib.hid (Inv3.box w fk fp fn tk tp tn hk ha _ _)) (ring_ok_impl fk fp fn _)).mono ?_
  rw [HF.out]
  rintro e w1 ⟨rfl, HV1, c0, c1, c2, d0, d1, d2, e0, e1⟩
  go_wp2
  go_ret
  exact ⟨HV1.out.bel, rfl⟩
set_option maxHeartbeats 800000 in
theorem check_to (fk fp fn tk tp tn hk ha : Int) (w : World) (hf : ringB fk fp fn = true) (ht : ringB tk tp tn = false) :
    Calls Try.prog 57 #[ringV fk fp fn, ringV tk tp tn, homV hk ha] w fun e w' => Below w.heap.size w w' ∧ e = .returned (.pointer none) := by
  have HF := Lib.hid hf
  have HT := Lib.hid ht
  clear hf ht
  go_enter Try.func57, Try.ntmps57
  go_wp2_with fail
  refine (Inv3.call (Lib.hid (Inv3.box w fk fp fn tk tp tn hk ha _ _)) (ring_ok_impl fk fp fn _)).mono ?_
  rw [HF.out]
  rintro e w1 ⟨rfl, HV1, c0, c1, c2, d0, d1, d2, e0, e1⟩
  go_wp2_with fail
  refine (Inv3.call HV1 (ring_ok_impl tk tp tn _)).mono ?_
  rw [HT.out]
  clear c0 c1 c2 d0 d1 d2 e0 e1
  rintro e w2 ⟨rfl, HV2, c0, c1, c2, d0, d1, d2, e0, e1⟩
  go_wp2
  go_ret
  exact ⟨HV2.out.bel, rfl⟩
set_option maxHeartbeats 800000 in
theorem check_hom (fk fp fn tk tp tn hk ha : Int) (w : World) (hf : ringB fk fp fn = true) (ht : ringB tk tp tn = true) :
    Calls Try.prog 57 #[ringV fk fp fn, ringV tk tp tn, homV hk ha] w (CheckPost (decide (HomV fk fp fn tk tp tn hk ha)) fk fp fn tk tp tn hk ha w) := by
  obtain ⟨ok, hok⟩ : ∃ ok, ok = decide (HomV fk fp fn tk tp tn hk ha) := ⟨_, rfl⟩
  rw [← hok]
  have HF := Lib.hid hf
  have HT := Lib.hid ht
  have HO := Lib.hid hok
  clear hf ht hok
  go_enter Try.func57, Try.ntmps57
  go_wp2_with fail
  refine (Inv3.call (Lib.hid (Inv3.box w fk fp fn tk tp tn hk ha _ _)) (ring_ok_impl fk fp fn _)).mono ?_
  rw [HF.out]
  rintro e w1 ⟨rfl, HV1, c0, c1, c2, d0, d1, d2, e0, e1⟩
  go_wp2_with fail
  refine (Inv3.call HV1 (ring_ok_impl tk tp tn _)).mono ?_
  rw [HT.out]
  clear c0 c1 c2 d0 d1 d2 e0 e1
  rintro e w2 ⟨rfl, HV2, c0, c1, c2, d0, d1, d2, e0, e1⟩
  go_wp2_with fail
  refine (Inv3.call HV2 (connects_impl fk fp fn tk tp tn hk ha _ HF.out)).mono ?_
  rw [← HO.out]
  clear c0 c1 c2 d0 d1 d2 e0 e1
  rintro e w3 ⟨rfl, HV3, c0, c1, c2, d0, d1, d2, e0, e1⟩
  cases ok with
  | false =>
    go_wp2
    go_ret
    exact ⟨HV3.out.bel, rfl⟩
  | true =>
    go_wp2
    go_ret
    refine ⟨HV3.out.bel.alloc HV3.out.bel.size _, ?_⟩
    rw [if_pos rfl]
    exact ⟨w3.heap.size, rfl, HV3.out.bel.size, by simp, Box8.new w3 fk fp fn tk tp tn hk ha _⟩
/-- impl.checkHom. -/
theorem check_any (fk fp fn tk tp tn hk ha : Int) (w : World) :
    Calls Try.prog 57 #[ringV fk fp fn, ringV tk tp tn, homV hk ha] w (CheckPost (homB fk fp fn tk tp tn hk ha) fk fp fn tk tp tn hk ha w) := by
  cases hf : ringB fk fp fn with
  | false =>
    have e : homB fk fp fn tk tp tn hk ha = false := by simp [homB, hf]
    rw [e]
    exact (check_from fk fp fn tk tp tn hk ha w hf).mono fun _ _ ⟨h1, h2⟩ => ⟨h1, by rw [if_neg (by simp)]; exact h2⟩
  | true =>
    cases ht : ringB tk tp tn with
    | false =>
      have e : homB fk fp fn tk tp tn hk ha = false := by simp [homB, ht]
      rw [e]
      exact (check_to fk fp fn tk tp tn hk ha w hf ht).mono fun _ _ ⟨h1, h2⟩ => ⟨h1, by rw [if_neg (by simp)]; exact h2⟩
    | true =>
      have e : homB fk fp fn tk tp tn hk ha = decide (HomV fk fp fn tk tp tn hk ha) := by simp [homB, hf, ht]
      rw [e]
      exact check_hom fk fp fn tk tp tn hk ha w hf ht
set_option maxHeartbeats 800000 in
/-- impl.HomOk. -/
theorem hom_ok_impl (fk fp fn tk tp tn hk ha : Int) (w : World) :
    Calls Try.prog 20 #[ringV fk fp fn, ringV tk tp tn, homV hk ha] w fun e w' => e = .returned (.bool (homB fk fp fn tk tp tn hk ha)) ∧ Below w.heap.size w w' := by
  have H0 := Lib.hid (Inv3.box w fk fp fn tk tp tn hk ha 27 29)
  obtain ⟨ok, hok⟩ : ∃ ok, ok = homB fk fp fn tk tp tn hk ha := ⟨_, rfl⟩
  rw [← hok]
  have HO := Lib.hid hok
  clear hok
  go_enter Try.func20, Try.ntmps20
  go_wp2_with fail
  refine (check_any fk fp fn tk tp tn hk ha _).mono ?_
  rw [← HO.out]
  rintro e w1 ⟨hb, h1⟩
  have HB := Lib.hid (H0.out.bel.trans (hb.mono H0.out.bel.size))
  clear hb
  cases ok with
  | false =>
    obtain rfl : e = .returned (.pointer none) := by simpa using h1
    go_wp2
    go_ret
    exact ⟨rfl, HB.out⟩
  | true =>
    rw [if_pos rfl] at h1
    obtain ⟨b, rfl, h2, h3, h4⟩ := h1
    clear h2 h3 h4
    go_wp2
    go_ret
    exact ⟨rfl, HB.out⟩
end Go.Proofs.Ytjkajbbipgmdoaa
