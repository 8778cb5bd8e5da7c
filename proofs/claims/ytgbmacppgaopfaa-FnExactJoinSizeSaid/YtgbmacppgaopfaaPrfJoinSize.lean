
/- FnExactJoinSize holds at every argument. -/
import Derived.Test.YtgbmacppgaopfaaLawJoinSizeT
import Derived.Test.YtgbmacppgaopfaaOpenTen
import Derived.Test.YtgbmacppgaopfaaRows
import Derived.ProofKit
import Derived.LaidMore
import Derived.OpenShut
import Derived.Stop.Joined
import Derived.Stop.LaidErr
import Derived.SevenTiedAt
import Derived.SizedLaws
import Derived.ShutString
namespace Go.Proofs.Ytgbmacppgaopfaa
set_option maxRecDepth 20000
open Go.ChangeShapes Go.WideShapes Go.ChangeAt Go.WideMaps Go.WideElems Go.RowKit
open Go.ChangeMaps (open_string shut_string)
namespace join_size

theorem band {a b : Bool} (h : a = true) (k : b = true) : (a && b) = true := by rw [h, k]; rfl

theorem own : ownKnob Try.prog.godebug = none := by kernel_rfl

set_option maxRecDepth 100000 in
theorem lifted (os : Os) (started : os.Started) (H : Type) (enc : TypeId × Value → H) :
    ReturnsInHanded {} Try.checked os 10 .any (fun w args => Rows.fnExactJoinSizeSpec.pre enc Try.prog Try.f10 [] false w args ∧ sizedMet enc Try.prog Try.f10 (OpenSpec.ofChange Rows.fnExactJoinSizeSpec) false w args)
      (Rows.fnExactJoinSizeSpec.post enc Try.prog Try.f10 false true false false) := by
  refine returnsInHanded_of_change_sized (C := Try.checked) own started (by kernel_rfl) Try.func10
    (ChangeSpec.witness6 (enc := enc) (C := Try.checked) (os := os) false ⟨#[], #[.agg #[.slice none 0 0, .slice none 0 0, .slice none 0 0], .agg #[.slice none 0 0, .slice none 0 0, .slice none 0 0]], []⟩ 8 (by kernel_rfl) (by kernel_rfl) (by kernel_rfl) (by kernel_rfl)) ?_
  intro W base args ds gs before hval0 hW _ hsz0 _
  have hsz : (DataW.weightsEach Try.prog (Try.f10.params.toList ++ Rows.fnExactJoinSizeSpec.plain.varTypes Try.prog) (ds ++ gs)).all (· ≤ reachBytes) = true := hsz0
  clear hsz0
  have hval : ∀ (j : Nat) t v, Try.f10.params[j]? = some t → args[j]? = some v → Value.okWide Try.prog W .any base t v := hval0
  have hW' := hW
  obtain ⟨p, q, hA0, hV, rfl, hfz, hnd⟩ := hW
  have hA : DataW.TrodAll enc Try.prog W 0 (fun _ => true) true Try.f10.params.toList args.toList ds p := hA0
  rw [Try.params10] at hA hval hsz
  obtain ⟨v0, v1, d0, d1, p0, p1, rfl, rfl, rfl, h0, h1⟩ := trodAll_two hA
  obtain ⟨rfl, rfl⟩ := trodVars_none hV
  have hlt0 : ∀ x ∈ p0, x.block < W.heap.size := fun x hx => hW'.lt x (by simp [hx])
  have hlt1 : ∀ x ∈ p1, x.block < W.heap.size := fun x hx => hW'.lt x (by simp [hx])
  obtain ⟨vtL, vtD, vtX, tL, tD, tX, dt0, dt1, dt2, rfl, rfl, rtL, rtD, rtX, st0, st1, st2, itL, itD, itX⟩ := open_ten (hval 0 47 v0 rfl rfl) h0 hlt0
  obtain ⟨btL, btD, btX⟩ := ten_bound hsz (j := 0) rfl rfl st0 st1 st2
  obtain ⟨vuL, vuD, vuX, uL, uD, uX, du0, du1, du2, rfl, rfl, ruL, ruD, ruX, su0, su1, su2, iuL, iuD, iuX⟩ := open_ten (hval 1 47 v1 rfl rfl) h1 hlt1
  obtain ⟨buL, buD, buX⟩ := ten_bound hsz (j := 1) rfl rfl su0 su1 su2
  clear hA0 hval0
  simp only [List.append_nil] at hW'
  refine (law_join_size W rtL (Nat.le_trans btL (by decide)) rtD (Nat.le_trans btD (by decide)) rtX (Nat.le_trans btX (by decide)) ruL (Nat.le_trans buL (by decide)) ruD (Nat.le_trans buD (by decide)) ruX (Nat.le_trans buX (by decide)) itL iuL).mono fun e W' ⟨he, hnx⟩ => ?_
  subst he
  refine ⟨_, rfl, _, _, _, [], (p0 ++ p1), [], hW', ?_, ?_, rfl, hnx.frame _, fun h => by cases h⟩
  · exact trodAll_mk1 (shut_bool Try.underlying4 _)
  · exact trodAll_mk2 (Below.trod laidOut (by kernel_rfl) (of_decide_eq_true (by kernel_rfl)) h0 hnx hlt0) (Below.trod laidOut (by kernel_rfl) (of_decide_eq_true (by kernel_rfl)) h1 hnx hlt1)

set_option maxHeartbeats 8000000 in
theorem row : Rows.FnExactJoinSizeSaid :=
  OpenClaim.holds_of_wide 10 Try.f10 rfl rfl rfl rfl rfl rfl rfl ⟨rfl, rfl, rfl, rfl, rfl⟩ rfl rfl rfl rfl rfl (by kernel_rfl) Try.func10 (by unfold joinedFacts; (repeat' (with_reducible apply band)); all_goals (as_aux_lemma => kernel_rfl))
    (of_decide_eq_true (by kernel_rfl)) (by unfold Func.isWrapper; first | (rw [if_pos (by decide +kernel)]; kernel_rfl) | (rw [if_neg (by decide +kernel)]; exact ⟨rfl, rfl⟩))
    (fun os started H enc _ => lifted os started H enc)
end join_size

theorem join_size_holds : Rows.FnExactJoinSizeSaid := join_size.row
#print axioms join_size_holds
end Go.Proofs.Ytgbmacppgaopfaa
