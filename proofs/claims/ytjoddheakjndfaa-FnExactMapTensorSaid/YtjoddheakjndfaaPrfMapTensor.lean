/- FnExactMapTensor holds at every argument. -/
import Derived.Test.YtjoddheakjndfaaLawMapTensorT
import Derived.Test.YtjoddheakjndfaaOpenHom
import Derived.Test.YtjoddheakjndfaaOpenRing
import Derived.Test.YtjoddheakjndfaaOpenTen
import Derived.Test.YtjoddheakjndfaaRows
import Derived.ProofKit
import Derived.LaidMore
import Derived.OpenShut
import Derived.Stop.Joined
import Derived.Stop.LaidErr
import Derived.SevenTiedAt
import Derived.SizedLaws
import Derived.ShutString
namespace Go.Proofs.Ytjoddheakjndfaa
open Go.ChangeShapes Go.WideShapes Go.ChangeAt Go.WideMaps Go.WideElems Go.RowKit
open Go.ChangeMaps (open_string shut_string)
namespace map_tensor

theorem own : ownKnob Try.prog.godebug = none := by kernel_rfl

set_option maxRecDepth 100000 in
theorem lifted (os : Os) (started : os.Started) (H : Type) (enc : TypeId × Value → H) :
    ReturnsInHanded {} Try.checked os 5 .any (fun w args => Rows.fnExactMapTensorSpec.pre enc Try.prog Try.f5 [] false w args ∧ sizedMet enc Try.prog Try.f5 (OpenSpec.ofChange Rows.fnExactMapTensorSpec) false w args)
      (Rows.fnExactMapTensorSpec.post enc Try.prog Try.f5 false true false false) := by
  refine returnsInHanded_of_change_sized (C := Try.checked) own started (by kernel_rfl) Try.func5
    (ChangeSpec.witness6 (enc := enc) (C := Try.checked) (os := os) false ⟨#[], #[.agg #[.int .i64 0, .int .i64 0, .int .i64 0], .agg #[.int .i64 0, .int .i64 0, .int .i64 0], .agg #[.int .i64 0, .int .i64 0], .agg #[.slice none 0 0, .slice none 0 0, .slice none 0 0]], []⟩ 8 (by kernel_rfl) (by kernel_rfl) (by kernel_rfl) (by kernel_rfl)) ?_
  intro W base args ds gs before hval0 hW _ hsz0 _
  have hsz : (DataW.weightsEach Try.prog (Try.f5.params.toList ++ Rows.fnExactMapTensorSpec.plain.varTypes Try.prog) (ds ++ gs)).all (· ≤ reachBytes) = true := hsz0
  clear hsz0
  have hval : ∀ (j : Nat) t v, Try.f5.params[j]? = some t → args[j]? = some v → Value.okWide Try.prog W .any base t v := hval0
  have hW' := hW
  obtain ⟨p, q, hA0, hV, rfl, hfz, hnd⟩ := hW
  have hA : DataW.TrodAll enc Try.prog W 0 (fun _ => true) true Try.f5.params.toList args.toList ds p := hA0
  rw [Try.params5] at hA hval hsz
  obtain ⟨v0, v1, v2, v3, d0, d1, d2, d3, p0, p1, p2, p3, rfl, rfl, rfl, h0, h1, h2, h3⟩ := trodAll_four hA
  obtain ⟨rfl, rfl⟩ := trodVars_none hV
  obtain ⟨fk, fp, fn, rfl, rfl, rfl, fwk, fwp, fwn⟩ := open_ring (hval 0 23 v0 rfl rfl) h0
  obtain ⟨gk, gp, gn, rfl, rfl, rfl, gwk, gwp, gwn⟩ := open_ring (hval 1 23 v1 rfl rfl) h1
  obtain ⟨mk, ma, rfl, rfl, rfl, mwk, mwa⟩ := open_hom (hval 2 43 v2 rfl rfl) h2
  have hlt3 : ∀ x ∈ p3, x.block < W.heap.size := fun x hx => hW'.lt x (by simp [hx])
  obtain ⟨vtL, vtD, vtX, tL, tD, tX, dt0, dt1, dt2, rfl, rfl, rtL, rtD, rtX, st0, st1, st2, itL, itD, itX⟩ := open_ten (hval 3 26 v3 rfl rfl) h3 hlt3
  obtain ⟨btL, btD, btX⟩ := ten_bound hsz (j := 3) rfl rfl st0 st1 st2
  clear hA0 hval0
  simp only [List.append_nil] at hW'
  refine (law_map_tensor fk fp fn gk gp gn mk ma W rtL (Nat.le_trans btL (by decide)) rtD (Nat.le_trans btD (by decide)) rtX (Nat.le_trans btX (by decide)) itL).mono fun e W' ⟨he, hnx⟩ => ?_
  subst he
  refine ⟨_, rfl, _, _, _, [], ([] ++ ([] ++ ([] ++ (p3)))), [], hW', ?_, ?_, rfl, hnx.frame _, fun h => by cases h⟩
  · exact trodAll_mk1 (shut_bool Try.underlying4 _)
  · exact trodAll_mk4 (shut_ring fwk fwp fwn) (shut_ring gwk gwp gwn) (shut_hom mwk mwa) (Below.trod laidOut (by kernel_rfl) (of_decide_eq_true (by kernel_rfl)) h3 hnx hlt3)

theorem row : Rows.FnExactMapTensorSaid :=
  OpenClaim.holds_of_wide 5 Try.f5 rfl rfl rfl rfl rfl rfl rfl ⟨rfl, rfl, rfl, rfl, rfl⟩ rfl rfl rfl rfl rfl (by kernel_rfl) Try.func5 (by kernel_rfl)
    (of_decide_eq_true (by kernel_rfl)) (by unfold Func.isWrapper; first | (rw [if_pos (by decide +kernel)]; kernel_rfl) | (rw [if_neg (by decide +kernel)]; exact ⟨rfl, rfl⟩))
    (fun os started H enc _ => lifted os started H enc)
end map_tensor

theorem map_tensor_holds : Rows.FnExactMapTensorSaid := map_tensor.row
#print axioms map_tensor_holds
end Go.Proofs.Ytjoddheakjndfaa
