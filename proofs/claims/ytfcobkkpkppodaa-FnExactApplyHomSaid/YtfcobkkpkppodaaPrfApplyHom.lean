
/- FnExactApplyHom holds at every argument. -/
import Derived.Test.YtfcobkkpkppodaaLawApplyHom
import Derived.Test.YtfcobkkpkppodaaOpenHom
import Derived.Test.YtfcobkkpkppodaaOpenRing
import Derived.Test.YtfcobkkpkppodaaRows
import Derived.ProofKit
import Derived.LaidMore
import Derived.OpenShut
import Derived.Stop.Joined
import Derived.Stop.LaidErr
import Derived.SevenTiedAt
import Derived.SizedLaws
import Derived.ShutString
namespace Go.Proofs.Ytfcobkkpkppodaa
set_option maxRecDepth 20000
open Go.ChangeShapes Go.WideShapes Go.ChangeAt Go.WideMaps Go.WideElems Go.RowKit
open Go.ChangeMaps (open_string shut_string)
namespace apply_hom

theorem own : ownKnob Try.prog.godebug = none := by kernel_rfl

set_option maxRecDepth 100000 in
theorem lifted (os : Os) (started : os.Started) (H : Type) (enc : TypeId × Value → H) :
    ReturnsInHanded {} Try.checked os 12 .any (fun w args => Rows.fnExactApplyHomSpec.pre enc Try.prog Try.f12 [] false w args ∧ sizedMet enc Try.prog Try.f12 (OpenSpec.ofChange Rows.fnExactApplyHomSpec) false w args)
      (Rows.fnExactApplyHomSpec.post enc Try.prog Try.f12 false true false false) := by
  refine returnsInHanded_of_change_sized (C := Try.checked) own started (by kernel_rfl) Try.func12
    (ChangeSpec.witness6 (enc := enc) (C := Try.checked) (os := os) false ⟨#[], #[.agg #[.int .i64 0, .int .i64 0, .int .i64 0], .agg #[.int .i64 0, .int .i64 0, .int .i64 0], .agg #[.int .i64 0, .int .i64 0], .slice none 0 0], []⟩ 8 (by kernel_rfl) (by kernel_rfl) (by kernel_rfl) (by kernel_rfl)) ?_
  intro W base args ds gs before hval0 hW _ hsz0 _
  have hsz : (DataW.weightsEach Try.prog (Try.f12.params.toList ++ Rows.fnExactApplyHomSpec.plain.varTypes Try.prog) (ds ++ gs)).all (· ≤ reachBytes) = true := hsz0
  clear hsz0
  have hval : ∀ (j : Nat) t v, Try.f12.params[j]? = some t → args[j]? = some v → Value.okWide Try.prog W .any base t v := hval0
  have hW' := hW
  obtain ⟨p, q, hA0, hV, rfl, hfz, hnd⟩ := hW
  have hA : DataW.TrodAll enc Try.prog W 0 (fun _ => true) true Try.f12.params.toList args.toList ds p := hA0
  rw [Try.params12] at hA hval hsz
  obtain ⟨v0, v1, v2, v3, d0, d1, d2, d3, p0, p1, p2, p3, rfl, rfl, rfl, h0, h1, h2, h3⟩ := trodAll_four hA
  obtain ⟨rfl, rfl⟩ := trodVars_none hV
  obtain ⟨fk, fp, fn, rfl, rfl, rfl, fwk, fwp, fwn⟩ := open_ring (hval 0 23 v0 rfl rfl) h0
  obtain ⟨tk, tp, tn, rfl, rfl, rfl, twk, twp, twn⟩ := open_ring (hval 1 23 v1 rfl rfl) h1
  obtain ⟨hk, ha, rfl, rfl, rfl, hwk, hwa⟩ := open_hom (hval 2 47 v2 rfl rfl) h2
  have hlt3 : ∀ x ∈ p3, x.block < W.heap.size := fun x hx => hW'.lt x (by simp [hx])
  obtain ⟨xs, rxs, ixs, sxs⟩ := open_ints_rd (hval 3 24 v3 rfl rfl) h3 hlt3
  have bxs := ints_bound hsz (j := 3) rfl rfl sxs
  clear hA0 hval0
  simp only [List.append_nil] at hW'
  refine (law_apply_hom fk fp fn tk tp tn hk ha W rxs (by omega)).mono fun e W' ⟨he, hnx⟩ => ?_
  subst he
  refine ⟨_, rfl, _, _, _, [], ([] ++ [] ++ [] ++ p3), [], hW', ?_, ?_, rfl, hnx.frame _, fun h => by cases h⟩
  · exact trodAll_mk1 (shut_bool Try.underlying4 _)
  · exact trodAll_mk4 (shut_ring fwk fwp fwn) (shut_ring twk twp twn) (shut_hom hwk hwa) (Below.trod laidOut (by kernel_rfl) (of_decide_eq_true (by kernel_rfl)) h3 hnx hlt3)

theorem row : Rows.FnExactApplyHomSaid :=
  OpenClaim.holds_of_wide 12 Try.f12 rfl rfl rfl rfl rfl rfl rfl ⟨rfl, rfl, rfl, rfl, rfl⟩ rfl rfl rfl rfl rfl (by kernel_rfl) Try.func12 (by kernel_rfl)
    (of_decide_eq_true (by kernel_rfl)) (by unfold Func.isWrapper; first | (rw [if_pos (by decide +kernel)]; kernel_rfl) | (rw [if_neg (by decide +kernel)]; exact ⟨rfl, rfl⟩))
    (fun os started H enc _ => lifted os started H enc)
end apply_hom

theorem apply_hom_holds : Rows.FnExactApplyHomSaid := apply_hom.row
#print axioms apply_hom_holds
end Go.Proofs.Ytfcobkkpkppodaa
