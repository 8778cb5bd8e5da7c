/-
  No cell of these rows narrows 'for every input' (looked for: loops, veiled, ifaces, maps, wideKeys, modest, calm, conditions, laid).
  DERIVED. THE GIVEN ROWS OF THIS SEAT. 5 by the template 'for every input the law returns true; each argument reads behind the call as it read before'; 0 by the template 'total and deterministic' (their statements: YtfifnhgpocamdaaTotals.lean).
  GIVEN WITH THE SEED: the statements are not yours to turn. If you find one false, say at which input.
  Laid BY PROGRAM, IN A SANDBOX (cutbox-rows.mjs): the forced cells as the released guide's own fill.sh prints them over the translation 9ccb30fb900c30a3… (all of the seat's roots in one cut). By AI agents, Wed Nov 11 2026. No macro, syntax, notation, axiom, sorry.
-/
import Derived.Test.YtfifnhgpocamdaaChecked
import GoSem.Claim
import GoSem.ClaimJoined
import GoSem.ClaimMapViews
import Derived.JoinedTies
import Derived.KernelRfl
namespace Go.Proofs.Ytfifnhgpocamdaa
/- THE CELL 'sum', in the pinned program and in every row, IS THE sha256 OF THE DUMP (.gsa) THAT YtfifnhgpocamdaaProg.lean LOADS. Nothing in Lean hashes anything: it is a label: what it is worth is what the hold of that sum in a sandbox is worth. -/
noncomputable def Try.pinned : Pinned := { name := "ytfifnhgpocamdaa", sum := "9ccb30fb900c30a389a7f3e2f5287dd0b775a627169bcaf29f4638e1874f52aa", checked := Try.checked }
namespace Rows
def none {H : Type} : Left H := { results := [], args := [] }

/-- 'laws.FnPermuted': WHATEVER THE INPUT: true; the input reads as it did. -/
def fnPermutedSpec : ChangeSpec := { name := "fnPermuted", fn := fun _ => fun
  | [d] => { results := [.lit (.bool true)], args := [d] }
  | _ => none }
def fnPermutedRow : OpenClaim := { program := "ytfifnhgpocamdaa", sum := "9ccb30fb900c30a389a7f3e2f5287dd0b775a627169bcaf29f4638e1874f52aa", func := "loop.example/g03211/laws.FnPermuted", spec := "fnPermuted", unfollowed := true, recurses := true, apart := false }
def FnPermutedSaid : Prop := fnPermutedRow.holds Try.pinned (OpenSpec.ofChange fnPermutedSpec)

/-- ITS FALSE NEIGHBOUR: 'it returns false'. Refute it at one input. -/
def fnPermutedWrong : ChangeSpec := { name := "fnPermuted", fn := fun _ => fun
  | [d] => { results := [.lit (.bool false)], args := [d] }
  | _ => none }
def FnPermutedWrongFalsely : Prop := fnPermutedRow.holds Try.pinned (OpenSpec.ofChange fnPermutedWrong)

/-- 'laws.FnExactPermuteTensor': WHATEVER THE INPUT: true; the input reads as it did. -/
def fnExactPermuteTensorSpec : ChangeSpec := { name := "fnExactPermuteTensor", fn := fun _ => fun
  | [d1, d2, d3] => { results := [.lit (.bool true)], args := [d1, d2, d3] }
  | _ => none }
def fnExactPermuteTensorRow : OpenClaim := { program := "ytfifnhgpocamdaa", sum := "9ccb30fb900c30a389a7f3e2f5287dd0b775a627169bcaf29f4638e1874f52aa", func := "loop.example/g03211/laws.FnExactPermuteTensor", spec := "fnExactPermuteTensor", unfollowed := true, recurses := true, apart := false }
def FnExactPermuteTensorSaid : Prop := fnExactPermuteTensorRow.holds Try.pinned (OpenSpec.ofChange fnExactPermuteTensorSpec)

/-- ITS FALSE NEIGHBOUR: 'it returns false'. Refute it at one input. -/
def fnExactPermuteTensorWrong : ChangeSpec := { name := "fnExactPermuteTensor", fn := fun _ => fun
  | [d1, d2, d3] => { results := [.lit (.bool false)], args := [d1, d2, d3] }
  | _ => none }
def FnExactPermuteTensorWrongFalsely : Prop := fnExactPermuteTensorRow.holds Try.pinned (OpenSpec.ofChange fnExactPermuteTensorWrong)

/-- 'laws.FnExactSortTensor': WHATEVER THE INPUT: true; the input reads as it did. -/
def fnExactSortTensorSpec : ChangeSpec := { name := "fnExactSortTensor", fn := fun _ => fun
  | [d1, d2] => { results := [.lit (.bool true)], args := [d1, d2] }
  | _ => none }
def fnExactSortTensorRow : OpenClaim := { program := "ytfifnhgpocamdaa", sum := "9ccb30fb900c30a389a7f3e2f5287dd0b775a627169bcaf29f4638e1874f52aa", func := "loop.example/g03211/laws.FnExactSortTensor", spec := "fnExactSortTensor", unfollowed := true, recurses := true, apart := false }
def FnExactSortTensorSaid : Prop := fnExactSortTensorRow.holds Try.pinned (OpenSpec.ofChange fnExactSortTensorSpec)

/-- ITS FALSE NEIGHBOUR: 'it returns false'. Refute it at one input. -/
def fnExactSortTensorWrong : ChangeSpec := { name := "fnExactSortTensor", fn := fun _ => fun
  | [d1, d2] => { results := [.lit (.bool false)], args := [d1, d2] }
  | _ => none }
def FnExactSortTensorWrongFalsely : Prop := fnExactSortTensorRow.holds Try.pinned (OpenSpec.ofChange fnExactSortTensorWrong)

/-- 'laws.FnExactRelabelTensor': WHATEVER THE INPUT: true; the input reads as it did. -/
def fnExactRelabelTensorSpec : ChangeSpec := { name := "fnExactRelabelTensor", fn := fun _ => fun
  | [d1, d2, d3, d4] => { results := [.lit (.bool true)], args := [d1, d2, d3, d4] }
  | _ => none }
def fnExactRelabelTensorRow : OpenClaim := { program := "ytfifnhgpocamdaa", sum := "9ccb30fb900c30a389a7f3e2f5287dd0b775a627169bcaf29f4638e1874f52aa", func := "loop.example/g03211/laws.FnExactRelabelTensor", spec := "fnExactRelabelTensor", unfollowed := true, recurses := true, apart := false }
def FnExactRelabelTensorSaid : Prop := fnExactRelabelTensorRow.holds Try.pinned (OpenSpec.ofChange fnExactRelabelTensorSpec)

/-- ITS FALSE NEIGHBOUR: 'it returns false'. Refute it at one input. -/
def fnExactRelabelTensorWrong : ChangeSpec := { name := "fnExactRelabelTensor", fn := fun _ => fun
  | [d1, d2, d3, d4] => { results := [.lit (.bool false)], args := [d1, d2, d3, d4] }
  | _ => none }
def FnExactRelabelTensorWrongFalsely : Prop := fnExactRelabelTensorRow.holds Try.pinned (OpenSpec.ofChange fnExactRelabelTensorWrong)

/-- 'laws.FnExactSameTensor': WHATEVER THE INPUT: true; the input reads as it did. -/
def fnExactSameTensorSpec : ChangeSpec := { name := "fnExactSameTensor", fn := fun _ => fun
  | [d1, d2, d3] => { results := [.lit (.bool true)], args := [d1, d2, d3] }
  | _ => none }
def fnExactSameTensorRow : OpenClaim := { program := "ytfifnhgpocamdaa", sum := "9ccb30fb900c30a389a7f3e2f5287dd0b775a627169bcaf29f4638e1874f52aa", func := "loop.example/g03211/laws.FnExactSameTensor", spec := "fnExactSameTensor", unfollowed := true, recurses := true, apart := false }
def FnExactSameTensorSaid : Prop := fnExactSameTensorRow.holds Try.pinned (OpenSpec.ofChange fnExactSameTensorSpec)

/-- ITS FALSE NEIGHBOUR: 'it returns false'. Refute it at one input. -/
def fnExactSameTensorWrong : ChangeSpec := { name := "fnExactSameTensor", fn := fun _ => fun
  | [d1, d2, d3] => { results := [.lit (.bool false)], args := [d1, d2, d3] }
  | _ => none }
def FnExactSameTensorWrongFalsely : Prop := fnExactSameTensorRow.holds Try.pinned (OpenSpec.ofChange fnExactSameTensorWrong)

/- THE SECOND FORM. 'bulk': how many values and letters a reading holds, each counted each time it is reached (what is shared counts as often as it is met; a slice's spare places count too). A statement '..UptoSaid' is the law's where the arguments, and the package variables that the reading takes, are together of bulk at most 1048576: NARROWER than '..Said'. Prove '..Said' where nothing that the law and all that it calls make is longer than what came in: it says more and counts as full. Else prove '..UptoSaid'. A law counts once. -/
mutual
def uptoBulk {H : Type} : DataW H → Nat
  | .lit (.string bytes) => bytes.length + 1
  | .lit _ => 1
  | .nil => 1
  | .ptr d => uptoBulk d + 1
  | .slice elems spare => uptoBulkAll elems + uptoBulkAll spare + 1
  | .agg parts => uptoBulkAll parts + 1
  | .iface _ d => uptoBulk d + 1
  | .map entries => uptoBulkEntries entries + 1
  | .held _ => 1
def uptoBulkAll {H : Type} : List (DataW H) → Nat
  | [] => 0
  | d :: r => uptoBulk d + uptoBulkAll r
def uptoBulkEntries {H : Type} : List (Lit × DataW H) → Nat
  | [] => 0
  | x :: r => uptoBulkEntry x + uptoBulkEntries r
def uptoBulkEntry {H : Type} : Lit × DataW H → Nat
  | (.string bytes, d) => bytes.length + uptoBulk d + 1
  | (_, d) => uptoBulk d + 1
 end
def uptoSmall : (H : Type) → List (DataW H) → Bool := fun _ ds => decide (uptoBulkAll ds ≤ 1048576)
def OpenSpec.upto (s : _root_.Go.ChangeSpec) : _root_.Go.OpenSpec := { _root_.Go.OpenSpec.ofChange s with cond := some uptoSmall }

/-- 'laws.FnPermuted', WHERE WHAT IT READS IS OF BULK AT MOST 1048576: true; the input reads as it did. -/
def fnPermutedUptoRow : OpenClaim := { program := "ytfifnhgpocamdaa", sum := "9ccb30fb900c30a389a7f3e2f5287dd0b775a627169bcaf29f4638e1874f52aa", func := "loop.example/g03211/laws.FnPermuted", spec := "fnPermuted", unfollowed := true, recurses := true, apart := false, narrowed := true }
def FnPermutedUptoSaid : Prop := fnPermutedUptoRow.holds Try.pinned (OpenSpec.upto fnPermutedSpec)

/-- 'laws.FnExactPermuteTensor', WHERE WHAT IT READS IS OF BULK AT MOST 1048576: true; the input reads as it did. -/
def fnExactPermuteTensorUptoRow : OpenClaim := { program := "ytfifnhgpocamdaa", sum := "9ccb30fb900c30a389a7f3e2f5287dd0b775a627169bcaf29f4638e1874f52aa", func := "loop.example/g03211/laws.FnExactPermuteTensor", spec := "fnExactPermuteTensor", unfollowed := true, recurses := true, apart := false, narrowed := true }
def FnExactPermuteTensorUptoSaid : Prop := fnExactPermuteTensorUptoRow.holds Try.pinned (OpenSpec.upto fnExactPermuteTensorSpec)

/-- 'laws.FnExactSortTensor', WHERE WHAT IT READS IS OF BULK AT MOST 1048576: true; the input reads as it did. -/
def fnExactSortTensorUptoRow : OpenClaim := { program := "ytfifnhgpocamdaa", sum := "9ccb30fb900c30a389a7f3e2f5287dd0b775a627169bcaf29f4638e1874f52aa", func := "loop.example/g03211/laws.FnExactSortTensor", spec := "fnExactSortTensor", unfollowed := true, recurses := true, apart := false, narrowed := true }
def FnExactSortTensorUptoSaid : Prop := fnExactSortTensorUptoRow.holds Try.pinned (OpenSpec.upto fnExactSortTensorSpec)

/-- 'laws.FnExactRelabelTensor', WHERE WHAT IT READS IS OF BULK AT MOST 1048576: true; the input reads as it did. -/
def fnExactRelabelTensorUptoRow : OpenClaim := { program := "ytfifnhgpocamdaa", sum := "9ccb30fb900c30a389a7f3e2f5287dd0b775a627169bcaf29f4638e1874f52aa", func := "loop.example/g03211/laws.FnExactRelabelTensor", spec := "fnExactRelabelTensor", unfollowed := true, recurses := true, apart := false, narrowed := true }
def FnExactRelabelTensorUptoSaid : Prop := fnExactRelabelTensorUptoRow.holds Try.pinned (OpenSpec.upto fnExactRelabelTensorSpec)

/-- 'laws.FnExactSameTensor', WHERE WHAT IT READS IS OF BULK AT MOST 1048576: true; the input reads as it did. -/
def fnExactSameTensorUptoRow : OpenClaim := { program := "ytfifnhgpocamdaa", sum := "9ccb30fb900c30a389a7f3e2f5287dd0b775a627169bcaf29f4638e1874f52aa", func := "loop.example/g03211/laws.FnExactSameTensor", spec := "fnExactSameTensor", unfollowed := true, recurses := true, apart := false, narrowed := true }
def FnExactSameTensorUptoSaid : Prop := fnExactSameTensorUptoRow.holds Try.pinned (OpenSpec.upto fnExactSameTensorSpec)

end Rows
end Go.Proofs.Ytfifnhgpocamdaa
