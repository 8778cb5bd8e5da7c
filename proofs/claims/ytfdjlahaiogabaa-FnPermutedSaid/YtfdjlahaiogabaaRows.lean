/-
  No cell of these rows narrows 'for every input' (looked for: loops, veiled, ifaces, maps, wideKeys, modest, calm, conditions, laid).
  DERIVED. THE GIVEN ROWS OF THIS SEAT. 12 by the template 'for every input the law returns true; each argument reads behind the call as it read before'; 0 by the template 'total and deterministic' (their statements: YtfdjlahaiogabaaTotals.lean).
  GIVEN WITH THE SEED: the statements are not yours to turn. If you find one false, say at which input.
  Laid BY PROGRAM, IN A SANDBOX (cutbox-rows.mjs): the forced cells as the released guide's own fill.sh prints them over the translation cccd4259abfbfdb8… (all of the seat's roots in one cut). By AI agents, Wed Nov 11 2026. No macro, syntax, notation, axiom, sorry.
-/
import Derived.Test.YtfdjlahaiogabaaChecked
import GoSem.Claim
import GoSem.ClaimJoined
import GoSem.ClaimMapViews
import Derived.JoinedTies
import Derived.KernelRfl
namespace Go.Proofs.Ytfdjlahaiogabaa
/- THE CELL 'sum', in the pinned program and in every row, IS THE sha256 OF THE DUMP (.gsa) THAT YtfdjlahaiogabaaProg.lean LOADS. Nothing in Lean hashes anything: it is a label: what it is worth is what the hold of that sum in a sandbox is worth. -/
noncomputable def Try.pinned : Pinned := { name := "ytfdjlahaiogabaa", sum := "cccd4259abfbfdb8cc38abfe2c9644878c4e19c0085092e5eb0933c753601682", checked := Try.checked }
namespace Rows
def none {H : Type} : Left H := { results := [], args := [] }

/-- 'laws.FnExactSliceTensor': WHATEVER THE INPUT: true; the input reads as it did. -/
def fnExactSliceTensorSpec : ChangeSpec := { name := "fnExactSliceTensor", fn := fun _ => fun
  | [d1, d2, d3, d4] => { results := [.lit (.bool true)], args := [d1, d2, d3, d4] }
  | _ => none }
def fnExactSliceTensorRow : OpenClaim := { program := "ytfdjlahaiogabaa", sum := "cccd4259abfbfdb8cc38abfe2c9644878c4e19c0085092e5eb0933c753601682", func := "loop.example/g03211/laws.FnExactSliceTensor", spec := "fnExactSliceTensor", unfollowed := true, recurses := true, apart := false }
def FnExactSliceTensorSaid : Prop := fnExactSliceTensorRow.holds Try.pinned (OpenSpec.ofChange fnExactSliceTensorSpec)

/-- ITS FALSE NEIGHBOUR: 'it returns false'. Refute it at one input. -/
def fnExactSliceTensorWrong : ChangeSpec := { name := "fnExactSliceTensor", fn := fun _ => fun
  | [d1, d2, d3, d4] => { results := [.lit (.bool false)], args := [d1, d2, d3, d4] }
  | _ => none }
def FnExactSliceTensorWrongFalsely : Prop := fnExactSliceTensorRow.holds Try.pinned (OpenSpec.ofChange fnExactSliceTensorWrong)

/-- 'laws.FnExactStackTensors': WHATEVER THE INPUT: true; the input reads as it did. -/
def fnExactStackTensorsSpec : ChangeSpec := { name := "fnExactStackTensors", fn := fun _ => fun
  | [d1, d2, d3] => { results := [.lit (.bool true)], args := [d1, d2, d3] }
  | _ => none }
def fnExactStackTensorsRow : OpenClaim := { program := "ytfdjlahaiogabaa", sum := "cccd4259abfbfdb8cc38abfe2c9644878c4e19c0085092e5eb0933c753601682", func := "loop.example/g03211/laws.FnExactStackTensors", spec := "fnExactStackTensors", unfollowed := true, recurses := true, apart := false }
def FnExactStackTensorsSaid : Prop := fnExactStackTensorsRow.holds Try.pinned (OpenSpec.ofChange fnExactStackTensorsSpec)

/-- ITS FALSE NEIGHBOUR: 'it returns false'. Refute it at one input. -/
def fnExactStackTensorsWrong : ChangeSpec := { name := "fnExactStackTensors", fn := fun _ => fun
  | [d1, d2, d3] => { results := [.lit (.bool false)], args := [d1, d2, d3] }
  | _ => none }
def FnExactStackTensorsWrongFalsely : Prop := fnExactStackTensorsRow.holds Try.pinned (OpenSpec.ofChange fnExactStackTensorsWrong)

/-- 'laws.FnExactFixLabels': WHATEVER THE INPUT: true; the input reads as it did. -/
def fnExactFixLabelsSpec : ChangeSpec := { name := "fnExactFixLabels", fn := fun _ => fun
  | [d1, d2, d3, d4] => { results := [.lit (.bool true)], args := [d1, d2, d3, d4] }
  | _ => none }
def fnExactFixLabelsRow : OpenClaim := { program := "ytfdjlahaiogabaa", sum := "cccd4259abfbfdb8cc38abfe2c9644878c4e19c0085092e5eb0933c753601682", func := "loop.example/g03211/laws.FnExactFixLabels", spec := "fnExactFixLabels", unfollowed := true, recurses := true, apart := false }
def FnExactFixLabelsSaid : Prop := fnExactFixLabelsRow.holds Try.pinned (OpenSpec.ofChange fnExactFixLabelsSpec)

/-- ITS FALSE NEIGHBOUR: 'it returns false'. Refute it at one input. -/
def fnExactFixLabelsWrong : ChangeSpec := { name := "fnExactFixLabels", fn := fun _ => fun
  | [d1, d2, d3, d4] => { results := [.lit (.bool false)], args := [d1, d2, d3, d4] }
  | _ => none }
def FnExactFixLabelsWrongFalsely : Prop := fnExactFixLabelsRow.holds Try.pinned (OpenSpec.ofChange fnExactFixLabelsWrong)

/-- 'laws.FnPermuted': WHATEVER THE INPUT: true; the input reads as it did. -/
def fnPermutedSpec : ChangeSpec := { name := "fnPermuted", fn := fun _ => fun
  | [d] => { results := [.lit (.bool true)], args := [d] }
  | _ => none }
def fnPermutedRow : OpenClaim := { program := "ytfdjlahaiogabaa", sum := "cccd4259abfbfdb8cc38abfe2c9644878c4e19c0085092e5eb0933c753601682", func := "loop.example/g03211/laws.FnPermuted", spec := "fnPermuted", unfollowed := true, recurses := true, apart := false }
def FnPermutedSaid : Prop := fnPermutedRow.holds Try.pinned (OpenSpec.ofChange fnPermutedSpec)

/-- ITS FALSE NEIGHBOUR: 'it returns false'. Refute it at one input. -/
def fnPermutedWrong : ChangeSpec := { name := "fnPermuted", fn := fun _ => fun
  | [d] => { results := [.lit (.bool false)], args := [d] }
  | _ => none }
def FnPermutedWrongFalsely : Prop := fnPermutedRow.holds Try.pinned (OpenSpec.ofChange fnPermutedWrong)

/-- 'laws.FnExactPermuteTensor': WHATEVER THE INPUT: true; the input reads as it did. -/
def fnExactPermuteTensorSpec : ChangeSpec := { name := "fnExactPermuteTensor", fn := fun _ => fun
  | [d1, d2, d3] => { results := [.lit (.bool true)], args := [d1, d2, d3] }
  | _ => none }
def fnExactPermuteTensorRow : OpenClaim := { program := "ytfdjlahaiogabaa", sum := "cccd4259abfbfdb8cc38abfe2c9644878c4e19c0085092e5eb0933c753601682", func := "loop.example/g03211/laws.FnExactPermuteTensor", spec := "fnExactPermuteTensor", unfollowed := true, recurses := true, apart := false }
def FnExactPermuteTensorSaid : Prop := fnExactPermuteTensorRow.holds Try.pinned (OpenSpec.ofChange fnExactPermuteTensorSpec)

/-- ITS FALSE NEIGHBOUR: 'it returns false'. Refute it at one input. -/
def fnExactPermuteTensorWrong : ChangeSpec := { name := "fnExactPermuteTensor", fn := fun _ => fun
  | [d1, d2, d3] => { results := [.lit (.bool false)], args := [d1, d2, d3] }
  | _ => none }
def FnExactPermuteTensorWrongFalsely : Prop := fnExactPermuteTensorRow.holds Try.pinned (OpenSpec.ofChange fnExactPermuteTensorWrong)

/-- 'laws.FnExactSortTensor': WHATEVER THE INPUT: true; the input reads as it did. -/
def fnExactSortTensorSpec : ChangeSpec := { name := "fnExactSortTensor", fn := fun _ => fun
  | [d1, d2] => { results := [.lit (.bool true)], args := [d1, d2] }
  | _ => none }
def fnExactSortTensorRow : OpenClaim := { program := "ytfdjlahaiogabaa", sum := "cccd4259abfbfdb8cc38abfe2c9644878c4e19c0085092e5eb0933c753601682", func := "loop.example/g03211/laws.FnExactSortTensor", spec := "fnExactSortTensor", unfollowed := true, recurses := true, apart := false }
def FnExactSortTensorSaid : Prop := fnExactSortTensorRow.holds Try.pinned (OpenSpec.ofChange fnExactSortTensorSpec)

/-- ITS FALSE NEIGHBOUR: 'it returns false'. Refute it at one input. -/
def fnExactSortTensorWrong : ChangeSpec := { name := "fnExactSortTensor", fn := fun _ => fun
  | [d1, d2] => { results := [.lit (.bool false)], args := [d1, d2] }
  | _ => none }
def FnExactSortTensorWrongFalsely : Prop := fnExactSortTensorRow.holds Try.pinned (OpenSpec.ofChange fnExactSortTensorWrong)

/-- 'laws.FnExactRelabelTensor': WHATEVER THE INPUT: true; the input reads as it did. -/
def fnExactRelabelTensorSpec : ChangeSpec := { name := "fnExactRelabelTensor", fn := fun _ => fun
  | [d1, d2, d3, d4] => { results := [.lit (.bool true)], args := [d1, d2, d3, d4] }
  | _ => none }
def fnExactRelabelTensorRow : OpenClaim := { program := "ytfdjlahaiogabaa", sum := "cccd4259abfbfdb8cc38abfe2c9644878c4e19c0085092e5eb0933c753601682", func := "loop.example/g03211/laws.FnExactRelabelTensor", spec := "fnExactRelabelTensor", unfollowed := true, recurses := true, apart := false }
def FnExactRelabelTensorSaid : Prop := fnExactRelabelTensorRow.holds Try.pinned (OpenSpec.ofChange fnExactRelabelTensorSpec)

/-- ITS FALSE NEIGHBOUR: 'it returns false'. Refute it at one input. -/
def fnExactRelabelTensorWrong : ChangeSpec := { name := "fnExactRelabelTensor", fn := fun _ => fun
  | [d1, d2, d3, d4] => { results := [.lit (.bool false)], args := [d1, d2, d3, d4] }
  | _ => none }
def FnExactRelabelTensorWrongFalsely : Prop := fnExactRelabelTensorRow.holds Try.pinned (OpenSpec.ofChange fnExactRelabelTensorWrong)

/-- 'laws.FnExactSameTensor': WHATEVER THE INPUT: true; the input reads as it did. -/
def fnExactSameTensorSpec : ChangeSpec := { name := "fnExactSameTensor", fn := fun _ => fun
  | [d1, d2, d3] => { results := [.lit (.bool true)], args := [d1, d2, d3] }
  | _ => none }
def fnExactSameTensorRow : OpenClaim := { program := "ytfdjlahaiogabaa", sum := "cccd4259abfbfdb8cc38abfe2c9644878c4e19c0085092e5eb0933c753601682", func := "loop.example/g03211/laws.FnExactSameTensor", spec := "fnExactSameTensor", unfollowed := true, recurses := true, apart := false }
def FnExactSameTensorSaid : Prop := fnExactSameTensorRow.holds Try.pinned (OpenSpec.ofChange fnExactSameTensorSpec)

/-- ITS FALSE NEIGHBOUR: 'it returns false'. Refute it at one input. -/
def fnExactSameTensorWrong : ChangeSpec := { name := "fnExactSameTensor", fn := fun _ => fun
  | [d1, d2, d3] => { results := [.lit (.bool false)], args := [d1, d2, d3] }
  | _ => none }
def FnExactSameTensorWrongFalsely : Prop := fnExactSameTensorRow.holds Try.pinned (OpenSpec.ofChange fnExactSameTensorWrong)

/-- 'laws.FnExactAddTensors': WHATEVER THE INPUT: true; the input reads as it did. -/
def fnExactAddTensorsSpec : ChangeSpec := { name := "fnExactAddTensors", fn := fun _ => fun
  | [d1, d2, d3] => { results := [.lit (.bool true)], args := [d1, d2, d3] }
  | _ => none }
def fnExactAddTensorsRow : OpenClaim := { program := "ytfdjlahaiogabaa", sum := "cccd4259abfbfdb8cc38abfe2c9644878c4e19c0085092e5eb0933c753601682", func := "loop.example/g03211/laws.FnExactAddTensors", spec := "fnExactAddTensors", unfollowed := true, recurses := true, apart := false }
def FnExactAddTensorsSaid : Prop := fnExactAddTensorsRow.holds Try.pinned (OpenSpec.ofChange fnExactAddTensorsSpec)

/-- ITS FALSE NEIGHBOUR: 'it returns false'. Refute it at one input. -/
def fnExactAddTensorsWrong : ChangeSpec := { name := "fnExactAddTensors", fn := fun _ => fun
  | [d1, d2, d3] => { results := [.lit (.bool false)], args := [d1, d2, d3] }
  | _ => none }
def FnExactAddTensorsWrongFalsely : Prop := fnExactAddTensorsRow.holds Try.pinned (OpenSpec.ofChange fnExactAddTensorsWrong)

/-- 'laws.FnExactContractPair': WHATEVER THE INPUT: true; the input reads as it did. -/
def fnExactContractPairSpec : ChangeSpec := { name := "fnExactContractPair", fn := fun _ => fun
  | [d1, d2, d3, d4] => { results := [.lit (.bool true)], args := [d1, d2, d3, d4] }
  | _ => none }
def fnExactContractPairRow : OpenClaim := { program := "ytfdjlahaiogabaa", sum := "cccd4259abfbfdb8cc38abfe2c9644878c4e19c0085092e5eb0933c753601682", func := "loop.example/g03211/laws.FnExactContractPair", spec := "fnExactContractPair", unfollowed := true, recurses := true, apart := false }
def FnExactContractPairSaid : Prop := fnExactContractPairRow.holds Try.pinned (OpenSpec.ofChange fnExactContractPairSpec)

/-- ITS FALSE NEIGHBOUR: 'it returns false'. Refute it at one input. -/
def fnExactContractPairWrong : ChangeSpec := { name := "fnExactContractPair", fn := fun _ => fun
  | [d1, d2, d3, d4] => { results := [.lit (.bool false)], args := [d1, d2, d3, d4] }
  | _ => none }
def FnExactContractPairWrongFalsely : Prop := fnExactContractPairRow.holds Try.pinned (OpenSpec.ofChange fnExactContractPairWrong)

/-- 'laws.FnExactSumLabels': WHATEVER THE INPUT: true; the input reads as it did. -/
def fnExactSumLabelsSpec : ChangeSpec := { name := "fnExactSumLabels", fn := fun _ => fun
  | [d1, d2, d3] => { results := [.lit (.bool true)], args := [d1, d2, d3] }
  | _ => none }
def fnExactSumLabelsRow : OpenClaim := { program := "ytfdjlahaiogabaa", sum := "cccd4259abfbfdb8cc38abfe2c9644878c4e19c0085092e5eb0933c753601682", func := "loop.example/g03211/laws.FnExactSumLabels", spec := "fnExactSumLabels", unfollowed := true, recurses := true, apart := false }
def FnExactSumLabelsSaid : Prop := fnExactSumLabelsRow.holds Try.pinned (OpenSpec.ofChange fnExactSumLabelsSpec)

/-- ITS FALSE NEIGHBOUR: 'it returns false'. Refute it at one input. -/
def fnExactSumLabelsWrong : ChangeSpec := { name := "fnExactSumLabels", fn := fun _ => fun
  | [d1, d2, d3] => { results := [.lit (.bool false)], args := [d1, d2, d3] }
  | _ => none }
def FnExactSumLabelsWrongFalsely : Prop := fnExactSumLabelsRow.holds Try.pinned (OpenSpec.ofChange fnExactSumLabelsWrong)

/-- 'laws.FnExactDiagonalTensor': WHATEVER THE INPUT: true; the input reads as it did. -/
def fnExactDiagonalTensorSpec : ChangeSpec := { name := "fnExactDiagonalTensor", fn := fun _ => fun
  | [d1, d2, d3, d4] => { results := [.lit (.bool true)], args := [d1, d2, d3, d4] }
  | _ => none }
def fnExactDiagonalTensorRow : OpenClaim := { program := "ytfdjlahaiogabaa", sum := "cccd4259abfbfdb8cc38abfe2c9644878c4e19c0085092e5eb0933c753601682", func := "loop.example/g03211/laws.FnExactDiagonalTensor", spec := "fnExactDiagonalTensor", unfollowed := true, recurses := true, apart := false }
def FnExactDiagonalTensorSaid : Prop := fnExactDiagonalTensorRow.holds Try.pinned (OpenSpec.ofChange fnExactDiagonalTensorSpec)

/-- ITS FALSE NEIGHBOUR: 'it returns false'. Refute it at one input. -/
def fnExactDiagonalTensorWrong : ChangeSpec := { name := "fnExactDiagonalTensor", fn := fun _ => fun
  | [d1, d2, d3, d4] => { results := [.lit (.bool false)], args := [d1, d2, d3, d4] }
  | _ => none }
def FnExactDiagonalTensorWrongFalsely : Prop := fnExactDiagonalTensorRow.holds Try.pinned (OpenSpec.ofChange fnExactDiagonalTensorWrong)

/- THE SECOND FORM. 'bulk': how many values and letters a reading holds, each counted each time it is reached (what is shared counts as often as it is met; a slice's spare places count too). A statement '..UptoSaid' is the law's where the arguments, and the package variables that the reading takes, are together of bulk at most 1048576: NARROWER than '..Said'. Prove '..Said' where nothing that the law and all that it calls make is longer than what came in: it says more and counts as full. Else prove '..UptoSaid'. A law counts once. -/
mutual
def uptoBulk {H : Type} : DataW H → Nat
  | .lit (.string bytes) => bytes.length + 1
  | .lit _ => 1
  | .nil => 1
  | .ptr d => uptoBulk d + 1
  | .slice elems spare => uptoBulkAll elems + uptoBulkAll spare + 1
  | .agg parts => uptoBulkAll parts + 1
  | .iface _ d => uptoBulk d + 1
  | .map entries => uptoBulkEntries entries + 1
  | .held _ => 1
def uptoBulkAll {H : Type} : List (DataW H) → Nat
  | [] => 0
  | d :: r => uptoBulk d + uptoBulkAll r
def uptoBulkEntries {H : Type} : List (Lit × DataW H) → Nat
  | [] => 0
  | x :: r => uptoBulkEntry x + uptoBulkEntries r
def uptoBulkEntry {H : Type} : Lit × DataW H → Nat
  | (.string bytes, d) => bytes.length + uptoBulk d + 1
  | (_, d) => uptoBulk d + 1
 end
def uptoSmall : (H : Type) → List (DataW H) → Bool := fun _ ds => decide (uptoBulkAll ds ≤ 1048576)
def OpenSpec.upto (s : _root_.Go.ChangeSpec) : _root_.Go.OpenSpec := { _root_.Go.OpenSpec.ofChange s with cond := some uptoSmall }

/-- 'laws.FnExactSliceTensor', WHERE WHAT IT READS IS OF BULK AT MOST 1048576: true; the input reads as it did. -/
def fnExactSliceTensorUptoRow : OpenClaim := { program := "ytfdjlahaiogabaa", sum := "cccd4259abfbfdb8cc38abfe2c9644878c4e19c0085092e5eb0933c753601682", func := "loop.example/g03211/laws.FnExactSliceTensor", spec := "fnExactSliceTensor", unfollowed := true, recurses := true, apart := false, narrowed := true }
def FnExactSliceTensorUptoSaid : Prop := fnExactSliceTensorUptoRow.holds Try.pinned (OpenSpec.upto fnExactSliceTensorSpec)

/-- 'laws.FnExactStackTensors', WHERE WHAT IT READS IS OF BULK AT MOST 1048576: true; the input reads as it did. -/
def fnExactStackTensorsUptoRow : OpenClaim := { program := "ytfdjlahaiogabaa", sum := "cccd4259abfbfdb8cc38abfe2c9644878c4e19c0085092e5eb0933c753601682", func := "loop.example/g03211/laws.FnExactStackTensors", spec := "fnExactStackTensors", unfollowed := true, recurses := true, apart := false, narrowed := true }
def FnExactStackTensorsUptoSaid : Prop := fnExactStackTensorsUptoRow.holds Try.pinned (OpenSpec.upto fnExactStackTensorsSpec)

/-- 'laws.FnExactFixLabels', WHERE WHAT IT READS IS OF BULK AT MOST 1048576: true; the input reads as it did. -/
def fnExactFixLabelsUptoRow : OpenClaim := { program := "ytfdjlahaiogabaa", sum := "cccd4259abfbfdb8cc38abfe2c9644878c4e19c0085092e5eb0933c753601682", func := "loop.example/g03211/laws.FnExactFixLabels", spec := "fnExactFixLabels", unfollowed := true, recurses := true, apart := false, narrowed := true }
def FnExactFixLabelsUptoSaid : Prop := fnExactFixLabelsUptoRow.holds Try.pinned (OpenSpec.upto fnExactFixLabelsSpec)

/-- 'laws.FnPermuted', WHERE WHAT IT READS IS OF BULK AT MOST 1048576: true; the input reads as it did. -/
def fnPermutedUptoRow : OpenClaim := { program := "ytfdjlahaiogabaa", sum := "cccd4259abfbfdb8cc38abfe2c9644878c4e19c0085092e5eb0933c753601682", func := "loop.example/g03211/laws.FnPermuted", spec := "fnPermuted", unfollowed := true, recurses := true, apart := false, narrowed := true }
def FnPermutedUptoSaid : Prop := fnPermutedUptoRow.holds Try.pinned (OpenSpec.upto fnPermutedSpec)

/-- 'laws.FnExactPermuteTensor', WHERE WHAT IT READS IS OF BULK AT MOST 1048576: true; the input reads as it did. -/
def fnExactPermuteTensorUptoRow : OpenClaim := { program := "ytfdjlahaiogabaa", sum := "cccd4259abfbfdb8cc38abfe2c9644878c4e19c0085092e5eb0933c753601682", func := "loop.example/g03211/laws.FnExactPermuteTensor", spec := "fnExactPermuteTensor", unfollowed := true, recurses := true, apart := false, narrowed := true }
def FnExactPermuteTensorUptoSaid : Prop := fnExactPermuteTensorUptoRow.holds Try.pinned (OpenSpec.upto fnExactPermuteTensorSpec)

/-- 'laws.FnExactSortTensor', WHERE WHAT IT READS IS OF BULK AT MOST 1048576: true; the input reads as it did. -/
def fnExactSortTensorUptoRow : OpenClaim := { program := "ytfdjlahaiogabaa", sum := "cccd4259abfbfdb8cc38abfe2c9644878c4e19c0085092e5eb0933c753601682", func := "loop.example/g03211/laws.FnExactSortTensor", spec := "fnExactSortTensor", unfollowed := true, recurses := true, apart := false, narrowed := true }
def FnExactSortTensorUptoSaid : Prop := fnExactSortTensorUptoRow.holds Try.pinned (OpenSpec.upto fnExactSortTensorSpec)

/-- 'laws.FnExactRelabelTensor', WHERE WHAT IT READS IS OF BULK AT MOST 1048576: true; the input reads as it did. -/
def fnExactRelabelTensorUptoRow : OpenClaim := { program := "ytfdjlahaiogabaa", sum := "cccd4259abfbfdb8cc38abfe2c9644878c4e19c0085092e5eb0933c753601682", func := "loop.example/g03211/laws.FnExactRelabelTensor", spec := "fnExactRelabelTensor", unfollowed := true, recurses := true, apart := false, narrowed := true }
def FnExactRelabelTensorUptoSaid : Prop := fnExactRelabelTensorUptoRow.holds Try.pinned (OpenSpec.upto fnExactRelabelTensorSpec)

/-- 'laws.FnExactSameTensor', WHERE WHAT IT READS IS OF BULK AT MOST 1048576: true; the input reads as it did. -/
def fnExactSameTensorUptoRow : OpenClaim := { program := "ytfdjlahaiogabaa", sum := "cccd4259abfbfdb8cc38abfe2c9644878c4e19c0085092e5eb0933c753601682", func := "loop.example/g03211/laws.FnExactSameTensor", spec := "fnExactSameTensor", unfollowed := true, recurses := true, apart := false, narrowed := true }
def FnExactSameTensorUptoSaid : Prop := fnExactSameTensorUptoRow.holds Try.pinned (OpenSpec.upto fnExactSameTensorSpec)

/-- 'laws.FnExactAddTensors', WHERE WHAT IT READS IS OF BULK AT MOST 1048576: true; the input reads as it did. -/
def fnExactAddTensorsUptoRow : OpenClaim := { program := "ytfdjlahaiogabaa", sum := "cccd4259abfbfdb8cc38abfe2c9644878c4e19c0085092e5eb0933c753601682", func := "loop.example/g03211/laws.FnExactAddTensors", spec := "fnExactAddTensors", unfollowed := true, recurses := true, apart := false, narrowed := true }
def FnExactAddTensorsUptoSaid : Prop := fnExactAddTensorsUptoRow.holds Try.pinned (OpenSpec.upto fnExactAddTensorsSpec)

/-- 'laws.FnExactContractPair', WHERE WHAT IT READS IS OF BULK AT MOST 1048576: true; the input reads as it did. -/
def fnExactContractPairUptoRow : OpenClaim := { program := "ytfdjlahaiogabaa", sum := "cccd4259abfbfdb8cc38abfe2c9644878c4e19c0085092e5eb0933c753601682", func := "loop.example/g03211/laws.FnExactContractPair", spec := "fnExactContractPair", unfollowed := true, recurses := true, apart := false, narrowed := true }
def FnExactContractPairUptoSaid : Prop := fnExactContractPairUptoRow.holds Try.pinned (OpenSpec.upto fnExactContractPairSpec)

/-- 'laws.FnExactSumLabels', WHERE WHAT IT READS IS OF BULK AT MOST 1048576: true; the input reads as it did. -/
def fnExactSumLabelsUptoRow : OpenClaim := { program := "ytfdjlahaiogabaa", sum := "cccd4259abfbfdb8cc38abfe2c9644878c4e19c0085092e5eb0933c753601682", func := "loop.example/g03211/laws.FnExactSumLabels", spec := "fnExactSumLabels", unfollowed := true, recurses := true, apart := false, narrowed := true }
def FnExactSumLabelsUptoSaid : Prop := fnExactSumLabelsUptoRow.holds Try.pinned (OpenSpec.upto fnExactSumLabelsSpec)

/-- 'laws.FnExactDiagonalTensor', WHERE WHAT IT READS IS OF BULK AT MOST 1048576: true; the input reads as it did. -/
def fnExactDiagonalTensorUptoRow : OpenClaim := { program := "ytfdjlahaiogabaa", sum := "cccd4259abfbfdb8cc38abfe2c9644878c4e19c0085092e5eb0933c753601682", func := "loop.example/g03211/laws.FnExactDiagonalTensor", spec := "fnExactDiagonalTensor", unfollowed := true, recurses := true, apart := false, narrowed := true }
def FnExactDiagonalTensorUptoSaid : Prop := fnExactDiagonalTensorUptoRow.holds Try.pinned (OpenSpec.upto fnExactDiagonalTensorSpec)

end Rows
end Go.Proofs.Ytfdjlahaiogabaa
