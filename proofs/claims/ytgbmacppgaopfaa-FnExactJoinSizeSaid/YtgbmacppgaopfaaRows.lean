/-
  No cell of these rows narrows 'for every input' (looked for: loops, veiled, ifaces, maps, wideKeys, modest, calm, conditions, laid).
  DERIVED. THE GIVEN ROWS OF THIS SEAT. 13 by the template 'for every input the law returns true; each argument reads behind the call as it read before'; 0 by the template 'total and deterministic' (their statements: YtgbmacppgaopfaaTotals.lean).
  GIVEN WITH THE SEED: the statements are not yours to turn. If you find one false, say at which input.
  Laid BY PROGRAM, IN A SANDBOX (cutbox-rows.mjs): the forced cells as the released guide's own fill.sh prints them over the translation 9ac7a91b5c69317d… (all of the seat's roots in one cut). By AI agents, Wed Nov 11 2026. No macro, syntax, notation, axiom, sorry.
-/
import Derived.Test.YtgbmacppgaopfaaChecked
import GoSem.Claim
import GoSem.ClaimJoined
import GoSem.ClaimMapViews
import Derived.JoinedTies
import Derived.KernelRfl
namespace Go.Proofs.Ytgbmacppgaopfaa
/- THE CELL 'sum', in the pinned program and in every row, IS THE sha256 OF THE DUMP (.gsa) THAT YtgbmacppgaopfaaProg.lean LOADS. Nothing in Lean hashes anything: it is a label: what it is worth is what the hold of that sum in a sandbox is worth. -/
noncomputable def Try.pinned : Pinned := { name := "ytgbmacppgaopfaa", sum := "9ac7a91b5c69317d406d02c58c65bcc62b419ceb427d9804dc21562b01bc0f77", checked := Try.checked }
namespace Rows
def none {H : Type} : Left H := { results := [], args := [] }

/-- 'laws.FnExactNetworkOk': WHATEVER THE INPUT: true; the input reads as it did. -/
def fnExactNetworkOkSpec : ChangeSpec := { name := "fnExactNetworkOk", fn := fun _ => fun
  | [d] => { results := [.lit (.bool true)], args := [d] }
  | _ => none }
def fnExactNetworkOkRow : OpenClaim := { program := "ytgbmacppgaopfaa", sum := "9ac7a91b5c69317d406d02c58c65bcc62b419ceb427d9804dc21562b01bc0f77", func := "loop.example/g03211/laws.FnExactNetworkOk", spec := "fnExactNetworkOk", unfollowed := true, recurses := true, apart := false }
def FnExactNetworkOkSaid : Prop := fnExactNetworkOkRow.holds Try.pinned (OpenSpec.ofChange fnExactNetworkOkSpec)

/-- ITS FALSE NEIGHBOUR: 'it returns false'. Refute it at one input. -/
def fnExactNetworkOkWrong : ChangeSpec := { name := "fnExactNetworkOk", fn := fun _ => fun
  | [d] => { results := [.lit (.bool false)], args := [d] }
  | _ => none }
def FnExactNetworkOkWrongFalsely : Prop := fnExactNetworkOkRow.holds Try.pinned (OpenSpec.ofChange fnExactNetworkOkWrong)

/-- 'laws.FnExactLabelsOf': WHATEVER THE INPUT: true; the input reads as it did. -/
def fnExactLabelsOfSpec : ChangeSpec := { name := "fnExactLabelsOf", fn := fun _ => fun
  | [d] => { results := [.lit (.bool true)], args := [d] }
  | _ => none }
def fnExactLabelsOfRow : OpenClaim := { program := "ytgbmacppgaopfaa", sum := "9ac7a91b5c69317d406d02c58c65bcc62b419ceb427d9804dc21562b01bc0f77", func := "loop.example/g03211/laws.FnExactLabelsOf", spec := "fnExactLabelsOf", unfollowed := true, recurses := true, apart := false }
def FnExactLabelsOfSaid : Prop := fnExactLabelsOfRow.holds Try.pinned (OpenSpec.ofChange fnExactLabelsOfSpec)

/-- ITS FALSE NEIGHBOUR: 'it returns false'. Refute it at one input. -/
def fnExactLabelsOfWrong : ChangeSpec := { name := "fnExactLabelsOf", fn := fun _ => fun
  | [d] => { results := [.lit (.bool false)], args := [d] }
  | _ => none }
def FnExactLabelsOfWrongFalsely : Prop := fnExactLabelsOfRow.holds Try.pinned (OpenSpec.ofChange fnExactLabelsOfWrong)

/-- 'laws.FnExactDimOf': WHATEVER THE INPUT: true; the input reads as it did. -/
def fnExactDimOfSpec : ChangeSpec := { name := "fnExactDimOf", fn := fun _ => fun
  | [d1, d2] => { results := [.lit (.bool true)], args := [d1, d2] }
  | _ => none }
def fnExactDimOfRow : OpenClaim := { program := "ytgbmacppgaopfaa", sum := "9ac7a91b5c69317d406d02c58c65bcc62b419ceb427d9804dc21562b01bc0f77", func := "loop.example/g03211/laws.FnExactDimOf", spec := "fnExactDimOf", unfollowed := true, recurses := true, apart := false }
def FnExactDimOfSaid : Prop := fnExactDimOfRow.holds Try.pinned (OpenSpec.ofChange fnExactDimOfSpec)

/-- ITS FALSE NEIGHBOUR: 'it returns false'. Refute it at one input. -/
def fnExactDimOfWrong : ChangeSpec := { name := "fnExactDimOf", fn := fun _ => fun
  | [d1, d2] => { results := [.lit (.bool false)], args := [d1, d2] }
  | _ => none }
def FnExactDimOfWrongFalsely : Prop := fnExactDimOfRow.holds Try.pinned (OpenSpec.ofChange fnExactDimOfWrong)

/-- 'laws.FnExactUsesOf': WHATEVER THE INPUT: true; the input reads as it did. -/
def fnExactUsesOfSpec : ChangeSpec := { name := "fnExactUsesOf", fn := fun _ => fun
  | [d1, d2] => { results := [.lit (.bool true)], args := [d1, d2] }
  | _ => none }
def fnExactUsesOfRow : OpenClaim := { program := "ytgbmacppgaopfaa", sum := "9ac7a91b5c69317d406d02c58c65bcc62b419ceb427d9804dc21562b01bc0f77", func := "loop.example/g03211/laws.FnExactUsesOf", spec := "fnExactUsesOf", unfollowed := true, recurses := true, apart := false }
def FnExactUsesOfSaid : Prop := fnExactUsesOfRow.holds Try.pinned (OpenSpec.ofChange fnExactUsesOfSpec)

/-- ITS FALSE NEIGHBOUR: 'it returns false'. Refute it at one input. -/
def fnExactUsesOfWrong : ChangeSpec := { name := "fnExactUsesOf", fn := fun _ => fun
  | [d1, d2] => { results := [.lit (.bool false)], args := [d1, d2] }
  | _ => none }
def FnExactUsesOfWrongFalsely : Prop := fnExactUsesOfRow.holds Try.pinned (OpenSpec.ofChange fnExactUsesOfWrong)

/-- 'laws.FnExactWeightOf': WHATEVER THE INPUT: true; the input reads as it did. -/
def fnExactWeightOfSpec : ChangeSpec := { name := "fnExactWeightOf", fn := fun _ => fun
  | [d1, d2] => { results := [.lit (.bool true)], args := [d1, d2] }
  | _ => none }
def fnExactWeightOfRow : OpenClaim := { program := "ytgbmacppgaopfaa", sum := "9ac7a91b5c69317d406d02c58c65bcc62b419ceb427d9804dc21562b01bc0f77", func := "loop.example/g03211/laws.FnExactWeightOf", spec := "fnExactWeightOf", unfollowed := true, recurses := true, apart := false }
def FnExactWeightOfSaid : Prop := fnExactWeightOfRow.holds Try.pinned (OpenSpec.ofChange fnExactWeightOfSpec)

/-- ITS FALSE NEIGHBOUR: 'it returns false'. Refute it at one input. -/
def fnExactWeightOfWrong : ChangeSpec := { name := "fnExactWeightOf", fn := fun _ => fun
  | [d1, d2] => { results := [.lit (.bool false)], args := [d1, d2] }
  | _ => none }
def FnExactWeightOfWrongFalsely : Prop := fnExactWeightOfRow.holds Try.pinned (OpenSpec.ofChange fnExactWeightOfWrong)

/-- 'laws.FnExactContractPair': WHATEVER THE INPUT: true; the input reads as it did. -/
def fnExactContractPairSpec : ChangeSpec := { name := "fnExactContractPair", fn := fun _ => fun
  | [d1, d2, d3, d4] => { results := [.lit (.bool true)], args := [d1, d2, d3, d4] }
  | _ => none }
def fnExactContractPairRow : OpenClaim := { program := "ytgbmacppgaopfaa", sum := "9ac7a91b5c69317d406d02c58c65bcc62b419ceb427d9804dc21562b01bc0f77", func := "loop.example/g03211/laws.FnExactContractPair", spec := "fnExactContractPair", unfollowed := true, recurses := true, apart := false }
def FnExactContractPairSaid : Prop := fnExactContractPairRow.holds Try.pinned (OpenSpec.ofChange fnExactContractPairSpec)

/-- ITS FALSE NEIGHBOUR: 'it returns false'. Refute it at one input. -/
def fnExactContractPairWrong : ChangeSpec := { name := "fnExactContractPair", fn := fun _ => fun
  | [d1, d2, d3, d4] => { results := [.lit (.bool false)], args := [d1, d2, d3, d4] }
  | _ => none }
def FnExactContractPairWrongFalsely : Prop := fnExactContractPairRow.holds Try.pinned (OpenSpec.ofChange fnExactContractPairWrong)

/-- 'laws.FnExactSumLabels': WHATEVER THE INPUT: true; the input reads as it did. -/
def fnExactSumLabelsSpec : ChangeSpec := { name := "fnExactSumLabels", fn := fun _ => fun
  | [d1, d2, d3] => { results := [.lit (.bool true)], args := [d1, d2, d3] }
  | _ => none }
def fnExactSumLabelsRow : OpenClaim := { program := "ytgbmacppgaopfaa", sum := "9ac7a91b5c69317d406d02c58c65bcc62b419ceb427d9804dc21562b01bc0f77", func := "loop.example/g03211/laws.FnExactSumLabels", spec := "fnExactSumLabels", unfollowed := true, recurses := true, apart := false }
def FnExactSumLabelsSaid : Prop := fnExactSumLabelsRow.holds Try.pinned (OpenSpec.ofChange fnExactSumLabelsSpec)

/-- ITS FALSE NEIGHBOUR: 'it returns false'. Refute it at one input. -/
def fnExactSumLabelsWrong : ChangeSpec := { name := "fnExactSumLabels", fn := fun _ => fun
  | [d1, d2, d3] => { results := [.lit (.bool false)], args := [d1, d2, d3] }
  | _ => none }
def FnExactSumLabelsWrongFalsely : Prop := fnExactSumLabelsRow.holds Try.pinned (OpenSpec.ofChange fnExactSumLabelsWrong)

/-- 'laws.FnExactJoinSize': WHATEVER THE INPUT: true; the input reads as it did. -/
def fnExactJoinSizeSpec : ChangeSpec := { name := "fnExactJoinSize", fn := fun _ => fun
  | [d1, d2] => { results := [.lit (.bool true)], args := [d1, d2] }
  | _ => none }
def fnExactJoinSizeRow : OpenClaim := { program := "ytgbmacppgaopfaa", sum := "9ac7a91b5c69317d406d02c58c65bcc62b419ceb427d9804dc21562b01bc0f77", func := "loop.example/g03211/laws.FnExactJoinSize", spec := "fnExactJoinSize", unfollowed := true, recurses := true, apart := false }
def FnExactJoinSizeSaid : Prop := fnExactJoinSizeRow.holds Try.pinned (OpenSpec.ofChange fnExactJoinSizeSpec)

/-- ITS FALSE NEIGHBOUR: 'it returns false'. Refute it at one input. -/
def fnExactJoinSizeWrong : ChangeSpec := { name := "fnExactJoinSize", fn := fun _ => fun
  | [d1, d2] => { results := [.lit (.bool false)], args := [d1, d2] }
  | _ => none }
def FnExactJoinSizeWrongFalsely : Prop := fnExactJoinSizeRow.holds Try.pinned (OpenSpec.ofChange fnExactJoinSizeWrong)

/-- 'laws.FnExactDiagonalTensor': WHATEVER THE INPUT: true; the input reads as it did. -/
def fnExactDiagonalTensorSpec : ChangeSpec := { name := "fnExactDiagonalTensor", fn := fun _ => fun
  | [d1, d2, d3, d4] => { results := [.lit (.bool true)], args := [d1, d2, d3, d4] }
  | _ => none }
def fnExactDiagonalTensorRow : OpenClaim := { program := "ytgbmacppgaopfaa", sum := "9ac7a91b5c69317d406d02c58c65bcc62b419ceb427d9804dc21562b01bc0f77", func := "loop.example/g03211/laws.FnExactDiagonalTensor", spec := "fnExactDiagonalTensor", unfollowed := true, recurses := true, apart := false }
def FnExactDiagonalTensorSaid : Prop := fnExactDiagonalTensorRow.holds Try.pinned (OpenSpec.ofChange fnExactDiagonalTensorSpec)

/-- ITS FALSE NEIGHBOUR: 'it returns false'. Refute it at one input. -/
def fnExactDiagonalTensorWrong : ChangeSpec := { name := "fnExactDiagonalTensor", fn := fun _ => fun
  | [d1, d2, d3, d4] => { results := [.lit (.bool false)], args := [d1, d2, d3, d4] }
  | _ => none }
def FnExactDiagonalTensorWrongFalsely : Prop := fnExactDiagonalTensorRow.holds Try.pinned (OpenSpec.ofChange fnExactDiagonalTensorWrong)

/-- 'laws.FnExactPermuteTensor': WHATEVER THE INPUT: true; the input reads as it did. -/
def fnExactPermuteTensorSpec : ChangeSpec := { name := "fnExactPermuteTensor", fn := fun _ => fun
  | [d1, d2, d3] => { results := [.lit (.bool true)], args := [d1, d2, d3] }
  | _ => none }
def fnExactPermuteTensorRow : OpenClaim := { program := "ytgbmacppgaopfaa", sum := "9ac7a91b5c69317d406d02c58c65bcc62b419ceb427d9804dc21562b01bc0f77", func := "loop.example/g03211/laws.FnExactPermuteTensor", spec := "fnExactPermuteTensor", unfollowed := true, recurses := true, apart := false }
def FnExactPermuteTensorSaid : Prop := fnExactPermuteTensorRow.holds Try.pinned (OpenSpec.ofChange fnExactPermuteTensorSpec)

/-- ITS FALSE NEIGHBOUR: 'it returns false'. Refute it at one input. -/
def fnExactPermuteTensorWrong : ChangeSpec := { name := "fnExactPermuteTensor", fn := fun _ => fun
  | [d1, d2, d3] => { results := [.lit (.bool false)], args := [d1, d2, d3] }
  | _ => none }
def FnExactPermuteTensorWrongFalsely : Prop := fnExactPermuteTensorRow.holds Try.pinned (OpenSpec.ofChange fnExactPermuteTensorWrong)

/-- 'laws.FnExactSortTensor': WHATEVER THE INPUT: true; the input reads as it did. -/
def fnExactSortTensorSpec : ChangeSpec := { name := "fnExactSortTensor", fn := fun _ => fun
  | [d1, d2] => { results := [.lit (.bool true)], args := [d1, d2] }
  | _ => none }
def fnExactSortTensorRow : OpenClaim := { program := "ytgbmacppgaopfaa", sum := "9ac7a91b5c69317d406d02c58c65bcc62b419ceb427d9804dc21562b01bc0f77", func := "loop.example/g03211/laws.FnExactSortTensor", spec := "fnExactSortTensor", unfollowed := true, recurses := true, apart := false }
def FnExactSortTensorSaid : Prop := fnExactSortTensorRow.holds Try.pinned (OpenSpec.ofChange fnExactSortTensorSpec)

/-- ITS FALSE NEIGHBOUR: 'it returns false'. Refute it at one input. -/
def fnExactSortTensorWrong : ChangeSpec := { name := "fnExactSortTensor", fn := fun _ => fun
  | [d1, d2] => { results := [.lit (.bool false)], args := [d1, d2] }
  | _ => none }
def FnExactSortTensorWrongFalsely : Prop := fnExactSortTensorRow.holds Try.pinned (OpenSpec.ofChange fnExactSortTensorWrong)

/-- 'laws.FnExactSameTensor': WHATEVER THE INPUT: true; the input reads as it did. -/
def fnExactSameTensorSpec : ChangeSpec := { name := "fnExactSameTensor", fn := fun _ => fun
  | [d1, d2, d3] => { results := [.lit (.bool true)], args := [d1, d2, d3] }
  | _ => none }
def fnExactSameTensorRow : OpenClaim := { program := "ytgbmacppgaopfaa", sum := "9ac7a91b5c69317d406d02c58c65bcc62b419ceb427d9804dc21562b01bc0f77", func := "loop.example/g03211/laws.FnExactSameTensor", spec := "fnExactSameTensor", unfollowed := true, recurses := true, apart := false }
def FnExactSameTensorSaid : Prop := fnExactSameTensorRow.holds Try.pinned (OpenSpec.ofChange fnExactSameTensorSpec)

/-- ITS FALSE NEIGHBOUR: 'it returns false'. Refute it at one input. -/
def fnExactSameTensorWrong : ChangeSpec := { name := "fnExactSameTensor", fn := fun _ => fun
  | [d1, d2, d3] => { results := [.lit (.bool false)], args := [d1, d2, d3] }
  | _ => none }
def FnExactSameTensorWrongFalsely : Prop := fnExactSameTensorRow.holds Try.pinned (OpenSpec.ofChange fnExactSameTensorWrong)

/-- 'laws.FnExactAddTensors': WHATEVER THE INPUT: true; the input reads as it did. -/
def fnExactAddTensorsSpec : ChangeSpec := { name := "fnExactAddTensors", fn := fun _ => fun
  | [d1, d2, d3] => { results := [.lit (.bool true)], args := [d1, d2, d3] }
  | _ => none }
def fnExactAddTensorsRow : OpenClaim := { program := "ytgbmacppgaopfaa", sum := "9ac7a91b5c69317d406d02c58c65bcc62b419ceb427d9804dc21562b01bc0f77", func := "loop.example/g03211/laws.FnExactAddTensors", spec := "fnExactAddTensors", unfollowed := true, recurses := true, apart := false }
def FnExactAddTensorsSaid : Prop := fnExactAddTensorsRow.holds Try.pinned (OpenSpec.ofChange fnExactAddTensorsSpec)

/-- ITS FALSE NEIGHBOUR: 'it returns false'. Refute it at one input. -/
def fnExactAddTensorsWrong : ChangeSpec := { name := "fnExactAddTensors", fn := fun _ => fun
  | [d1, d2, d3] => { results := [.lit (.bool false)], args := [d1, d2, d3] }
  | _ => none }
def FnExactAddTensorsWrongFalsely : Prop := fnExactAddTensorsRow.holds Try.pinned (OpenSpec.ofChange fnExactAddTensorsWrong)

/- THE SECOND FORM. 'bulk': how many values and letters a reading holds, each counted each time it is reached (what is shared counts as often as it is met; a slice's spare places count too). A statement '..UptoSaid' is the law's where the arguments, and the package variables that the reading takes, are together of bulk at most 1048576: NARROWER than '..Said'. Prove '..Said' where nothing that the law and all that it calls make is longer than what came in: it says more and counts as full. Else prove '..UptoSaid'. A law counts once. -/
mutual
def uptoBulk {H : Type} : DataW H → Nat
  | .lit (.string bytes) => bytes.length + 1
  | .lit _ => 1
  | .nil => 1
  | .ptr d => uptoBulk d + 1
  | .slice elems spare => uptoBulkAll elems + uptoBulkAll spare + 1
  | .agg parts => uptoBulkAll parts + 1
  | .iface _ d => uptoBulk d + 1
  | .map entries => uptoBulkEntries entries + 1
  | .held _ => 1
def uptoBulkAll {H : Type} : List (DataW H) → Nat
  | [] => 0
  | d :: r => uptoBulk d + uptoBulkAll r
def uptoBulkEntries {H : Type} : List (Lit × DataW H) → Nat
  | [] => 0
  | x :: r => uptoBulkEntry x + uptoBulkEntries r
def uptoBulkEntry {H : Type} : Lit × DataW H → Nat
  | (.string bytes, d) => bytes.length + uptoBulk d + 1
  | (_, d) => uptoBulk d + 1
 end
def uptoSmall : (H : Type) → List (DataW H) → Bool := fun _ ds => decide (uptoBulkAll ds ≤ 1048576)
def OpenSpec.upto (s : _root_.Go.ChangeSpec) : _root_.Go.OpenSpec := { _root_.Go.OpenSpec.ofChange s with cond := some uptoSmall }

/-- 'laws.FnExactNetworkOk', WHERE WHAT IT READS IS OF BULK AT MOST 1048576: true; the input reads as it did. -/
def fnExactNetworkOkUptoRow : OpenClaim := { program := "ytgbmacppgaopfaa", sum := "9ac7a91b5c69317d406d02c58c65bcc62b419ceb427d9804dc21562b01bc0f77", func := "loop.example/g03211/laws.FnExactNetworkOk", spec := "fnExactNetworkOk", unfollowed := true, recurses := true, apart := false, narrowed := true }
def FnExactNetworkOkUptoSaid : Prop := fnExactNetworkOkUptoRow.holds Try.pinned (OpenSpec.upto fnExactNetworkOkSpec)

/-- 'laws.FnExactLabelsOf', WHERE WHAT IT READS IS OF BULK AT MOST 1048576: true; the input reads as it did. -/
def fnExactLabelsOfUptoRow : OpenClaim := { program := "ytgbmacppgaopfaa", sum := "9ac7a91b5c69317d406d02c58c65bcc62b419ceb427d9804dc21562b01bc0f77", func := "loop.example/g03211/laws.FnExactLabelsOf", spec := "fnExactLabelsOf", unfollowed := true, recurses := true, apart := false, narrowed := true }
def FnExactLabelsOfUptoSaid : Prop := fnExactLabelsOfUptoRow.holds Try.pinned (OpenSpec.upto fnExactLabelsOfSpec)

/-- 'laws.FnExactDimOf', WHERE WHAT IT READS IS OF BULK AT MOST 1048576: true; the input reads as it did. -/
def fnExactDimOfUptoRow : OpenClaim := { program := "ytgbmacppgaopfaa", sum := "9ac7a91b5c69317d406d02c58c65bcc62b419ceb427d9804dc21562b01bc0f77", func := "loop.example/g03211/laws.FnExactDimOf", spec := "fnExactDimOf", unfollowed := true, recurses := true, apart := false, narrowed := true }
def FnExactDimOfUptoSaid : Prop := fnExactDimOfUptoRow.holds Try.pinned (OpenSpec.upto fnExactDimOfSpec)

/-- 'laws.FnExactUsesOf', WHERE WHAT IT READS IS OF BULK AT MOST 1048576: true; the input reads as it did. -/
def fnExactUsesOfUptoRow : OpenClaim := { program := "ytgbmacppgaopfaa", sum := "9ac7a91b5c69317d406d02c58c65bcc62b419ceb427d9804dc21562b01bc0f77", func := "loop.example/g03211/laws.FnExactUsesOf", spec := "fnExactUsesOf", unfollowed := true, recurses := true, apart := false, narrowed := true }
def FnExactUsesOfUptoSaid : Prop := fnExactUsesOfUptoRow.holds Try.pinned (OpenSpec.upto fnExactUsesOfSpec)

/-- 'laws.FnExactWeightOf', WHERE WHAT IT READS IS OF BULK AT MOST 1048576: true; the input reads as it did. -/
def fnExactWeightOfUptoRow : OpenClaim := { program := "ytgbmacppgaopfaa", sum := "9ac7a91b5c69317d406d02c58c65bcc62b419ceb427d9804dc21562b01bc0f77", func := "loop.example/g03211/laws.FnExactWeightOf", spec := "fnExactWeightOf", unfollowed := true, recurses := true, apart := false, narrowed := true }
def FnExactWeightOfUptoSaid : Prop := fnExactWeightOfUptoRow.holds Try.pinned (OpenSpec.upto fnExactWeightOfSpec)

/-- 'laws.FnExactContractPair', WHERE WHAT IT READS IS OF BULK AT MOST 1048576: true; the input reads as it did. -/
def fnExactContractPairUptoRow : OpenClaim := { program := "ytgbmacppgaopfaa", sum := "9ac7a91b5c69317d406d02c58c65bcc62b419ceb427d9804dc21562b01bc0f77", func := "loop.example/g03211/laws.FnExactContractPair", spec := "fnExactContractPair", unfollowed := true, recurses := true, apart := false, narrowed := true }
def FnExactContractPairUptoSaid : Prop := fnExactContractPairUptoRow.holds Try.pinned (OpenSpec.upto fnExactContractPairSpec)

/-- 'laws.FnExactSumLabels', WHERE WHAT IT READS IS OF BULK AT MOST 1048576: true; the input reads as it did. -/
def fnExactSumLabelsUptoRow : OpenClaim := { program := "ytgbmacppgaopfaa", sum := "9ac7a91b5c69317d406d02c58c65bcc62b419ceb427d9804dc21562b01bc0f77", func := "loop.example/g03211/laws.FnExactSumLabels", spec := "fnExactSumLabels", unfollowed := true, recurses := true, apart := false, narrowed := true }
def FnExactSumLabelsUptoSaid : Prop := fnExactSumLabelsUptoRow.holds Try.pinned (OpenSpec.upto fnExactSumLabelsSpec)

/-- 'laws.FnExactJoinSize', WHERE WHAT IT READS IS OF BULK AT MOST 1048576: true; the input reads as it did. -/
def fnExactJoinSizeUptoRow : OpenClaim := { program := "ytgbmacppgaopfaa", sum := "9ac7a91b5c69317d406d02c58c65bcc62b419ceb427d9804dc21562b01bc0f77", func := "loop.example/g03211/laws.FnExactJoinSize", spec := "fnExactJoinSize", unfollowed := true, recurses := true, apart := false, narrowed := true }
def FnExactJoinSizeUptoSaid : Prop := fnExactJoinSizeUptoRow.holds Try.pinned (OpenSpec.upto fnExactJoinSizeSpec)

/-- 'laws.FnExactDiagonalTensor', WHERE WHAT IT READS IS OF BULK AT MOST 1048576: true; the input reads as it did. -/
def fnExactDiagonalTensorUptoRow : OpenClaim := { program := "ytgbmacppgaopfaa", sum := "9ac7a91b5c69317d406d02c58c65bcc62b419ceb427d9804dc21562b01bc0f77", func := "loop.example/g03211/laws.FnExactDiagonalTensor", spec := "fnExactDiagonalTensor", unfollowed := true, recurses := true, apart := false, narrowed := true }
def FnExactDiagonalTensorUptoSaid : Prop := fnExactDiagonalTensorUptoRow.holds Try.pinned (OpenSpec.upto fnExactDiagonalTensorSpec)

/-- 'laws.FnExactPermuteTensor', WHERE WHAT IT READS IS OF BULK AT MOST 1048576: true; the input reads as it did. -/
def fnExactPermuteTensorUptoRow : OpenClaim := { program := "ytgbmacppgaopfaa", sum := "9ac7a91b5c69317d406d02c58c65bcc62b419ceb427d9804dc21562b01bc0f77", func := "loop.example/g03211/laws.FnExactPermuteTensor", spec := "fnExactPermuteTensor", unfollowed := true, recurses := true, apart := false, narrowed := true }
def FnExactPermuteTensorUptoSaid : Prop := fnExactPermuteTensorUptoRow.holds Try.pinned (OpenSpec.upto fnExactPermuteTensorSpec)

/-- 'laws.FnExactSortTensor', WHERE WHAT IT READS IS OF BULK AT MOST 1048576: true; the input reads as it did. -/
def fnExactSortTensorUptoRow : OpenClaim := { program := "ytgbmacppgaopfaa", sum := "9ac7a91b5c69317d406d02c58c65bcc62b419ceb427d9804dc21562b01bc0f77", func := "loop.example/g03211/laws.FnExactSortTensor", spec := "fnExactSortTensor", unfollowed := true, recurses := true, apart := false, narrowed := true }
def FnExactSortTensorUptoSaid : Prop := fnExactSortTensorUptoRow.holds Try.pinned (OpenSpec.upto fnExactSortTensorSpec)

/-- 'laws.FnExactSameTensor', WHERE WHAT IT READS IS OF BULK AT MOST 1048576: true; the input reads as it did. -/
def fnExactSameTensorUptoRow : OpenClaim := { program := "ytgbmacppgaopfaa", sum := "9ac7a91b5c69317d406d02c58c65bcc62b419ceb427d9804dc21562b01bc0f77", func := "loop.example/g03211/laws.FnExactSameTensor", spec := "fnExactSameTensor", unfollowed := true, recurses := true, apart := false, narrowed := true }
def FnExactSameTensorUptoSaid : Prop := fnExactSameTensorUptoRow.holds Try.pinned (OpenSpec.upto fnExactSameTensorSpec)

/-- 'laws.FnExactAddTensors', WHERE WHAT IT READS IS OF BULK AT MOST 1048576: true; the input reads as it did. -/
def fnExactAddTensorsUptoRow : OpenClaim := { program := "ytgbmacppgaopfaa", sum := "9ac7a91b5c69317d406d02c58c65bcc62b419ceb427d9804dc21562b01bc0f77", func := "loop.example/g03211/laws.FnExactAddTensors", spec := "fnExactAddTensors", unfollowed := true, recurses := true, apart := false, narrowed := true }
def FnExactAddTensorsUptoSaid : Prop := fnExactAddTensorsUptoRow.holds Try.pinned (OpenSpec.upto fnExactAddTensorsSpec)

end Rows
end Go.Proofs.Ytgbmacppgaopfaa
