/-
  No cell of these rows narrows 'for every input' (looked for: loops, veiled, ifaces, maps, wideKeys, modest, calm, conditions, laid).
  DERIVED. THE GIVEN ROWS OF THIS SEAT. 13 by the template 'for every input the law returns true; each argument reads behind the call as it read before'; 0 by the template 'total and deterministic' (their statements: YtgabcdploeledaaTotals.lean).
  GIVEN WITH THE SEED: the statements are not yours to turn. If you find one false, say at which input.
  Laid BY PROGRAM, IN A SANDBOX (cutbox-rows.mjs): the forced cells as the released guide's own fill.sh prints them over the translation aa7b67dba8ff028d… (all of the seat's roots in one cut). By AI agents, Wed Nov 11 2026. No macro, syntax, notation, axiom, sorry.
-/
import Derived.Test.YtgabcdploeledaaChecked
import GoSem.Claim
import GoSem.ClaimJoined
import GoSem.ClaimMapViews
import Derived.JoinedTies
import Derived.KernelRfl
namespace Go.Proofs.Ytgabcdploeledaa
/- THE CELL 'sum', in the pinned program and in every row, IS THE sha256 OF THE DUMP (.gsa) THAT YtgabcdploeledaaProg.lean LOADS. Nothing in Lean hashes anything: it is a label: what it is worth is what the hold of that sum in a sandbox is worth. -/
noncomputable def Try.pinned : Pinned := { name := "ytgabcdploeledaa", sum := "aa7b67dba8ff028d9cfc8ecc94bac689ba5906a910585ce7abceb91058a4da62", checked := Try.checked }
namespace Rows
def none {H : Type} : Left H := { results := [], args := [] }

/-- 'laws.FnExactContractPair': WHATEVER THE INPUT: true; the input reads as it did. -/
def fnExactContractPairSpec : ChangeSpec := { name := "fnExactContractPair", fn := fun _ => fun
  | [d1, d2, d3, d4] => { results := [.lit (.bool true)], args := [d1, d2, d3, d4] }
  | _ => none }
def fnExactContractPairRow : OpenClaim := { program := "ytgabcdploeledaa", sum := "aa7b67dba8ff028d9cfc8ecc94bac689ba5906a910585ce7abceb91058a4da62", func := "loop.example/g03211/laws.FnExactContractPair", spec := "fnExactContractPair", unfollowed := true, recurses := true, apart := false }
def FnExactContractPairSaid : Prop := fnExactContractPairRow.holds Try.pinned (OpenSpec.ofChange fnExactContractPairSpec)

/-- ITS FALSE NEIGHBOUR: 'it returns false'. Refute it at one input. -/
def fnExactContractPairWrong : ChangeSpec := { name := "fnExactContractPair", fn := fun _ => fun
  | [d1, d2, d3, d4] => { results := [.lit (.bool false)], args := [d1, d2, d3, d4] }
  | _ => none }
def FnExactContractPairWrongFalsely : Prop := fnExactContractPairRow.holds Try.pinned (OpenSpec.ofChange fnExactContractPairWrong)

/-- 'laws.FnExactSumLabels': WHATEVER THE INPUT: true; the input reads as it did. -/
def fnExactSumLabelsSpec : ChangeSpec := { name := "fnExactSumLabels", fn := fun _ => fun
  | [d1, d2, d3] => { results := [.lit (.bool true)], args := [d1, d2, d3] }
  | _ => none }
def fnExactSumLabelsRow : OpenClaim := { program := "ytgabcdploeledaa", sum := "aa7b67dba8ff028d9cfc8ecc94bac689ba5906a910585ce7abceb91058a4da62", func := "loop.example/g03211/laws.FnExactSumLabels", spec := "fnExactSumLabels", unfollowed := true, recurses := true, apart := false }
def FnExactSumLabelsSaid : Prop := fnExactSumLabelsRow.holds Try.pinned (OpenSpec.ofChange fnExactSumLabelsSpec)

/-- ITS FALSE NEIGHBOUR: 'it returns false'. Refute it at one input. -/
def fnExactSumLabelsWrong : ChangeSpec := { name := "fnExactSumLabels", fn := fun _ => fun
  | [d1, d2, d3] => { results := [.lit (.bool false)], args := [d1, d2, d3] }
  | _ => none }
def FnExactSumLabelsWrongFalsely : Prop := fnExactSumLabelsRow.holds Try.pinned (OpenSpec.ofChange fnExactSumLabelsWrong)

/-- 'laws.FnExactDiagonalTensor': WHATEVER THE INPUT: true; the input reads as it did. -/
def fnExactDiagonalTensorSpec : ChangeSpec := { name := "fnExactDiagonalTensor", fn := fun _ => fun
  | [d1, d2, d3, d4] => { results := [.lit (.bool true)], args := [d1, d2, d3, d4] }
  | _ => none }
def fnExactDiagonalTensorRow : OpenClaim := { program := "ytgabcdploeledaa", sum := "aa7b67dba8ff028d9cfc8ecc94bac689ba5906a910585ce7abceb91058a4da62", func := "loop.example/g03211/laws.FnExactDiagonalTensor", spec := "fnExactDiagonalTensor", unfollowed := true, recurses := true, apart := false }
def FnExactDiagonalTensorSaid : Prop := fnExactDiagonalTensorRow.holds Try.pinned (OpenSpec.ofChange fnExactDiagonalTensorSpec)

/-- ITS FALSE NEIGHBOUR: 'it returns false'. Refute it at one input. -/
def fnExactDiagonalTensorWrong : ChangeSpec := { name := "fnExactDiagonalTensor", fn := fun _ => fun
  | [d1, d2, d3, d4] => { results := [.lit (.bool false)], args := [d1, d2, d3, d4] }
  | _ => none }
def FnExactDiagonalTensorWrongFalsely : Prop := fnExactDiagonalTensorRow.holds Try.pinned (OpenSpec.ofChange fnExactDiagonalTensorWrong)

/-- 'laws.FnExactJoinSize': WHATEVER THE INPUT: true; the input reads as it did. -/
def fnExactJoinSizeSpec : ChangeSpec := { name := "fnExactJoinSize", fn := fun _ => fun
  | [d1, d2] => { results := [.lit (.bool true)], args := [d1, d2] }
  | _ => none }
def fnExactJoinSizeRow : OpenClaim := { program := "ytgabcdploeledaa", sum := "aa7b67dba8ff028d9cfc8ecc94bac689ba5906a910585ce7abceb91058a4da62", func := "loop.example/g03211/laws.FnExactJoinSize", spec := "fnExactJoinSize", unfollowed := true, recurses := true, apart := false }
def FnExactJoinSizeSaid : Prop := fnExactJoinSizeRow.holds Try.pinned (OpenSpec.ofChange fnExactJoinSizeSpec)

/-- ITS FALSE NEIGHBOUR: 'it returns false'. Refute it at one input. -/
def fnExactJoinSizeWrong : ChangeSpec := { name := "fnExactJoinSize", fn := fun _ => fun
  | [d1, d2] => { results := [.lit (.bool false)], args := [d1, d2] }
  | _ => none }
def FnExactJoinSizeWrongFalsely : Prop := fnExactJoinSizeRow.holds Try.pinned (OpenSpec.ofChange fnExactJoinSizeWrong)

/-- 'laws.FnPairs': WHATEVER THE INPUT: true; the input reads as it did. -/
def fnPairsSpec : ChangeSpec := { name := "fnPairs", fn := fun _ => fun
  | [d] => { results := [.lit (.bool true)], args := [d] }
  | _ => none }
def fnPairsRow : OpenClaim := { program := "ytgabcdploeledaa", sum := "aa7b67dba8ff028d9cfc8ecc94bac689ba5906a910585ce7abceb91058a4da62", func := "loop.example/g03211/laws.FnPairs", spec := "fnPairs", unfollowed := true, recurses := true, apart := false }
def FnPairsSaid : Prop := fnPairsRow.holds Try.pinned (OpenSpec.ofChange fnPairsSpec)

/-- ITS FALSE NEIGHBOUR: 'it returns false'. Refute it at one input. -/
def fnPairsWrong : ChangeSpec := { name := "fnPairs", fn := fun _ => fun
  | [d] => { results := [.lit (.bool false)], args := [d] }
  | _ => none }
def FnPairsWrongFalsely : Prop := fnPairsRow.holds Try.pinned (OpenSpec.ofChange fnPairsWrong)

/-- 'laws.FnAssociative': WHATEVER THE INPUT: true; the input reads as it did. -/
def fnAssociativeSpec : ChangeSpec := { name := "fnAssociative", fn := fun _ => fun
  | [d] => { results := [.lit (.bool true)], args := [d] }
  | _ => none }
def fnAssociativeRow : OpenClaim := { program := "ytgabcdploeledaa", sum := "aa7b67dba8ff028d9cfc8ecc94bac689ba5906a910585ce7abceb91058a4da62", func := "loop.example/g03211/laws.FnAssociative", spec := "fnAssociative", unfollowed := true, recurses := true, apart := false }
def FnAssociativeSaid : Prop := fnAssociativeRow.holds Try.pinned (OpenSpec.ofChange fnAssociativeSpec)

/-- ITS FALSE NEIGHBOUR: 'it returns false'. Refute it at one input. -/
def fnAssociativeWrong : ChangeSpec := { name := "fnAssociative", fn := fun _ => fun
  | [d] => { results := [.lit (.bool false)], args := [d] }
  | _ => none }
def FnAssociativeWrongFalsely : Prop := fnAssociativeRow.holds Try.pinned (OpenSpec.ofChange fnAssociativeWrong)

/-- 'laws.FnImages': WHATEVER THE INPUT: true; the input reads as it did. -/
def fnImagesSpec : ChangeSpec := { name := "fnImages", fn := fun _ => fun
  | [d] => { results := [.lit (.bool true)], args := [d] }
  | _ => none }
def fnImagesRow : OpenClaim := { program := "ytgabcdploeledaa", sum := "aa7b67dba8ff028d9cfc8ecc94bac689ba5906a910585ce7abceb91058a4da62", func := "loop.example/g03211/laws.FnImages", spec := "fnImages", unfollowed := true, recurses := true, apart := false }
def FnImagesSaid : Prop := fnImagesRow.holds Try.pinned (OpenSpec.ofChange fnImagesSpec)

/-- ITS FALSE NEIGHBOUR: 'it returns false'. Refute it at one input. -/
def fnImagesWrong : ChangeSpec := { name := "fnImages", fn := fun _ => fun
  | [d] => { results := [.lit (.bool false)], args := [d] }
  | _ => none }
def FnImagesWrongFalsely : Prop := fnImagesRow.holds Try.pinned (OpenSpec.ofChange fnImagesWrong)

/-- 'laws.FnExactPermuteTensor': WHATEVER THE INPUT: true; the input reads as it did. -/
def fnExactPermuteTensorSpec : ChangeSpec := { name := "fnExactPermuteTensor", fn := fun _ => fun
  | [d1, d2, d3] => { results := [.lit (.bool true)], args := [d1, d2, d3] }
  | _ => none }
def fnExactPermuteTensorRow : OpenClaim := { program := "ytgabcdploeledaa", sum := "aa7b67dba8ff028d9cfc8ecc94bac689ba5906a910585ce7abceb91058a4da62", func := "loop.example/g03211/laws.FnExactPermuteTensor", spec := "fnExactPermuteTensor", unfollowed := true, recurses := true, apart := false }
def FnExactPermuteTensorSaid : Prop := fnExactPermuteTensorRow.holds Try.pinned (OpenSpec.ofChange fnExactPermuteTensorSpec)

/-- ITS FALSE NEIGHBOUR: 'it returns false'. Refute it at one input. -/
def fnExactPermuteTensorWrong : ChangeSpec := { name := "fnExactPermuteTensor", fn := fun _ => fun
  | [d1, d2, d3] => { results := [.lit (.bool false)], args := [d1, d2, d3] }
  | _ => none }
def FnExactPermuteTensorWrongFalsely : Prop := fnExactPermuteTensorRow.holds Try.pinned (OpenSpec.ofChange fnExactPermuteTensorWrong)

/-- 'laws.FnExactSortTensor': WHATEVER THE INPUT: true; the input reads as it did. -/
def fnExactSortTensorSpec : ChangeSpec := { name := "fnExactSortTensor", fn := fun _ => fun
  | [d1, d2] => { results := [.lit (.bool true)], args := [d1, d2] }
  | _ => none }
def fnExactSortTensorRow : OpenClaim := { program := "ytgabcdploeledaa", sum := "aa7b67dba8ff028d9cfc8ecc94bac689ba5906a910585ce7abceb91058a4da62", func := "loop.example/g03211/laws.FnExactSortTensor", spec := "fnExactSortTensor", unfollowed := true, recurses := true, apart := false }
def FnExactSortTensorSaid : Prop := fnExactSortTensorRow.holds Try.pinned (OpenSpec.ofChange fnExactSortTensorSpec)

/-- ITS FALSE NEIGHBOUR: 'it returns false'. Refute it at one input. -/
def fnExactSortTensorWrong : ChangeSpec := { name := "fnExactSortTensor", fn := fun _ => fun
  | [d1, d2] => { results := [.lit (.bool false)], args := [d1, d2] }
  | _ => none }
def FnExactSortTensorWrongFalsely : Prop := fnExactSortTensorRow.holds Try.pinned (OpenSpec.ofChange fnExactSortTensorWrong)

/-- 'laws.FnExactSameTensor': WHATEVER THE INPUT: true; the input reads as it did. -/
def fnExactSameTensorSpec : ChangeSpec := { name := "fnExactSameTensor", fn := fun _ => fun
  | [d1, d2, d3] => { results := [.lit (.bool true)], args := [d1, d2, d3] }
  | _ => none }
def fnExactSameTensorRow : OpenClaim := { program := "ytgabcdploeledaa", sum := "aa7b67dba8ff028d9cfc8ecc94bac689ba5906a910585ce7abceb91058a4da62", func := "loop.example/g03211/laws.FnExactSameTensor", spec := "fnExactSameTensor", unfollowed := true, recurses := true, apart := false }
def FnExactSameTensorSaid : Prop := fnExactSameTensorRow.holds Try.pinned (OpenSpec.ofChange fnExactSameTensorSpec)

/-- ITS FALSE NEIGHBOUR: 'it returns false'. Refute it at one input. -/
def fnExactSameTensorWrong : ChangeSpec := { name := "fnExactSameTensor", fn := fun _ => fun
  | [d1, d2, d3] => { results := [.lit (.bool false)], args := [d1, d2, d3] }
  | _ => none }
def FnExactSameTensorWrongFalsely : Prop := fnExactSameTensorRow.holds Try.pinned (OpenSpec.ofChange fnExactSameTensorWrong)

/-- 'laws.FnPermuted': WHATEVER THE INPUT: true; the input reads as it did. -/
def fnPermutedSpec : ChangeSpec := { name := "fnPermuted", fn := fun _ => fun
  | [d] => { results := [.lit (.bool true)], args := [d] }
  | _ => none }
def fnPermutedRow : OpenClaim := { program := "ytgabcdploeledaa", sum := "aa7b67dba8ff028d9cfc8ecc94bac689ba5906a910585ce7abceb91058a4da62", func := "loop.example/g03211/laws.FnPermuted", spec := "fnPermuted", unfollowed := true, recurses := true, apart := false }
def FnPermutedSaid : Prop := fnPermutedRow.holds Try.pinned (OpenSpec.ofChange fnPermutedSpec)

/-- ITS FALSE NEIGHBOUR: 'it returns false'. Refute it at one input. -/
def fnPermutedWrong : ChangeSpec := { name := "fnPermuted", fn := fun _ => fun
  | [d] => { results := [.lit (.bool false)], args := [d] }
  | _ => none }
def FnPermutedWrongFalsely : Prop := fnPermutedRow.holds Try.pinned (OpenSpec.ofChange fnPermutedWrong)

/-- 'laws.FnExactAddTensors': WHATEVER THE INPUT: true; the input reads as it did. -/
def fnExactAddTensorsSpec : ChangeSpec := { name := "fnExactAddTensors", fn := fun _ => fun
  | [d1, d2, d3] => { results := [.lit (.bool true)], args := [d1, d2, d3] }
  | _ => none }
def fnExactAddTensorsRow : OpenClaim := { program := "ytgabcdploeledaa", sum := "aa7b67dba8ff028d9cfc8ecc94bac689ba5906a910585ce7abceb91058a4da62", func := "loop.example/g03211/laws.FnExactAddTensors", spec := "fnExactAddTensors", unfollowed := true, recurses := true, apart := false }
def FnExactAddTensorsSaid : Prop := fnExactAddTensorsRow.holds Try.pinned (OpenSpec.ofChange fnExactAddTensorsSpec)

/-- ITS FALSE NEIGHBOUR: 'it returns false'. Refute it at one input. -/
def fnExactAddTensorsWrong : ChangeSpec := { name := "fnExactAddTensors", fn := fun _ => fun
  | [d1, d2, d3] => { results := [.lit (.bool false)], args := [d1, d2, d3] }
  | _ => none }
def FnExactAddTensorsWrongFalsely : Prop := fnExactAddTensorsRow.holds Try.pinned (OpenSpec.ofChange fnExactAddTensorsWrong)

/-- 'laws.FnExactMultiplyTensors': WHATEVER THE INPUT: true; the input reads as it did. -/
def fnExactMultiplyTensorsSpec : ChangeSpec := { name := "fnExactMultiplyTensors", fn := fun _ => fun
  | [d1, d2, d3] => { results := [.lit (.bool true)], args := [d1, d2, d3] }
  | _ => none }
def fnExactMultiplyTensorsRow : OpenClaim := { program := "ytgabcdploeledaa", sum := "aa7b67dba8ff028d9cfc8ecc94bac689ba5906a910585ce7abceb91058a4da62", func := "loop.example/g03211/laws.FnExactMultiplyTensors", spec := "fnExactMultiplyTensors", unfollowed := true, recurses := true, apart := false }
def FnExactMultiplyTensorsSaid : Prop := fnExactMultiplyTensorsRow.holds Try.pinned (OpenSpec.ofChange fnExactMultiplyTensorsSpec)

/-- ITS FALSE NEIGHBOUR: 'it returns false'. Refute it at one input. -/
def fnExactMultiplyTensorsWrong : ChangeSpec := { name := "fnExactMultiplyTensors", fn := fun _ => fun
  | [d1, d2, d3] => { results := [.lit (.bool false)], args := [d1, d2, d3] }
  | _ => none }
def FnExactMultiplyTensorsWrongFalsely : Prop := fnExactMultiplyTensorsRow.holds Try.pinned (OpenSpec.ofChange fnExactMultiplyTensorsWrong)

/- THE SECOND FORM. 'bulk': how many values and letters a reading holds, each counted each time it is reached (what is shared counts as often as it is met; a slice's spare places count too). A statement '..UptoSaid' is the law's where the arguments, and the package variables that the reading takes, are together of bulk at most 1048576: NARROWER than '..Said'. Prove '..Said' where nothing that the law and all that it calls make is longer than what came in: it says more and counts as full. Else prove '..UptoSaid'. A law counts once. -/
mutual
def uptoBulk {H : Type} : DataW H → Nat
  | .lit (.string bytes) => bytes.length + 1
  | .lit _ => 1
  | .nil => 1
  | .ptr d => uptoBulk d + 1
  | .slice elems spare => uptoBulkAll elems + uptoBulkAll spare + 1
  | .agg parts => uptoBulkAll parts + 1
  | .iface _ d => uptoBulk d + 1
  | .map entries => uptoBulkEntries entries + 1
  | .held _ => 1
def uptoBulkAll {H : Type} : List (DataW H) → Nat
  | [] => 0
  | d :: r => uptoBulk d + uptoBulkAll r
def uptoBulkEntries {H : Type} : List (Lit × DataW H) → Nat
  | [] => 0
  | x :: r => uptoBulkEntry x + uptoBulkEntries r
def uptoBulkEntry {H : Type} : Lit × DataW H → Nat
  | (.string bytes, d) => bytes.length + uptoBulk d + 1
  | (_, d) => uptoBulk d + 1
 end
def uptoSmall : (H : Type) → List (DataW H) → Bool := fun _ ds => decide (uptoBulkAll ds ≤ 1048576)
def OpenSpec.upto (s : _root_.Go.ChangeSpec) : _root_.Go.OpenSpec := { _root_.Go.OpenSpec.ofChange s with cond := some uptoSmall }

/-- 'laws.FnExactContractPair', WHERE WHAT IT READS IS OF BULK AT MOST 1048576: true; the input reads as it did. -/
def fnExactContractPairUptoRow : OpenClaim := { program := "ytgabcdploeledaa", sum := "aa7b67dba8ff028d9cfc8ecc94bac689ba5906a910585ce7abceb91058a4da62", func := "loop.example/g03211/laws.FnExactContractPair", spec := "fnExactContractPair", unfollowed := true, recurses := true, apart := false, narrowed := true }
def FnExactContractPairUptoSaid : Prop := fnExactContractPairUptoRow.holds Try.pinned (OpenSpec.upto fnExactContractPairSpec)

/-- 'laws.FnExactSumLabels', WHERE WHAT IT READS IS OF BULK AT MOST 1048576: true; the input reads as it did. -/
def fnExactSumLabelsUptoRow : OpenClaim := { program := "ytgabcdploeledaa", sum := "aa7b67dba8ff028d9cfc8ecc94bac689ba5906a910585ce7abceb91058a4da62", func := "loop.example/g03211/laws.FnExactSumLabels", spec := "fnExactSumLabels", unfollowed := true, recurses := true, apart := false, narrowed := true }
def FnExactSumLabelsUptoSaid : Prop := fnExactSumLabelsUptoRow.holds Try.pinned (OpenSpec.upto fnExactSumLabelsSpec)

/-- 'laws.FnExactDiagonalTensor', WHERE WHAT IT READS IS OF BULK AT MOST 1048576: true; the input reads as it did. -/
def fnExactDiagonalTensorUptoRow : OpenClaim := { program := "ytgabcdploeledaa", sum := "aa7b67dba8ff028d9cfc8ecc94bac689ba5906a910585ce7abceb91058a4da62", func := "loop.example/g03211/laws.FnExactDiagonalTensor", spec := "fnExactDiagonalTensor", unfollowed := true, recurses := true, apart := false, narrowed := true }
def FnExactDiagonalTensorUptoSaid : Prop := fnExactDiagonalTensorUptoRow.holds Try.pinned (OpenSpec.upto fnExactDiagonalTensorSpec)

/-- 'laws.FnExactJoinSize', WHERE WHAT IT READS IS OF BULK AT MOST 1048576: true; the input reads as it did. -/
def fnExactJoinSizeUptoRow : OpenClaim := { program := "ytgabcdploeledaa", sum := "aa7b67dba8ff028d9cfc8ecc94bac689ba5906a910585ce7abceb91058a4da62", func := "loop.example/g03211/laws.FnExactJoinSize", spec := "fnExactJoinSize", unfollowed := true, recurses := true, apart := false, narrowed := true }
def FnExactJoinSizeUptoSaid : Prop := fnExactJoinSizeUptoRow.holds Try.pinned (OpenSpec.upto fnExactJoinSizeSpec)

/-- 'laws.FnPairs', WHERE WHAT IT READS IS OF BULK AT MOST 1048576: true; the input reads as it did. -/
def fnPairsUptoRow : OpenClaim := { program := "ytgabcdploeledaa", sum := "aa7b67dba8ff028d9cfc8ecc94bac689ba5906a910585ce7abceb91058a4da62", func := "loop.example/g03211/laws.FnPairs", spec := "fnPairs", unfollowed := true, recurses := true, apart := false, narrowed := true }
def FnPairsUptoSaid : Prop := fnPairsUptoRow.holds Try.pinned (OpenSpec.upto fnPairsSpec)

/-- 'laws.FnAssociative', WHERE WHAT IT READS IS OF BULK AT MOST 1048576: true; the input reads as it did. -/
def fnAssociativeUptoRow : OpenClaim := { program := "ytgabcdploeledaa", sum := "aa7b67dba8ff028d9cfc8ecc94bac689ba5906a910585ce7abceb91058a4da62", func := "loop.example/g03211/laws.FnAssociative", spec := "fnAssociative", unfollowed := true, recurses := true, apart := false, narrowed := true }
def FnAssociativeUptoSaid : Prop := fnAssociativeUptoRow.holds Try.pinned (OpenSpec.upto fnAssociativeSpec)

/-- 'laws.FnImages', WHERE WHAT IT READS IS OF BULK AT MOST 1048576: true; the input reads as it did. -/
def fnImagesUptoRow : OpenClaim := { program := "ytgabcdploeledaa", sum := "aa7b67dba8ff028d9cfc8ecc94bac689ba5906a910585ce7abceb91058a4da62", func := "loop.example/g03211/laws.FnImages", spec := "fnImages", unfollowed := true, recurses := true, apart := false, narrowed := true }
def FnImagesUptoSaid : Prop := fnImagesUptoRow.holds Try.pinned (OpenSpec.upto fnImagesSpec)

/-- 'laws.FnExactPermuteTensor', WHERE WHAT IT READS IS OF BULK AT MOST 1048576: true; the input reads as it did. -/
def fnExactPermuteTensorUptoRow : OpenClaim := { program := "ytgabcdploeledaa", sum := "aa7b67dba8ff028d9cfc8ecc94bac689ba5906a910585ce7abceb91058a4da62", func := "loop.example/g03211/laws.FnExactPermuteTensor", spec := "fnExactPermuteTensor", unfollowed := true, recurses := true, apart := false, narrowed := true }
def FnExactPermuteTensorUptoSaid : Prop := fnExactPermuteTensorUptoRow.holds Try.pinned (OpenSpec.upto fnExactPermuteTensorSpec)

/-- 'laws.FnExactSortTensor', WHERE WHAT IT READS IS OF BULK AT MOST 1048576: true; the input reads as it did. -/
def fnExactSortTensorUptoRow : OpenClaim := { program := "ytgabcdploeledaa", sum := "aa7b67dba8ff028d9cfc8ecc94bac689ba5906a910585ce7abceb91058a4da62", func := "loop.example/g03211/laws.FnExactSortTensor", spec := "fnExactSortTensor", unfollowed := true, recurses := true, apart := false, narrowed := true }
def FnExactSortTensorUptoSaid : Prop := fnExactSortTensorUptoRow.holds Try.pinned (OpenSpec.upto fnExactSortTensorSpec)

/-- 'laws.FnExactSameTensor', WHERE WHAT IT READS IS OF BULK AT MOST 1048576: true; the input reads as it did. -/
def fnExactSameTensorUptoRow : OpenClaim := { program := "ytgabcdploeledaa", sum := "aa7b67dba8ff028d9cfc8ecc94bac689ba5906a910585ce7abceb91058a4da62", func := "loop.example/g03211/laws.FnExactSameTensor", spec := "fnExactSameTensor", unfollowed := true, recurses := true, apart := false, narrowed := true }
def FnExactSameTensorUptoSaid : Prop := fnExactSameTensorUptoRow.holds Try.pinned (OpenSpec.upto fnExactSameTensorSpec)

/-- 'laws.FnPermuted', WHERE WHAT IT READS IS OF BULK AT MOST 1048576: true; the input reads as it did. -/
def fnPermutedUptoRow : OpenClaim := { program := "ytgabcdploeledaa", sum := "aa7b67dba8ff028d9cfc8ecc94bac689ba5906a910585ce7abceb91058a4da62", func := "loop.example/g03211/laws.FnPermuted", spec := "fnPermuted", unfollowed := true, recurses := true, apart := false, narrowed := true }
def FnPermutedUptoSaid : Prop := fnPermutedUptoRow.holds Try.pinned (OpenSpec.upto fnPermutedSpec)

/-- 'laws.FnExactAddTensors', WHERE WHAT IT READS IS OF BULK AT MOST 1048576: true; the input reads as it did. -/
def fnExactAddTensorsUptoRow : OpenClaim := { program := "ytgabcdploeledaa", sum := "aa7b67dba8ff028d9cfc8ecc94bac689ba5906a910585ce7abceb91058a4da62", func := "loop.example/g03211/laws.FnExactAddTensors", spec := "fnExactAddTensors", unfollowed := true, recurses := true, apart := false, narrowed := true }
def FnExactAddTensorsUptoSaid : Prop := fnExactAddTensorsUptoRow.holds Try.pinned (OpenSpec.upto fnExactAddTensorsSpec)

/-- 'laws.FnExactMultiplyTensors', WHERE WHAT IT READS IS OF BULK AT MOST 1048576: true; the input reads as it did. -/
def fnExactMultiplyTensorsUptoRow : OpenClaim := { program := "ytgabcdploeledaa", sum := "aa7b67dba8ff028d9cfc8ecc94bac689ba5906a910585ce7abceb91058a4da62", func := "loop.example/g03211/laws.FnExactMultiplyTensors", spec := "fnExactMultiplyTensors", unfollowed := true, recurses := true, apart := false, narrowed := true }
def FnExactMultiplyTensorsUptoSaid : Prop := fnExactMultiplyTensorsUptoRow.holds Try.pinned (OpenSpec.upto fnExactMultiplyTensorsSpec)

end Rows
end Go.Proofs.Ytgabcdploeledaa
