/-
  No cell of these rows narrows 'for every input' (looked for: loops, veiled, ifaces, maps, wideKeys, modest, calm, conditions, laid).
  DERIVED. THE GIVEN ROWS OF THIS SEAT. 14 by the template 'for every input the law returns true; each argument reads behind the call as it read before'; 0 by the template 'total and deterministic' (their statements: YtfdjlahaiogababTotals.lean).
  GIVEN WITH THE SEED: the statements are not yours to turn. If you find one false, say at which input.
  Laid BY PROGRAM, IN A SANDBOX (cutbox-rows.mjs): the forced cells as the released guide's own fill.sh prints them over the translation 8ca938a69bcad0e4… (all of the seat's roots in one cut). By AI agents, Wed Nov 11 2026. No macro, syntax, notation, axiom, sorry.
-/
import Derived.Test.YtfdjlahaiogababChecked
import GoSem.Claim
import GoSem.ClaimJoined
import GoSem.ClaimMapViews
import Derived.JoinedTies
import Derived.KernelRfl
namespace Go.Proofs.Ytfdjlahaiogabab
/- THE CELL 'sum', in the pinned program and in every row, IS THE sha256 OF THE DUMP (.gsa) THAT YtfdjlahaiogababProg.lean LOADS. Nothing in Lean hashes anything: it is a label: what it is worth is what the hold of that sum in a sandbox is worth. -/
noncomputable def Try.pinned : Pinned := { name := "ytfdjlahaiogabab", sum := "8ca938a69bcad0e4b9047e7984fbeb27ac7f85bc1041b08b00ce922b029c4e21", checked := Try.checked }
namespace Rows
def none {H : Type} : Left H := { results := [], args := [] }

/-- 'laws.FnExactMultiplyTensors': WHATEVER THE INPUT: true; the input reads as it did. -/
def fnExactMultiplyTensorsSpec : ChangeSpec := { name := "fnExactMultiplyTensors", fn := fun _ => fun
  | [d1, d2, d3] => { results := [.lit (.bool true)], args := [d1, d2, d3] }
  | _ => none }
def fnExactMultiplyTensorsRow : OpenClaim := { program := "ytfdjlahaiogabab", sum := "8ca938a69bcad0e4b9047e7984fbeb27ac7f85bc1041b08b00ce922b029c4e21", func := "loop.example/g03211/laws.FnExactMultiplyTensors", spec := "fnExactMultiplyTensors", unfollowed := true, recurses := true, apart := false }
def FnExactMultiplyTensorsSaid : Prop := fnExactMultiplyTensorsRow.holds Try.pinned (OpenSpec.ofChange fnExactMultiplyTensorsSpec)

/-- ITS FALSE NEIGHBOUR: 'it returns false'. Refute it at one input. -/
def fnExactMultiplyTensorsWrong : ChangeSpec := { name := "fnExactMultiplyTensors", fn := fun _ => fun
  | [d1, d2, d3] => { results := [.lit (.bool false)], args := [d1, d2, d3] }
  | _ => none }
def FnExactMultiplyTensorsWrongFalsely : Prop := fnExactMultiplyTensorsRow.holds Try.pinned (OpenSpec.ofChange fnExactMultiplyTensorsWrong)

/-- 'laws.FnExactScaleTensor': WHATEVER THE INPUT: true; the input reads as it did. -/
def fnExactScaleTensorSpec : ChangeSpec := { name := "fnExactScaleTensor", fn := fun _ => fun
  | [d1, d2, d3] => { results := [.lit (.bool true)], args := [d1, d2, d3] }
  | _ => none }
def fnExactScaleTensorRow : OpenClaim := { program := "ytfdjlahaiogabab", sum := "8ca938a69bcad0e4b9047e7984fbeb27ac7f85bc1041b08b00ce922b029c4e21", func := "loop.example/g03211/laws.FnExactScaleTensor", spec := "fnExactScaleTensor", unfollowed := true, recurses := true, apart := false }
def FnExactScaleTensorSaid : Prop := fnExactScaleTensorRow.holds Try.pinned (OpenSpec.ofChange fnExactScaleTensorSpec)

/-- ITS FALSE NEIGHBOUR: 'it returns false'. Refute it at one input. -/
def fnExactScaleTensorWrong : ChangeSpec := { name := "fnExactScaleTensor", fn := fun _ => fun
  | [d1, d2, d3] => { results := [.lit (.bool false)], args := [d1, d2, d3] }
  | _ => none }
def FnExactScaleTensorWrongFalsely : Prop := fnExactScaleTensorRow.holds Try.pinned (OpenSpec.ofChange fnExactScaleTensorWrong)

/-- 'laws.FnExactMapTensor': WHATEVER THE INPUT: true; the input reads as it did. -/
def fnExactMapTensorSpec : ChangeSpec := { name := "fnExactMapTensor", fn := fun _ => fun
  | [d1, d2, d3, d4] => { results := [.lit (.bool true)], args := [d1, d2, d3, d4] }
  | _ => none }
def fnExactMapTensorRow : OpenClaim := { program := "ytfdjlahaiogabab", sum := "8ca938a69bcad0e4b9047e7984fbeb27ac7f85bc1041b08b00ce922b029c4e21", func := "loop.example/g03211/laws.FnExactMapTensor", spec := "fnExactMapTensor", unfollowed := true, recurses := true, apart := false }
def FnExactMapTensorSaid : Prop := fnExactMapTensorRow.holds Try.pinned (OpenSpec.ofChange fnExactMapTensorSpec)

/-- ITS FALSE NEIGHBOUR: 'it returns false'. Refute it at one input. -/
def fnExactMapTensorWrong : ChangeSpec := { name := "fnExactMapTensor", fn := fun _ => fun
  | [d1, d2, d3, d4] => { results := [.lit (.bool false)], args := [d1, d2, d3, d4] }
  | _ => none }
def FnExactMapTensorWrongFalsely : Prop := fnExactMapTensorRow.holds Try.pinned (OpenSpec.ofChange fnExactMapTensorWrong)

/-- 'laws.FnExactJoinSize': WHATEVER THE INPUT: true; the input reads as it did. -/
def fnExactJoinSizeSpec : ChangeSpec := { name := "fnExactJoinSize", fn := fun _ => fun
  | [d1, d2] => { results := [.lit (.bool true)], args := [d1, d2] }
  | _ => none }
def fnExactJoinSizeRow : OpenClaim := { program := "ytfdjlahaiogabab", sum := "8ca938a69bcad0e4b9047e7984fbeb27ac7f85bc1041b08b00ce922b029c4e21", func := "loop.example/g03211/laws.FnExactJoinSize", spec := "fnExactJoinSize", unfollowed := true, recurses := true, apart := false }
def FnExactJoinSizeSaid : Prop := fnExactJoinSizeRow.holds Try.pinned (OpenSpec.ofChange fnExactJoinSizeSpec)

/-- ITS FALSE NEIGHBOUR: 'it returns false'. Refute it at one input. -/
def fnExactJoinSizeWrong : ChangeSpec := { name := "fnExactJoinSize", fn := fun _ => fun
  | [d1, d2] => { results := [.lit (.bool false)], args := [d1, d2] }
  | _ => none }
def FnExactJoinSizeWrongFalsely : Prop := fnExactJoinSizeRow.holds Try.pinned (OpenSpec.ofChange fnExactJoinSizeWrong)

/-- 'laws.FnPairs': WHATEVER THE INPUT: true; the input reads as it did. -/
def fnPairsSpec : ChangeSpec := { name := "fnPairs", fn := fun _ => fun
  | [d] => { results := [.lit (.bool true)], args := [d] }
  | _ => none }
def fnPairsRow : OpenClaim := { program := "ytfdjlahaiogabab", sum := "8ca938a69bcad0e4b9047e7984fbeb27ac7f85bc1041b08b00ce922b029c4e21", func := "loop.example/g03211/laws.FnPairs", spec := "fnPairs", unfollowed := true, recurses := true, apart := false }
def FnPairsSaid : Prop := fnPairsRow.holds Try.pinned (OpenSpec.ofChange fnPairsSpec)

/-- ITS FALSE NEIGHBOUR: 'it returns false'. Refute it at one input. -/
def fnPairsWrong : ChangeSpec := { name := "fnPairs", fn := fun _ => fun
  | [d] => { results := [.lit (.bool false)], args := [d] }
  | _ => none }
def FnPairsWrongFalsely : Prop := fnPairsRow.holds Try.pinned (OpenSpec.ofChange fnPairsWrong)

/-- 'laws.FnAssociative': WHATEVER THE INPUT: true; the input reads as it did. -/
def fnAssociativeSpec : ChangeSpec := { name := "fnAssociative", fn := fun _ => fun
  | [d] => { results := [.lit (.bool true)], args := [d] }
  | _ => none }
def fnAssociativeRow : OpenClaim := { program := "ytfdjlahaiogabab", sum := "8ca938a69bcad0e4b9047e7984fbeb27ac7f85bc1041b08b00ce922b029c4e21", func := "loop.example/g03211/laws.FnAssociative", spec := "fnAssociative", unfollowed := true, recurses := true, apart := false }
def FnAssociativeSaid : Prop := fnAssociativeRow.holds Try.pinned (OpenSpec.ofChange fnAssociativeSpec)

/-- ITS FALSE NEIGHBOUR: 'it returns false'. Refute it at one input. -/
def fnAssociativeWrong : ChangeSpec := { name := "fnAssociative", fn := fun _ => fun
  | [d] => { results := [.lit (.bool false)], args := [d] }
  | _ => none }
def FnAssociativeWrongFalsely : Prop := fnAssociativeRow.holds Try.pinned (OpenSpec.ofChange fnAssociativeWrong)

/-- 'laws.FnImages': WHATEVER THE INPUT: true; the input reads as it did. -/
def fnImagesSpec : ChangeSpec := { name := "fnImages", fn := fun _ => fun
  | [d] => { results := [.lit (.bool true)], args := [d] }
  | _ => none }
def fnImagesRow : OpenClaim := { program := "ytfdjlahaiogabab", sum := "8ca938a69bcad0e4b9047e7984fbeb27ac7f85bc1041b08b00ce922b029c4e21", func := "loop.example/g03211/laws.FnImages", spec := "fnImages", unfollowed := true, recurses := true, apart := false }
def FnImagesSaid : Prop := fnImagesRow.holds Try.pinned (OpenSpec.ofChange fnImagesSpec)

/-- ITS FALSE NEIGHBOUR: 'it returns false'. Refute it at one input. -/
def fnImagesWrong : ChangeSpec := { name := "fnImages", fn := fun _ => fun
  | [d] => { results := [.lit (.bool false)], args := [d] }
  | _ => none }
def FnImagesWrongFalsely : Prop := fnImagesRow.holds Try.pinned (OpenSpec.ofChange fnImagesWrong)

/-- 'laws.FnIndices': WHATEVER THE INPUT: true; the input reads as it did. -/
def fnIndicesSpec : ChangeSpec := { name := "fnIndices", fn := fun _ => fun
  | [d] => { results := [.lit (.bool true)], args := [d] }
  | _ => none }
def fnIndicesRow : OpenClaim := { program := "ytfdjlahaiogabab", sum := "8ca938a69bcad0e4b9047e7984fbeb27ac7f85bc1041b08b00ce922b029c4e21", func := "loop.example/g03211/laws.FnIndices", spec := "fnIndices", unfollowed := true, recurses := true, apart := false }
def FnIndicesSaid : Prop := fnIndicesRow.holds Try.pinned (OpenSpec.ofChange fnIndicesSpec)

/-- ITS FALSE NEIGHBOUR: 'it returns false'. Refute it at one input. -/
def fnIndicesWrong : ChangeSpec := { name := "fnIndices", fn := fun _ => fun
  | [d] => { results := [.lit (.bool false)], args := [d] }
  | _ => none }
def FnIndicesWrongFalsely : Prop := fnIndicesRow.holds Try.pinned (OpenSpec.ofChange fnIndicesWrong)

/-- 'laws.FnExactAddElem': WHATEVER THE INPUT: true; the input reads as it did. -/
def fnExactAddElemSpec : ChangeSpec := { name := "fnExactAddElem", fn := fun _ => fun
  | [d1, d2, d3] => { results := [.lit (.bool true)], args := [d1, d2, d3] }
  | _ => none }
def fnExactAddElemRow : OpenClaim := { program := "ytfdjlahaiogabab", sum := "8ca938a69bcad0e4b9047e7984fbeb27ac7f85bc1041b08b00ce922b029c4e21", func := "loop.example/g03211/laws.FnExactAddElem", spec := "fnExactAddElem", unfollowed := true, recurses := true, apart := false }
def FnExactAddElemSaid : Prop := fnExactAddElemRow.holds Try.pinned (OpenSpec.ofChange fnExactAddElemSpec)

/-- ITS FALSE NEIGHBOUR: 'it returns false'. Refute it at one input. -/
def fnExactAddElemWrong : ChangeSpec := { name := "fnExactAddElem", fn := fun _ => fun
  | [d1, d2, d3] => { results := [.lit (.bool false)], args := [d1, d2, d3] }
  | _ => none }
def FnExactAddElemWrongFalsely : Prop := fnExactAddElemRow.holds Try.pinned (OpenSpec.ofChange fnExactAddElemWrong)

/-- 'laws.FnExactSumElems': WHATEVER THE INPUT: true; the input reads as it did. -/
def fnExactSumElemsSpec : ChangeSpec := { name := "fnExactSumElems", fn := fun _ => fun
  | [d1, d2] => { results := [.lit (.bool true)], args := [d1, d2] }
  | _ => none }
def fnExactSumElemsRow : OpenClaim := { program := "ytfdjlahaiogabab", sum := "8ca938a69bcad0e4b9047e7984fbeb27ac7f85bc1041b08b00ce922b029c4e21", func := "loop.example/g03211/laws.FnExactSumElems", spec := "fnExactSumElems", unfollowed := true, recurses := true, apart := false }
def FnExactSumElemsSaid : Prop := fnExactSumElemsRow.holds Try.pinned (OpenSpec.ofChange fnExactSumElemsSpec)

/-- ITS FALSE NEIGHBOUR: 'it returns false'. Refute it at one input. -/
def fnExactSumElemsWrong : ChangeSpec := { name := "fnExactSumElems", fn := fun _ => fun
  | [d1, d2] => { results := [.lit (.bool false)], args := [d1, d2] }
  | _ => none }
def FnExactSumElemsWrongFalsely : Prop := fnExactSumElemsRow.holds Try.pinned (OpenSpec.ofChange fnExactSumElemsWrong)

/-- 'laws.FnExactCountElem': WHATEVER THE INPUT: true; the input reads as it did. -/
def fnExactCountElemSpec : ChangeSpec := { name := "fnExactCountElem", fn := fun _ => fun
  | [d1, d2] => { results := [.lit (.bool true)], args := [d1, d2] }
  | _ => none }
def fnExactCountElemRow : OpenClaim := { program := "ytfdjlahaiogabab", sum := "8ca938a69bcad0e4b9047e7984fbeb27ac7f85bc1041b08b00ce922b029c4e21", func := "loop.example/g03211/laws.FnExactCountElem", spec := "fnExactCountElem", unfollowed := true, recurses := true, apart := false }
def FnExactCountElemSaid : Prop := fnExactCountElemRow.holds Try.pinned (OpenSpec.ofChange fnExactCountElemSpec)

/-- ITS FALSE NEIGHBOUR: 'it returns false'. Refute it at one input. -/
def fnExactCountElemWrong : ChangeSpec := { name := "fnExactCountElem", fn := fun _ => fun
  | [d1, d2] => { results := [.lit (.bool false)], args := [d1, d2] }
  | _ => none }
def FnExactCountElemWrongFalsely : Prop := fnExactCountElemRow.holds Try.pinned (OpenSpec.ofChange fnExactCountElemWrong)

/-- 'laws.FnRings': WHATEVER THE INPUT: true; the input reads as it did. -/
def fnRingsSpec : ChangeSpec := { name := "fnRings", fn := fun _ => fun
  | [d] => { results := [.lit (.bool true)], args := [d] }
  | _ => none }
def fnRingsRow : OpenClaim := { program := "ytfdjlahaiogabab", sum := "8ca938a69bcad0e4b9047e7984fbeb27ac7f85bc1041b08b00ce922b029c4e21", func := "loop.example/g03211/laws.FnRings", spec := "fnRings", unfollowed := true, recurses := true, apart := false }
def FnRingsSaid : Prop := fnRingsRow.holds Try.pinned (OpenSpec.ofChange fnRingsSpec)

/-- ITS FALSE NEIGHBOUR: 'it returns false'. Refute it at one input. -/
def fnRingsWrong : ChangeSpec := { name := "fnRings", fn := fun _ => fun
  | [d] => { results := [.lit (.bool false)], args := [d] }
  | _ => none }
def FnRingsWrongFalsely : Prop := fnRingsRow.holds Try.pinned (OpenSpec.ofChange fnRingsWrong)

/-- 'laws.FnCounts': WHATEVER THE INPUT: true; the input reads as it did. -/
def fnCountsSpec : ChangeSpec := { name := "fnCounts", fn := fun _ => fun
  | [d] => { results := [.lit (.bool true)], args := [d] }
  | _ => none }
def fnCountsRow : OpenClaim := { program := "ytfdjlahaiogabab", sum := "8ca938a69bcad0e4b9047e7984fbeb27ac7f85bc1041b08b00ce922b029c4e21", func := "loop.example/g03211/laws.FnCounts", spec := "fnCounts", unfollowed := true, recurses := true, apart := false }
def FnCountsSaid : Prop := fnCountsRow.holds Try.pinned (OpenSpec.ofChange fnCountsSpec)

/-- ITS FALSE NEIGHBOUR: 'it returns false'. Refute it at one input. -/
def fnCountsWrong : ChangeSpec := { name := "fnCounts", fn := fun _ => fun
  | [d] => { results := [.lit (.bool false)], args := [d] }
  | _ => none }
def FnCountsWrongFalsely : Prop := fnCountsRow.holds Try.pinned (OpenSpec.ofChange fnCountsWrong)

/-- 'laws.FnHoms': WHATEVER THE INPUT: true; the input reads as it did. -/
def fnHomsSpec : ChangeSpec := { name := "fnHoms", fn := fun _ => fun
  | [d] => { results := [.lit (.bool true)], args := [d] }
  | _ => none }
def fnHomsRow : OpenClaim := { program := "ytfdjlahaiogabab", sum := "8ca938a69bcad0e4b9047e7984fbeb27ac7f85bc1041b08b00ce922b029c4e21", func := "loop.example/g03211/laws.FnHoms", spec := "fnHoms", unfollowed := true, recurses := true, apart := false }
def FnHomsSaid : Prop := fnHomsRow.holds Try.pinned (OpenSpec.ofChange fnHomsSpec)

/-- ITS FALSE NEIGHBOUR: 'it returns false'. Refute it at one input. -/
def fnHomsWrong : ChangeSpec := { name := "fnHoms", fn := fun _ => fun
  | [d] => { results := [.lit (.bool false)], args := [d] }
  | _ => none }
def FnHomsWrongFalsely : Prop := fnHomsRow.holds Try.pinned (OpenSpec.ofChange fnHomsWrong)

/- THE SECOND FORM. 'bulk': how many values and letters a reading holds, each counted each time it is reached (what is shared counts as often as it is met; a slice's spare places count too). A statement '..UptoSaid' is the law's where the arguments, and the package variables that the reading takes, are together of bulk at most 1048576: NARROWER than '..Said'. Prove '..Said' where nothing that the law and all that it calls make is longer than what came in: it says more and counts as full. Else prove '..UptoSaid'. A law counts once. -/
mutual
def uptoBulk {H : Type} : DataW H → Nat
  | .lit (.string bytes) => bytes.length + 1
  | .lit _ => 1
  | .nil => 1
  | .ptr d => uptoBulk d + 1
  | .slice elems spare => uptoBulkAll elems + uptoBulkAll spare + 1
  | .agg parts => uptoBulkAll parts + 1
  | .iface _ d => uptoBulk d + 1
  | .map entries => uptoBulkEntries entries + 1
  | .held _ => 1
def uptoBulkAll {H : Type} : List (DataW H) → Nat
  | [] => 0
  | d :: r => uptoBulk d + uptoBulkAll r
def uptoBulkEntries {H : Type} : List (Lit × DataW H) → Nat
  | [] => 0
  | x :: r => uptoBulkEntry x + uptoBulkEntries r
def uptoBulkEntry {H : Type} : Lit × DataW H → Nat
  | (.string bytes, d) => bytes.length + uptoBulk d + 1
  | (_, d) => uptoBulk d + 1
 end
def uptoSmall : (H : Type) → List (DataW H) → Bool := fun _ ds => decide (uptoBulkAll ds ≤ 1048576)
def OpenSpec.upto (s : _root_.Go.ChangeSpec) : _root_.Go.OpenSpec := { _root_.Go.OpenSpec.ofChange s with cond := some uptoSmall }

/-- 'laws.FnExactMultiplyTensors', WHERE WHAT IT READS IS OF BULK AT MOST 1048576: true; the input reads as it did. -/
def fnExactMultiplyTensorsUptoRow : OpenClaim := { program := "ytfdjlahaiogabab", sum := "8ca938a69bcad0e4b9047e7984fbeb27ac7f85bc1041b08b00ce922b029c4e21", func := "loop.example/g03211/laws.FnExactMultiplyTensors", spec := "fnExactMultiplyTensors", unfollowed := true, recurses := true, apart := false, narrowed := true }
def FnExactMultiplyTensorsUptoSaid : Prop := fnExactMultiplyTensorsUptoRow.holds Try.pinned (OpenSpec.upto fnExactMultiplyTensorsSpec)

/-- 'laws.FnExactScaleTensor', WHERE WHAT IT READS IS OF BULK AT MOST 1048576: true; the input reads as it did. -/
def fnExactScaleTensorUptoRow : OpenClaim := { program := "ytfdjlahaiogabab", sum := "8ca938a69bcad0e4b9047e7984fbeb27ac7f85bc1041b08b00ce922b029c4e21", func := "loop.example/g03211/laws.FnExactScaleTensor", spec := "fnExactScaleTensor", unfollowed := true, recurses := true, apart := false, narrowed := true }
def FnExactScaleTensorUptoSaid : Prop := fnExactScaleTensorUptoRow.holds Try.pinned (OpenSpec.upto fnExactScaleTensorSpec)

/-- 'laws.FnExactMapTensor', WHERE WHAT IT READS IS OF BULK AT MOST 1048576: true; the input reads as it did. -/
def fnExactMapTensorUptoRow : OpenClaim := { program := "ytfdjlahaiogabab", sum := "8ca938a69bcad0e4b9047e7984fbeb27ac7f85bc1041b08b00ce922b029c4e21", func := "loop.example/g03211/laws.FnExactMapTensor", spec := "fnExactMapTensor", unfollowed := true, recurses := true, apart := false, narrowed := true }
def FnExactMapTensorUptoSaid : Prop := fnExactMapTensorUptoRow.holds Try.pinned (OpenSpec.upto fnExactMapTensorSpec)

/-- 'laws.FnExactJoinSize', WHERE WHAT IT READS IS OF BULK AT MOST 1048576: true; the input reads as it did. -/
def fnExactJoinSizeUptoRow : OpenClaim := { program := "ytfdjlahaiogabab", sum := "8ca938a69bcad0e4b9047e7984fbeb27ac7f85bc1041b08b00ce922b029c4e21", func := "loop.example/g03211/laws.FnExactJoinSize", spec := "fnExactJoinSize", unfollowed := true, recurses := true, apart := false, narrowed := true }
def FnExactJoinSizeUptoSaid : Prop := fnExactJoinSizeUptoRow.holds Try.pinned (OpenSpec.upto fnExactJoinSizeSpec)

/-- 'laws.FnPairs', WHERE WHAT IT READS IS OF BULK AT MOST 1048576: true; the input reads as it did. -/
def fnPairsUptoRow : OpenClaim := { program := "ytfdjlahaiogabab", sum := "8ca938a69bcad0e4b9047e7984fbeb27ac7f85bc1041b08b00ce922b029c4e21", func := "loop.example/g03211/laws.FnPairs", spec := "fnPairs", unfollowed := true, recurses := true, apart := false, narrowed := true }
def FnPairsUptoSaid : Prop := fnPairsUptoRow.holds Try.pinned (OpenSpec.upto fnPairsSpec)

/-- 'laws.FnAssociative', WHERE WHAT IT READS IS OF BULK AT MOST 1048576: true; the input reads as it did. -/
def fnAssociativeUptoRow : OpenClaim := { program := "ytfdjlahaiogabab", sum := "8ca938a69bcad0e4b9047e7984fbeb27ac7f85bc1041b08b00ce922b029c4e21", func := "loop.example/g03211/laws.FnAssociative", spec := "fnAssociative", unfollowed := true, recurses := true, apart := false, narrowed := true }
def FnAssociativeUptoSaid : Prop := fnAssociativeUptoRow.holds Try.pinned (OpenSpec.upto fnAssociativeSpec)

/-- 'laws.FnImages', WHERE WHAT IT READS IS OF BULK AT MOST 1048576: true; the input reads as it did. -/
def fnImagesUptoRow : OpenClaim := { program := "ytfdjlahaiogabab", sum := "8ca938a69bcad0e4b9047e7984fbeb27ac7f85bc1041b08b00ce922b029c4e21", func := "loop.example/g03211/laws.FnImages", spec := "fnImages", unfollowed := true, recurses := true, apart := false, narrowed := true }
def FnImagesUptoSaid : Prop := fnImagesUptoRow.holds Try.pinned (OpenSpec.upto fnImagesSpec)

/-- 'laws.FnIndices', WHERE WHAT IT READS IS OF BULK AT MOST 1048576: true; the input reads as it did. -/
def fnIndicesUptoRow : OpenClaim := { program := "ytfdjlahaiogabab", sum := "8ca938a69bcad0e4b9047e7984fbeb27ac7f85bc1041b08b00ce922b029c4e21", func := "loop.example/g03211/laws.FnIndices", spec := "fnIndices", unfollowed := true, recurses := true, apart := false, narrowed := true }
def FnIndicesUptoSaid : Prop := fnIndicesUptoRow.holds Try.pinned (OpenSpec.upto fnIndicesSpec)

/-- 'laws.FnExactAddElem', WHERE WHAT IT READS IS OF BULK AT MOST 1048576: true; the input reads as it did. -/
def fnExactAddElemUptoRow : OpenClaim := { program := "ytfdjlahaiogabab", sum := "8ca938a69bcad0e4b9047e7984fbeb27ac7f85bc1041b08b00ce922b029c4e21", func := "loop.example/g03211/laws.FnExactAddElem", spec := "fnExactAddElem", unfollowed := true, recurses := true, apart := false, narrowed := true }
def FnExactAddElemUptoSaid : Prop := fnExactAddElemUptoRow.holds Try.pinned (OpenSpec.upto fnExactAddElemSpec)

/-- 'laws.FnExactSumElems', WHERE WHAT IT READS IS OF BULK AT MOST 1048576: true; the input reads as it did. -/
def fnExactSumElemsUptoRow : OpenClaim := { program := "ytfdjlahaiogabab", sum := "8ca938a69bcad0e4b9047e7984fbeb27ac7f85bc1041b08b00ce922b029c4e21", func := "loop.example/g03211/laws.FnExactSumElems", spec := "fnExactSumElems", unfollowed := true, recurses := true, apart := false, narrowed := true }
def FnExactSumElemsUptoSaid : Prop := fnExactSumElemsUptoRow.holds Try.pinned (OpenSpec.upto fnExactSumElemsSpec)

/-- 'laws.FnExactCountElem', WHERE WHAT IT READS IS OF BULK AT MOST 1048576: true; the input reads as it did. -/
def fnExactCountElemUptoRow : OpenClaim := { program := "ytfdjlahaiogabab", sum := "8ca938a69bcad0e4b9047e7984fbeb27ac7f85bc1041b08b00ce922b029c4e21", func := "loop.example/g03211/laws.FnExactCountElem", spec := "fnExactCountElem", unfollowed := true, recurses := true, apart := false, narrowed := true }
def FnExactCountElemUptoSaid : Prop := fnExactCountElemUptoRow.holds Try.pinned (OpenSpec.upto fnExactCountElemSpec)

/-- 'laws.FnRings', WHERE WHAT IT READS IS OF BULK AT MOST 1048576: true; the input reads as it did. -/
def fnRingsUptoRow : OpenClaim := { program := "ytfdjlahaiogabab", sum := "8ca938a69bcad0e4b9047e7984fbeb27ac7f85bc1041b08b00ce922b029c4e21", func := "loop.example/g03211/laws.FnRings", spec := "fnRings", unfollowed := true, recurses := true, apart := false, narrowed := true }
def FnRingsUptoSaid : Prop := fnRingsUptoRow.holds Try.pinned (OpenSpec.upto fnRingsSpec)

/-- 'laws.FnCounts', WHERE WHAT IT READS IS OF BULK AT MOST 1048576: true; the input reads as it did. -/
def fnCountsUptoRow : OpenClaim := { program := "ytfdjlahaiogabab", sum := "8ca938a69bcad0e4b9047e7984fbeb27ac7f85bc1041b08b00ce922b029c4e21", func := "loop.example/g03211/laws.FnCounts", spec := "fnCounts", unfollowed := true, recurses := true, apart := false, narrowed := true }
def FnCountsUptoSaid : Prop := fnCountsUptoRow.holds Try.pinned (OpenSpec.upto fnCountsSpec)

/-- 'laws.FnHoms', WHERE WHAT IT READS IS OF BULK AT MOST 1048576: true; the input reads as it did. -/
def fnHomsUptoRow : OpenClaim := { program := "ytfdjlahaiogabab", sum := "8ca938a69bcad0e4b9047e7984fbeb27ac7f85bc1041b08b00ce922b029c4e21", func := "loop.example/g03211/laws.FnHoms", spec := "fnHoms", unfollowed := true, recurses := true, apart := false, narrowed := true }
def FnHomsUptoSaid : Prop := fnHomsUptoRow.holds Try.pinned (OpenSpec.upto fnHomsSpec)

end Rows
end Go.Proofs.Ytfdjlahaiogabab
