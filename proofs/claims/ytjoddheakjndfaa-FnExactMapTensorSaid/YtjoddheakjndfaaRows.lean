/-
  No cell of these rows narrows 'for every input' (looked for: loops, veiled, ifaces, maps, wideKeys, modest, calm, conditions, laid).
  DERIVED. THE GIVEN ROWS OF THIS SEAT. 4 by the template 'for every input the law returns true; each argument reads behind the call as it read before'; 0 by the template 'total and deterministic' (their statements: YtjoddheakjndfaaTotals.lean).
  GIVEN WITH THE SEED: the statements are not yours to turn. If you find one false, say at which input.
  Laid BY PROGRAM, IN A SANDBOX (cutbox-rows.mjs): the forced cells as the released guide's own fill.sh prints them over the translation c5bf86cf7ebb26ff… (all of the seat's roots in one cut). By AI agents, Wed Nov 11 2026. No macro, syntax, notation, axiom, sorry.
-/
import Derived.Test.YtjoddheakjndfaaChecked
import GoSem.Claim
import GoSem.ClaimJoined
import GoSem.ClaimMapViews
import Derived.JoinedTies
import Derived.KernelRfl
namespace Go.Proofs.Ytjoddheakjndfaa
/- THE CELL 'sum', in the pinned program and in every row, IS THE sha256 OF THE DUMP (.gsa) THAT YtjoddheakjndfaaProg.lean LOADS. Nothing in Lean hashes anything: it is a label: what it is worth is what the hold of that sum in a sandbox is worth. -/
noncomputable def Try.pinned : Pinned := { name := "ytjoddheakjndfaa", sum := "c5bf86cf7ebb26ffeb55e923edd0054e8601c5e898a11cbb5fea9004d6a3c3c1", checked := Try.checked }
namespace Rows
def none {H : Type} : Left H := { results := [], args := [] }

/-- 'laws.FnExactAddTensors': WHATEVER THE INPUT: true; the input reads as it did. -/
def fnExactAddTensorsSpec : ChangeSpec := { name := "fnExactAddTensors", fn := fun _ => fun
  | [d1, d2, d3] => { results := [.lit (.bool true)], args := [d1, d2, d3] }
  | _ => none }
def fnExactAddTensorsRow : OpenClaim := { program := "ytjoddheakjndfaa", sum := "c5bf86cf7ebb26ffeb55e923edd0054e8601c5e898a11cbb5fea9004d6a3c3c1", func := "loop.example/g03211/laws.FnExactAddTensors", spec := "fnExactAddTensors", unfollowed := true, recurses := true, apart := false }
def FnExactAddTensorsSaid : Prop := fnExactAddTensorsRow.holds Try.pinned (OpenSpec.ofChange fnExactAddTensorsSpec)

/-- ITS FALSE NEIGHBOUR: 'it returns false'. Refute it at one input. -/
def fnExactAddTensorsWrong : ChangeSpec := { name := "fnExactAddTensors", fn := fun _ => fun
  | [d1, d2, d3] => { results := [.lit (.bool false)], args := [d1, d2, d3] }
  | _ => none }
def FnExactAddTensorsWrongFalsely : Prop := fnExactAddTensorsRow.holds Try.pinned (OpenSpec.ofChange fnExactAddTensorsWrong)

/-- 'laws.FnExactScaleTensor': WHATEVER THE INPUT: true; the input reads as it did. -/
def fnExactScaleTensorSpec : ChangeSpec := { name := "fnExactScaleTensor", fn := fun _ => fun
  | [d1, d2, d3] => { results := [.lit (.bool true)], args := [d1, d2, d3] }
  | _ => none }
def fnExactScaleTensorRow : OpenClaim := { program := "ytjoddheakjndfaa", sum := "c5bf86cf7ebb26ffeb55e923edd0054e8601c5e898a11cbb5fea9004d6a3c3c1", func := "loop.example/g03211/laws.FnExactScaleTensor", spec := "fnExactScaleTensor", unfollowed := true, recurses := true, apart := false }
def FnExactScaleTensorSaid : Prop := fnExactScaleTensorRow.holds Try.pinned (OpenSpec.ofChange fnExactScaleTensorSpec)

/-- ITS FALSE NEIGHBOUR: 'it returns false'. Refute it at one input. -/
def fnExactScaleTensorWrong : ChangeSpec := { name := "fnExactScaleTensor", fn := fun _ => fun
  | [d1, d2, d3] => { results := [.lit (.bool false)], args := [d1, d2, d3] }
  | _ => none }
def FnExactScaleTensorWrongFalsely : Prop := fnExactScaleTensorRow.holds Try.pinned (OpenSpec.ofChange fnExactScaleTensorWrong)

/-- 'laws.FnExactMapTensor': WHATEVER THE INPUT: true; the input reads as it did. -/
def fnExactMapTensorSpec : ChangeSpec := { name := "fnExactMapTensor", fn := fun _ => fun
  | [d1, d2, d3, d4] => { results := [.lit (.bool true)], args := [d1, d2, d3, d4] }
  | _ => none }
def fnExactMapTensorRow : OpenClaim := { program := "ytjoddheakjndfaa", sum := "c5bf86cf7ebb26ffeb55e923edd0054e8601c5e898a11cbb5fea9004d6a3c3c1", func := "loop.example/g03211/laws.FnExactMapTensor", spec := "fnExactMapTensor", unfollowed := true, recurses := true, apart := false }
def FnExactMapTensorSaid : Prop := fnExactMapTensorRow.holds Try.pinned (OpenSpec.ofChange fnExactMapTensorSpec)

/-- ITS FALSE NEIGHBOUR: 'it returns false'. Refute it at one input. -/
def fnExactMapTensorWrong : ChangeSpec := { name := "fnExactMapTensor", fn := fun _ => fun
  | [d1, d2, d3, d4] => { results := [.lit (.bool false)], args := [d1, d2, d3, d4] }
  | _ => none }
def FnExactMapTensorWrongFalsely : Prop := fnExactMapTensorRow.holds Try.pinned (OpenSpec.ofChange fnExactMapTensorWrong)

/-- 'laws.FnExactMultiplyTensors': WHATEVER THE INPUT: true; the input reads as it did. -/
def fnExactMultiplyTensorsSpec : ChangeSpec := { name := "fnExactMultiplyTensors", fn := fun _ => fun
  | [d1, d2, d3] => { results := [.lit (.bool true)], args := [d1, d2, d3] }
  | _ => none }
def fnExactMultiplyTensorsRow : OpenClaim := { program := "ytjoddheakjndfaa", sum := "c5bf86cf7ebb26ffeb55e923edd0054e8601c5e898a11cbb5fea9004d6a3c3c1", func := "loop.example/g03211/laws.FnExactMultiplyTensors", spec := "fnExactMultiplyTensors", unfollowed := true, recurses := true, apart := false }
def FnExactMultiplyTensorsSaid : Prop := fnExactMultiplyTensorsRow.holds Try.pinned (OpenSpec.ofChange fnExactMultiplyTensorsSpec)

/-- ITS FALSE NEIGHBOUR: 'it returns false'. Refute it at one input. -/
def fnExactMultiplyTensorsWrong : ChangeSpec := { name := "fnExactMultiplyTensors", fn := fun _ => fun
  | [d1, d2, d3] => { results := [.lit (.bool false)], args := [d1, d2, d3] }
  | _ => none }
def FnExactMultiplyTensorsWrongFalsely : Prop := fnExactMultiplyTensorsRow.holds Try.pinned (OpenSpec.ofChange fnExactMultiplyTensorsWrong)

/- THE SECOND FORM. 'bulk': how many values and letters a reading holds, each counted each time it is reached (what is shared counts as often as it is met; a slice's spare places count too). A statement '..UptoSaid' is the law's where the arguments, and the package variables that the reading takes, are together of bulk at most 1048576: NARROWER than '..Said'. Prove '..Said' where nothing that the law and all that it calls make is longer than what came in: it says more and counts as full. Else prove '..UptoSaid'. A law counts once. -/
mutual
def uptoBulk {H : Type} : DataW H → Nat
  | .lit (.string bytes) => bytes.length + 1
  | .lit _ => 1
  | .nil => 1
  | .ptr d => uptoBulk d + 1
  | .slice elems spare => uptoBulkAll elems + uptoBulkAll spare + 1
  | .agg parts => uptoBulkAll parts + 1
  | .iface _ d => uptoBulk d + 1
  | .map entries => uptoBulkEntries entries + 1
  | .held _ => 1
def uptoBulkAll {H : Type} : List (DataW H) → Nat
  | [] => 0
  | d :: r => uptoBulk d + uptoBulkAll r
def uptoBulkEntries {H : Type} : List (Lit × DataW H) → Nat
  | [] => 0
  | x :: r => uptoBulkEntry x + uptoBulkEntries r
def uptoBulkEntry {H : Type} : Lit × DataW H → Nat
  | (.string bytes, d) => bytes.length + uptoBulk d + 1
  | (_, d) => uptoBulk d + 1
 end
def uptoSmall : (H : Type) → List (DataW H) → Bool := fun _ ds => decide (uptoBulkAll ds ≤ 1048576)
def OpenSpec.upto (s : _root_.Go.ChangeSpec) : _root_.Go.OpenSpec := { _root_.Go.OpenSpec.ofChange s with cond := some uptoSmall }

/-- 'laws.FnExactAddTensors', WHERE WHAT IT READS IS OF BULK AT MOST 1048576: true; the input reads as it did. -/
def fnExactAddTensorsUptoRow : OpenClaim := { program := "ytjoddheakjndfaa", sum := "c5bf86cf7ebb26ffeb55e923edd0054e8601c5e898a11cbb5fea9004d6a3c3c1", func := "loop.example/g03211/laws.FnExactAddTensors", spec := "fnExactAddTensors", unfollowed := true, recurses := true, apart := false, narrowed := true }
def FnExactAddTensorsUptoSaid : Prop := fnExactAddTensorsUptoRow.holds Try.pinned (OpenSpec.upto fnExactAddTensorsSpec)

/-- 'laws.FnExactScaleTensor', WHERE WHAT IT READS IS OF BULK AT MOST 1048576: true; the input reads as it did. -/
def fnExactScaleTensorUptoRow : OpenClaim := { program := "ytjoddheakjndfaa", sum := "c5bf86cf7ebb26ffeb55e923edd0054e8601c5e898a11cbb5fea9004d6a3c3c1", func := "loop.example/g03211/laws.FnExactScaleTensor", spec := "fnExactScaleTensor", unfollowed := true, recurses := true, apart := false, narrowed := true }
def FnExactScaleTensorUptoSaid : Prop := fnExactScaleTensorUptoRow.holds Try.pinned (OpenSpec.upto fnExactScaleTensorSpec)

/-- 'laws.FnExactMapTensor', WHERE WHAT IT READS IS OF BULK AT MOST 1048576: true; the input reads as it did. -/
def fnExactMapTensorUptoRow : OpenClaim := { program := "ytjoddheakjndfaa", sum := "c5bf86cf7ebb26ffeb55e923edd0054e8601c5e898a11cbb5fea9004d6a3c3c1", func := "loop.example/g03211/laws.FnExactMapTensor", spec := "fnExactMapTensor", unfollowed := true, recurses := true, apart := false, narrowed := true }
def FnExactMapTensorUptoSaid : Prop := fnExactMapTensorUptoRow.holds Try.pinned (OpenSpec.upto fnExactMapTensorSpec)

/-- 'laws.FnExactMultiplyTensors', WHERE WHAT IT READS IS OF BULK AT MOST 1048576: true; the input reads as it did. -/
def fnExactMultiplyTensorsUptoRow : OpenClaim := { program := "ytjoddheakjndfaa", sum := "c5bf86cf7ebb26ffeb55e923edd0054e8601c5e898a11cbb5fea9004d6a3c3c1", func := "loop.example/g03211/laws.FnExactMultiplyTensors", spec := "fnExactMultiplyTensors", unfollowed := true, recurses := true, apart := false, narrowed := true }
def FnExactMultiplyTensorsUptoSaid : Prop := fnExactMultiplyTensorsUptoRow.holds Try.pinned (OpenSpec.upto fnExactMultiplyTensorsSpec)

end Rows
end Go.Proofs.Ytjoddheakjndfaa
