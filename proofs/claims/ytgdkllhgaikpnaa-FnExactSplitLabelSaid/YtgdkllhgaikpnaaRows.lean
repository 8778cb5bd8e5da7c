/-
  No cell of these rows narrows 'for every input' (looked for: loops, veiled, ifaces, maps, wideKeys, modest, calm, conditions, laid).
  DERIVED. THE GIVEN ROWS OF THIS SEAT. 4 by the template 'for every input the law returns true; each argument reads behind the call as it read before'; 0 by the template 'total and deterministic' (their statements: YtgdkllhgaikpnaaTotals.lean).
  GIVEN WITH THE SEED: the statements are not yours to turn. If you find one false, say at which input.
  Laid BY PROGRAM, IN A SANDBOX (cutbox-rows.mjs): the forced cells as the released guide's own fill.sh prints them over the translation 06a42a376d8d19e9… (all of the seat's roots in one cut). By AI agents, Wed Nov 11 2026. No macro, syntax, notation, axiom, sorry.
-/
import Derived.Test.YtgdkllhgaikpnaaChecked
import GoSem.Claim
import GoSem.ClaimJoined
import GoSem.ClaimMapViews
import Derived.JoinedTies
import Derived.KernelRfl
namespace Go.Proofs.Ytgdkllhgaikpnaa
/- THE CELL 'sum', in the pinned program and in every row, IS THE sha256 OF THE DUMP (.gsa) THAT YtgdkllhgaikpnaaProg.lean LOADS. Nothing in Lean hashes anything: it is a label: what it is worth is what the hold of that sum in a sandbox is worth. -/
noncomputable def Try.pinned : Pinned := { name := "ytgdkllhgaikpnaa", sum := "06a42a376d8d19e9e158c4bdcbabc27d415bbd9cb022228a7becf3976f3ae377", checked := Try.checked }
namespace Rows
def none {H : Type} : Left H := { results := [], args := [] }

/-- 'laws.FnExactStackTensors': WHATEVER THE INPUT: true; the input reads as it did. -/
def fnExactStackTensorsSpec : ChangeSpec := { name := "fnExactStackTensors", fn := fun _ => fun
  | [d1, d2, d3] => { results := [.lit (.bool true)], args := [d1, d2, d3] }
  | _ => none }
def fnExactStackTensorsRow : OpenClaim := { program := "ytgdkllhgaikpnaa", sum := "06a42a376d8d19e9e158c4bdcbabc27d415bbd9cb022228a7becf3976f3ae377", func := "loop.example/g03211/laws.FnExactStackTensors", spec := "fnExactStackTensors", unfollowed := true, recurses := true, apart := false }
def FnExactStackTensorsSaid : Prop := fnExactStackTensorsRow.holds Try.pinned (OpenSpec.ofChange fnExactStackTensorsSpec)

/-- ITS FALSE NEIGHBOUR: 'it returns false'. Refute it at one input. -/
def fnExactStackTensorsWrong : ChangeSpec := { name := "fnExactStackTensors", fn := fun _ => fun
  | [d1, d2, d3] => { results := [.lit (.bool false)], args := [d1, d2, d3] }
  | _ => none }
def FnExactStackTensorsWrongFalsely : Prop := fnExactStackTensorsRow.holds Try.pinned (OpenSpec.ofChange fnExactStackTensorsWrong)

/-- 'laws.FnExactFuseLabels': WHATEVER THE INPUT: true; the input reads as it did. -/
def fnExactFuseLabelsSpec : ChangeSpec := { name := "fnExactFuseLabels", fn := fun _ => fun
  | [d1, d2, d3, d4] => { results := [.lit (.bool true)], args := [d1, d2, d3, d4] }
  | _ => none }
def fnExactFuseLabelsRow : OpenClaim := { program := "ytgdkllhgaikpnaa", sum := "06a42a376d8d19e9e158c4bdcbabc27d415bbd9cb022228a7becf3976f3ae377", func := "loop.example/g03211/laws.FnExactFuseLabels", spec := "fnExactFuseLabels", unfollowed := true, recurses := true, apart := false }
def FnExactFuseLabelsSaid : Prop := fnExactFuseLabelsRow.holds Try.pinned (OpenSpec.ofChange fnExactFuseLabelsSpec)

/-- ITS FALSE NEIGHBOUR: 'it returns false'. Refute it at one input. -/
def fnExactFuseLabelsWrong : ChangeSpec := { name := "fnExactFuseLabels", fn := fun _ => fun
  | [d1, d2, d3, d4] => { results := [.lit (.bool false)], args := [d1, d2, d3, d4] }
  | _ => none }
def FnExactFuseLabelsWrongFalsely : Prop := fnExactFuseLabelsRow.holds Try.pinned (OpenSpec.ofChange fnExactFuseLabelsWrong)

/-- 'laws.FnExactSplitLabel': WHATEVER THE INPUT: true; the input reads as it did. -/
def fnExactSplitLabelSpec : ChangeSpec := { name := "fnExactSplitLabel", fn := fun _ => fun
  | [d1, d2, d3, d4, d5] => { results := [.lit (.bool true)], args := [d1, d2, d3, d4, d5] }
  | _ => none }
def fnExactSplitLabelRow : OpenClaim := { program := "ytgdkllhgaikpnaa", sum := "06a42a376d8d19e9e158c4bdcbabc27d415bbd9cb022228a7becf3976f3ae377", func := "loop.example/g03211/laws.FnExactSplitLabel", spec := "fnExactSplitLabel", unfollowed := true, recurses := true, apart := false }
def FnExactSplitLabelSaid : Prop := fnExactSplitLabelRow.holds Try.pinned (OpenSpec.ofChange fnExactSplitLabelSpec)

/-- ITS FALSE NEIGHBOUR: 'it returns false'. Refute it at one input. -/
def fnExactSplitLabelWrong : ChangeSpec := { name := "fnExactSplitLabel", fn := fun _ => fun
  | [d1, d2, d3, d4, d5] => { results := [.lit (.bool false)], args := [d1, d2, d3, d4, d5] }
  | _ => none }
def FnExactSplitLabelWrongFalsely : Prop := fnExactSplitLabelRow.holds Try.pinned (OpenSpec.ofChange fnExactSplitLabelWrong)

/-- 'laws.FnExactDeltaTensor': WHATEVER THE INPUT: true; the input reads as it did. -/
def fnExactDeltaTensorSpec : ChangeSpec := { name := "fnExactDeltaTensor", fn := fun _ => fun
  | [d1, d2, d3] => { results := [.lit (.bool true)], args := [d1, d2, d3] }
  | _ => none }
def fnExactDeltaTensorRow : OpenClaim := { program := "ytgdkllhgaikpnaa", sum := "06a42a376d8d19e9e158c4bdcbabc27d415bbd9cb022228a7becf3976f3ae377", func := "loop.example/g03211/laws.FnExactDeltaTensor", spec := "fnExactDeltaTensor", unfollowed := true, recurses := true, apart := false }
def FnExactDeltaTensorSaid : Prop := fnExactDeltaTensorRow.holds Try.pinned (OpenSpec.ofChange fnExactDeltaTensorSpec)

/-- ITS FALSE NEIGHBOUR: 'it returns false'. Refute it at one input. -/
def fnExactDeltaTensorWrong : ChangeSpec := { name := "fnExactDeltaTensor", fn := fun _ => fun
  | [d1, d2, d3] => { results := [.lit (.bool false)], args := [d1, d2, d3] }
  | _ => none }
def FnExactDeltaTensorWrongFalsely : Prop := fnExactDeltaTensorRow.holds Try.pinned (OpenSpec.ofChange fnExactDeltaTensorWrong)

/- THE SECOND FORM. 'bulk': how many values and letters a reading holds, each counted each time it is reached (what is shared counts as often as it is met; a slice's spare places count too). A statement '..UptoSaid' is the law's where the arguments, and the package variables that the reading takes, are together of bulk at most 1048576: NARROWER than '..Said'. Prove '..Said' where nothing that the law and all that it calls make is longer than what came in: it says more and counts as full. Else prove '..UptoSaid'. A law counts once. -/
mutual
def uptoBulk {H : Type} : DataW H → Nat
  | .lit (.string bytes) => bytes.length + 1
  | .lit _ => 1
  | .nil => 1
  | .ptr d => uptoBulk d + 1
  | .slice elems spare => uptoBulkAll elems + uptoBulkAll spare + 1
  | .agg parts => uptoBulkAll parts + 1
  | .iface _ d => uptoBulk d + 1
  | .map entries => uptoBulkEntries entries + 1
  | .held _ => 1
def uptoBulkAll {H : Type} : List (DataW H) → Nat
  | [] => 0
  | d :: r => uptoBulk d + uptoBulkAll r
def uptoBulkEntries {H : Type} : List (Lit × DataW H) → Nat
  | [] => 0
  | x :: r => uptoBulkEntry x + uptoBulkEntries r
def uptoBulkEntry {H : Type} : Lit × DataW H → Nat
  | (.string bytes, d) => bytes.length + uptoBulk d + 1
  | (_, d) => uptoBulk d + 1
 end
def uptoSmall : (H : Type) → List (DataW H) → Bool := fun _ ds => decide (uptoBulkAll ds ≤ 1048576)
def OpenSpec.upto (s : _root_.Go.ChangeSpec) : _root_.Go.OpenSpec := { _root_.Go.OpenSpec.ofChange s with cond := some uptoSmall }

/-- 'laws.FnExactStackTensors', WHERE WHAT IT READS IS OF BULK AT MOST 1048576: true; the input reads as it did. -/
def fnExactStackTensorsUptoRow : OpenClaim := { program := "ytgdkllhgaikpnaa", sum := "06a42a376d8d19e9e158c4bdcbabc27d415bbd9cb022228a7becf3976f3ae377", func := "loop.example/g03211/laws.FnExactStackTensors", spec := "fnExactStackTensors", unfollowed := true, recurses := true, apart := false, narrowed := true }
def FnExactStackTensorsUptoSaid : Prop := fnExactStackTensorsUptoRow.holds Try.pinned (OpenSpec.upto fnExactStackTensorsSpec)

/-- 'laws.FnExactFuseLabels', WHERE WHAT IT READS IS OF BULK AT MOST 1048576: true; the input reads as it did. -/
def fnExactFuseLabelsUptoRow : OpenClaim := { program := "ytgdkllhgaikpnaa", sum := "06a42a376d8d19e9e158c4bdcbabc27d415bbd9cb022228a7becf3976f3ae377", func := "loop.example/g03211/laws.FnExactFuseLabels", spec := "fnExactFuseLabels", unfollowed := true, recurses := true, apart := false, narrowed := true }
def FnExactFuseLabelsUptoSaid : Prop := fnExactFuseLabelsUptoRow.holds Try.pinned (OpenSpec.upto fnExactFuseLabelsSpec)

/-- 'laws.FnExactSplitLabel', WHERE WHAT IT READS IS OF BULK AT MOST 1048576: true; the input reads as it did. -/
def fnExactSplitLabelUptoRow : OpenClaim := { program := "ytgdkllhgaikpnaa", sum := "06a42a376d8d19e9e158c4bdcbabc27d415bbd9cb022228a7becf3976f3ae377", func := "loop.example/g03211/laws.FnExactSplitLabel", spec := "fnExactSplitLabel", unfollowed := true, recurses := true, apart := false, narrowed := true }
def FnExactSplitLabelUptoSaid : Prop := fnExactSplitLabelUptoRow.holds Try.pinned (OpenSpec.upto fnExactSplitLabelSpec)

/-- 'laws.FnExactDeltaTensor', WHERE WHAT IT READS IS OF BULK AT MOST 1048576: true; the input reads as it did. -/
def fnExactDeltaTensorUptoRow : OpenClaim := { program := "ytgdkllhgaikpnaa", sum := "06a42a376d8d19e9e158c4bdcbabc27d415bbd9cb022228a7becf3976f3ae377", func := "loop.example/g03211/laws.FnExactDeltaTensor", spec := "fnExactDeltaTensor", unfollowed := true, recurses := true, apart := false, narrowed := true }
def FnExactDeltaTensorUptoSaid : Prop := fnExactDeltaTensorUptoRow.holds Try.pinned (OpenSpec.upto fnExactDeltaTensorSpec)

end Rows
end Go.Proofs.Ytgdkllhgaikpnaa
