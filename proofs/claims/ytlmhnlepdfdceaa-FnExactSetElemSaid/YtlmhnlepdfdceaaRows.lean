/-
  No cell of these rows narrows 'for every input' (looked for: loops, veiled, ifaces, maps, wideKeys, modest, calm, conditions, laid).
  DERIVED. THE GIVEN ROWS OF THIS SEAT. 8 by the template 'for every input the law returns true; each argument reads behind the call as it read before'; 0 by the template 'total and deterministic' (their statements: YtlmhnlepdfdceaaTotals.lean).
  GIVEN WITH THE SEED: the statements are not yours to turn. If you find one false, say at which input.
  Laid BY PROGRAM, IN A SANDBOX (cutbox-rows.mjs): the forced cells as the released guide's own fill.sh prints them over the translation 4ba0e855586d5e1f… (all of the seat's roots in one cut). By AI agents, Wed Nov 11 2026. No macro, syntax, notation, axiom, sorry.
-/
import Derived.Test.YtlmhnlepdfdceaaChecked
import GoSem.Claim
import GoSem.ClaimJoined
import GoSem.ClaimMapViews
import Derived.JoinedTies
import Derived.KernelRfl
namespace Go.Proofs.Ytlmhnlepdfdceaa
/- THE CELL 'sum', in the pinned program and in every row, IS THE sha256 OF THE DUMP (.gsa) THAT YtlmhnlepdfdceaaProg.lean LOADS. Nothing in Lean hashes anything: it is a label: what it is worth is what the hold of that sum in a sandbox is worth. -/
noncomputable def Try.pinned : Pinned := { name := "ytlmhnlepdfdceaa", sum := "4ba0e855586d5e1f6c66f3a026bdbf30a1b687b82e488a74de4809e65190a99c", checked := Try.checked }
namespace Rows
def none {H : Type} : Left H := { results := [], args := [] }

/-- 'laws.FnExactTensorSize': WHATEVER THE INPUT: true; the input reads as it did. -/
def fnExactTensorSizeSpec : ChangeSpec := { name := "fnExactTensorSize", fn := fun _ => fun
  | [d] => { results := [.lit (.bool true)], args := [d] }
  | _ => none }
def fnExactTensorSizeRow : OpenClaim := { program := "ytlmhnlepdfdceaa", sum := "4ba0e855586d5e1f6c66f3a026bdbf30a1b687b82e488a74de4809e65190a99c", func := "loop.example/g03211/laws.FnExactTensorSize", spec := "fnExactTensorSize", apart := false }
def FnExactTensorSizeSaid : Prop := fnExactTensorSizeRow.holds Try.pinned (OpenSpec.ofChange fnExactTensorSizeSpec)

/-- ITS FALSE NEIGHBOUR: 'it returns false'. Refute it at one input. -/
def fnExactTensorSizeWrong : ChangeSpec := { name := "fnExactTensorSize", fn := fun _ => fun
  | [d] => { results := [.lit (.bool false)], args := [d] }
  | _ => none }
def FnExactTensorSizeWrongFalsely : Prop := fnExactTensorSizeRow.holds Try.pinned (OpenSpec.ofChange fnExactTensorSizeWrong)

/-- 'laws.FnExactTensorOk': WHATEVER THE INPUT: true; the input reads as it did. -/
def fnExactTensorOkSpec : ChangeSpec := { name := "fnExactTensorOk", fn := fun _ => fun
  | [d1, d2] => { results := [.lit (.bool true)], args := [d1, d2] }
  | _ => none }
def fnExactTensorOkRow : OpenClaim := { program := "ytlmhnlepdfdceaa", sum := "4ba0e855586d5e1f6c66f3a026bdbf30a1b687b82e488a74de4809e65190a99c", func := "loop.example/g03211/laws.FnExactTensorOk", spec := "fnExactTensorOk", unfollowed := true, recurses := true, apart := false }
def FnExactTensorOkSaid : Prop := fnExactTensorOkRow.holds Try.pinned (OpenSpec.ofChange fnExactTensorOkSpec)

/-- ITS FALSE NEIGHBOUR: 'it returns false'. Refute it at one input. -/
def fnExactTensorOkWrong : ChangeSpec := { name := "fnExactTensorOk", fn := fun _ => fun
  | [d1, d2] => { results := [.lit (.bool false)], args := [d1, d2] }
  | _ => none }
def FnExactTensorOkWrongFalsely : Prop := fnExactTensorOkRow.holds Try.pinned (OpenSpec.ofChange fnExactTensorOkWrong)

/-- 'laws.FnExactOffsetOf': WHATEVER THE INPUT: true; the input reads as it did. -/
def fnExactOffsetOfSpec : ChangeSpec := { name := "fnExactOffsetOf", fn := fun _ => fun
  | [d1, d2] => { results := [.lit (.bool true)], args := [d1, d2] }
  | _ => none }
def fnExactOffsetOfRow : OpenClaim := { program := "ytlmhnlepdfdceaa", sum := "4ba0e855586d5e1f6c66f3a026bdbf30a1b687b82e488a74de4809e65190a99c", func := "loop.example/g03211/laws.FnExactOffsetOf", spec := "fnExactOffsetOf", apart := false }
def FnExactOffsetOfSaid : Prop := fnExactOffsetOfRow.holds Try.pinned (OpenSpec.ofChange fnExactOffsetOfSpec)

/-- ITS FALSE NEIGHBOUR: 'it returns false'. Refute it at one input. -/
def fnExactOffsetOfWrong : ChangeSpec := { name := "fnExactOffsetOf", fn := fun _ => fun
  | [d1, d2] => { results := [.lit (.bool false)], args := [d1, d2] }
  | _ => none }
def FnExactOffsetOfWrongFalsely : Prop := fnExactOffsetOfRow.holds Try.pinned (OpenSpec.ofChange fnExactOffsetOfWrong)

/-- 'laws.FnExactIndexAt': WHATEVER THE INPUT: true; the input reads as it did. -/
def fnExactIndexAtSpec : ChangeSpec := { name := "fnExactIndexAt", fn := fun _ => fun
  | [d1, d2] => { results := [.lit (.bool true)], args := [d1, d2] }
  | _ => none }
def fnExactIndexAtRow : OpenClaim := { program := "ytlmhnlepdfdceaa", sum := "4ba0e855586d5e1f6c66f3a026bdbf30a1b687b82e488a74de4809e65190a99c", func := "loop.example/g03211/laws.FnExactIndexAt", spec := "fnExactIndexAt", unfollowed := true, recurses := true, apart := false }
def FnExactIndexAtSaid : Prop := fnExactIndexAtRow.holds Try.pinned (OpenSpec.ofChange fnExactIndexAtSpec)

/-- ITS FALSE NEIGHBOUR: 'it returns false'. Refute it at one input. -/
def fnExactIndexAtWrong : ChangeSpec := { name := "fnExactIndexAt", fn := fun _ => fun
  | [d1, d2] => { results := [.lit (.bool false)], args := [d1, d2] }
  | _ => none }
def FnExactIndexAtWrongFalsely : Prop := fnExactIndexAtRow.holds Try.pinned (OpenSpec.ofChange fnExactIndexAtWrong)

/-- 'laws.FnExactElemAt': WHATEVER THE INPUT: true; the input reads as it did. -/
def fnExactElemAtSpec : ChangeSpec := { name := "fnExactElemAt", fn := fun _ => fun
  | [d1, d2, d3] => { results := [.lit (.bool true)], args := [d1, d2, d3] }
  | _ => none }
def fnExactElemAtRow : OpenClaim := { program := "ytlmhnlepdfdceaa", sum := "4ba0e855586d5e1f6c66f3a026bdbf30a1b687b82e488a74de4809e65190a99c", func := "loop.example/g03211/laws.FnExactElemAt", spec := "fnExactElemAt", unfollowed := true, recurses := true, apart := false }
def FnExactElemAtSaid : Prop := fnExactElemAtRow.holds Try.pinned (OpenSpec.ofChange fnExactElemAtSpec)

/-- ITS FALSE NEIGHBOUR: 'it returns false'. Refute it at one input. -/
def fnExactElemAtWrong : ChangeSpec := { name := "fnExactElemAt", fn := fun _ => fun
  | [d1, d2, d3] => { results := [.lit (.bool false)], args := [d1, d2, d3] }
  | _ => none }
def FnExactElemAtWrongFalsely : Prop := fnExactElemAtRow.holds Try.pinned (OpenSpec.ofChange fnExactElemAtWrong)

/-- 'laws.FnExactSetElem': WHATEVER THE INPUT: true; the input reads as it did. -/
def fnExactSetElemSpec : ChangeSpec := { name := "fnExactSetElem", fn := fun _ => fun
  | [d1, d2, d3, d4] => { results := [.lit (.bool true)], args := [d1, d2, d3, d4] }
  | _ => none }
def fnExactSetElemRow : OpenClaim := { program := "ytlmhnlepdfdceaa", sum := "4ba0e855586d5e1f6c66f3a026bdbf30a1b687b82e488a74de4809e65190a99c", func := "loop.example/g03211/laws.FnExactSetElem", spec := "fnExactSetElem", unfollowed := true, recurses := true, apart := false }
def FnExactSetElemSaid : Prop := fnExactSetElemRow.holds Try.pinned (OpenSpec.ofChange fnExactSetElemSpec)

/-- ITS FALSE NEIGHBOUR: 'it returns false'. Refute it at one input. -/
def fnExactSetElemWrong : ChangeSpec := { name := "fnExactSetElem", fn := fun _ => fun
  | [d1, d2, d3, d4] => { results := [.lit (.bool false)], args := [d1, d2, d3, d4] }
  | _ => none }
def FnExactSetElemWrongFalsely : Prop := fnExactSetElemRow.holds Try.pinned (OpenSpec.ofChange fnExactSetElemWrong)

/-- 'laws.FnExactZeroTensor': WHATEVER THE INPUT: true; the input reads as it did. -/
def fnExactZeroTensorSpec : ChangeSpec := { name := "fnExactZeroTensor", fn := fun _ => fun
  | [d1, d2, d3] => { results := [.lit (.bool true)], args := [d1, d2, d3] }
  | _ => none }
def fnExactZeroTensorRow : OpenClaim := { program := "ytlmhnlepdfdceaa", sum := "4ba0e855586d5e1f6c66f3a026bdbf30a1b687b82e488a74de4809e65190a99c", func := "loop.example/g03211/laws.FnExactZeroTensor", spec := "fnExactZeroTensor", apart := false }
def FnExactZeroTensorSaid : Prop := fnExactZeroTensorRow.holds Try.pinned (OpenSpec.ofChange fnExactZeroTensorSpec)

/-- ITS FALSE NEIGHBOUR: 'it returns false'. Refute it at one input. -/
def fnExactZeroTensorWrong : ChangeSpec := { name := "fnExactZeroTensor", fn := fun _ => fun
  | [d1, d2, d3] => { results := [.lit (.bool false)], args := [d1, d2, d3] }
  | _ => none }
def FnExactZeroTensorWrongFalsely : Prop := fnExactZeroTensorRow.holds Try.pinned (OpenSpec.ofChange fnExactZeroTensorWrong)

/-- 'laws.FnExactScalarTensor': WHATEVER THE INPUT: true; the input reads as it did. -/
def fnExactScalarTensorSpec : ChangeSpec := { name := "fnExactScalarTensor", fn := fun _ => fun
  | [d1, d2] => { results := [.lit (.bool true)], args := [d1, d2] }
  | _ => none }
def fnExactScalarTensorRow : OpenClaim := { program := "ytlmhnlepdfdceaa", sum := "4ba0e855586d5e1f6c66f3a026bdbf30a1b687b82e488a74de4809e65190a99c", func := "loop.example/g03211/laws.FnExactScalarTensor", spec := "fnExactScalarTensor", unfollowed := true, recurses := true, apart := false }
def FnExactScalarTensorSaid : Prop := fnExactScalarTensorRow.holds Try.pinned (OpenSpec.ofChange fnExactScalarTensorSpec)

/-- ITS FALSE NEIGHBOUR: 'it returns false'. Refute it at one input. -/
def fnExactScalarTensorWrong : ChangeSpec := { name := "fnExactScalarTensor", fn := fun _ => fun
  | [d1, d2] => { results := [.lit (.bool false)], args := [d1, d2] }
  | _ => none }
def FnExactScalarTensorWrongFalsely : Prop := fnExactScalarTensorRow.holds Try.pinned (OpenSpec.ofChange fnExactScalarTensorWrong)

/- THE SECOND FORM. 'bulk': how many values and letters a reading holds, each counted each time it is reached (what is shared counts as often as it is met; a slice's spare places count too). A statement '..UptoSaid' is the law's where the arguments, and the package variables that the reading takes, are together of bulk at most 1048576: NARROWER than '..Said'. Prove '..Said' where nothing that the law and all that it calls make is longer than what came in: it says more and counts as full. Else prove '..UptoSaid'. A law counts once. -/
mutual
def uptoBulk {H : Type} : DataW H → Nat
  | .lit (.string bytes) => bytes.length + 1
  | .lit _ => 1
  | .nil => 1
  | .ptr d => uptoBulk d + 1
  | .slice elems spare => uptoBulkAll elems + uptoBulkAll spare + 1
  | .agg parts => uptoBulkAll parts + 1
  | .iface _ d => uptoBulk d + 1
  | .map entries => uptoBulkEntries entries + 1
  | .held _ => 1
def uptoBulkAll {H : Type} : List (DataW H) → Nat
  | [] => 0
  | d :: r => uptoBulk d + uptoBulkAll r
def uptoBulkEntries {H : Type} : List (Lit × DataW H) → Nat
  | [] => 0
  | x :: r => uptoBulkEntry x + uptoBulkEntries r
def uptoBulkEntry {H : Type} : Lit × DataW H → Nat
  | (.string bytes, d) => bytes.length + uptoBulk d + 1
  | (_, d) => uptoBulk d + 1
 end
def uptoSmall : (H : Type) → List (DataW H) → Bool := fun _ ds => decide (uptoBulkAll ds ≤ 1048576)
def OpenSpec.upto (s : _root_.Go.ChangeSpec) : _root_.Go.OpenSpec := { _root_.Go.OpenSpec.ofChange s with cond := some uptoSmall }

/-- 'laws.FnExactTensorSize', WHERE WHAT IT READS IS OF BULK AT MOST 1048576: true; the input reads as it did. -/
def fnExactTensorSizeUptoRow : OpenClaim := { program := "ytlmhnlepdfdceaa", sum := "4ba0e855586d5e1f6c66f3a026bdbf30a1b687b82e488a74de4809e65190a99c", func := "loop.example/g03211/laws.FnExactTensorSize", spec := "fnExactTensorSize", apart := false, narrowed := true }
def FnExactTensorSizeUptoSaid : Prop := fnExactTensorSizeUptoRow.holds Try.pinned (OpenSpec.upto fnExactTensorSizeSpec)

/-- 'laws.FnExactTensorOk', WHERE WHAT IT READS IS OF BULK AT MOST 1048576: true; the input reads as it did. -/
def fnExactTensorOkUptoRow : OpenClaim := { program := "ytlmhnlepdfdceaa", sum := "4ba0e855586d5e1f6c66f3a026bdbf30a1b687b82e488a74de4809e65190a99c", func := "loop.example/g03211/laws.FnExactTensorOk", spec := "fnExactTensorOk", unfollowed := true, recurses := true, apart := false, narrowed := true }
def FnExactTensorOkUptoSaid : Prop := fnExactTensorOkUptoRow.holds Try.pinned (OpenSpec.upto fnExactTensorOkSpec)

/-- 'laws.FnExactOffsetOf', WHERE WHAT IT READS IS OF BULK AT MOST 1048576: true; the input reads as it did. -/
def fnExactOffsetOfUptoRow : OpenClaim := { program := "ytlmhnlepdfdceaa", sum := "4ba0e855586d5e1f6c66f3a026bdbf30a1b687b82e488a74de4809e65190a99c", func := "loop.example/g03211/laws.FnExactOffsetOf", spec := "fnExactOffsetOf", apart := false, narrowed := true }
def FnExactOffsetOfUptoSaid : Prop := fnExactOffsetOfUptoRow.holds Try.pinned (OpenSpec.upto fnExactOffsetOfSpec)

/-- 'laws.FnExactIndexAt', WHERE WHAT IT READS IS OF BULK AT MOST 1048576: true; the input reads as it did. -/
def fnExactIndexAtUptoRow : OpenClaim := { program := "ytlmhnlepdfdceaa", sum := "4ba0e855586d5e1f6c66f3a026bdbf30a1b687b82e488a74de4809e65190a99c", func := "loop.example/g03211/laws.FnExactIndexAt", spec := "fnExactIndexAt", unfollowed := true, recurses := true, apart := false, narrowed := true }
def FnExactIndexAtUptoSaid : Prop := fnExactIndexAtUptoRow.holds Try.pinned (OpenSpec.upto fnExactIndexAtSpec)

/-- 'laws.FnExactElemAt', WHERE WHAT IT READS IS OF BULK AT MOST 1048576: true; the input reads as it did. -/
def fnExactElemAtUptoRow : OpenClaim := { program := "ytlmhnlepdfdceaa", sum := "4ba0e855586d5e1f6c66f3a026bdbf30a1b687b82e488a74de4809e65190a99c", func := "loop.example/g03211/laws.FnExactElemAt", spec := "fnExactElemAt", unfollowed := true, recurses := true, apart := false, narrowed := true }
def FnExactElemAtUptoSaid : Prop := fnExactElemAtUptoRow.holds Try.pinned (OpenSpec.upto fnExactElemAtSpec)

/-- 'laws.FnExactSetElem', WHERE WHAT IT READS IS OF BULK AT MOST 1048576: true; the input reads as it did. -/
def fnExactSetElemUptoRow : OpenClaim := { program := "ytlmhnlepdfdceaa", sum := "4ba0e855586d5e1f6c66f3a026bdbf30a1b687b82e488a74de4809e65190a99c", func := "loop.example/g03211/laws.FnExactSetElem", spec := "fnExactSetElem", unfollowed := true, recurses := true, apart := false, narrowed := true }
def FnExactSetElemUptoSaid : Prop := fnExactSetElemUptoRow.holds Try.pinned (OpenSpec.upto fnExactSetElemSpec)

/-- 'laws.FnExactZeroTensor', WHERE WHAT IT READS IS OF BULK AT MOST 1048576: true; the input reads as it did. -/
def fnExactZeroTensorUptoRow : OpenClaim := { program := "ytlmhnlepdfdceaa", sum := "4ba0e855586d5e1f6c66f3a026bdbf30a1b687b82e488a74de4809e65190a99c", func := "loop.example/g03211/laws.FnExactZeroTensor", spec := "fnExactZeroTensor", apart := false, narrowed := true }
def FnExactZeroTensorUptoSaid : Prop := fnExactZeroTensorUptoRow.holds Try.pinned (OpenSpec.upto fnExactZeroTensorSpec)

/-- 'laws.FnExactScalarTensor', WHERE WHAT IT READS IS OF BULK AT MOST 1048576: true; the input reads as it did. -/
def fnExactScalarTensorUptoRow : OpenClaim := { program := "ytlmhnlepdfdceaa", sum := "4ba0e855586d5e1f6c66f3a026bdbf30a1b687b82e488a74de4809e65190a99c", func := "loop.example/g03211/laws.FnExactScalarTensor", spec := "fnExactScalarTensor", unfollowed := true, recurses := true, apart := false, narrowed := true }
def FnExactScalarTensorUptoSaid : Prop := fnExactScalarTensorUptoRow.holds Try.pinned (OpenSpec.upto fnExactScalarTensorSpec)

end Rows
end Go.Proofs.Ytlmhnlepdfdceaa
