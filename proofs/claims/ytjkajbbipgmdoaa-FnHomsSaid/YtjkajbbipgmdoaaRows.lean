/-
  No cell of these rows narrows 'for every input' (looked for: loops, veiled, ifaces, maps, wideKeys, modest, calm, conditions, laid).
  DERIVED. THE GIVEN ROWS OF THIS SEAT. 14 by the template 'for every input the law returns true; each argument reads behind the call as it read before'; 0 by the template 'total and deterministic' (their statements: YtjkajbbipgmdoaaTotals.lean).
  GIVEN WITH THE SEED: the statements are not yours to turn. If you find one false, say at which input.
  Laid BY PROGRAM, IN A SANDBOX (cutbox-rows.mjs): the forced cells as the released guide's own fill.sh prints them over the translation ad4d7ca8f5a4f1d9… (all of the seat's roots in one cut). By AI agents, Wed Nov 11 2026. No macro, syntax, notation, axiom, sorry.
-/
import Derived.Test.YtjkajbbipgmdoaaChecked
import GoSem.Claim
import GoSem.ClaimJoined
import GoSem.ClaimMapViews
import Derived.JoinedTies
import Derived.KernelRfl
namespace Go.Proofs.Ytjkajbbipgmdoaa
/- THE CELL 'sum', in the pinned program and in every row, IS THE sha256 OF THE DUMP (.gsa) THAT YtjkajbbipgmdoaaProg.lean LOADS. Nothing in Lean hashes anything: it is a label: what it is worth is what the hold of that sum in a sandbox is worth. -/
noncomputable def Try.pinned : Pinned := { name := "ytjkajbbipgmdoaa", sum := "ad4d7ca8f5a4f1d92c5d71d1c5f3405f1f18ee0415551e0e4a0b94c2c0b04dc2", checked := Try.checked }
namespace Rows
def none {H : Type} : Left H := { results := [], args := [] }

/-- 'laws.FnExactHomOk': WHATEVER THE INPUT: true; the input reads as it did. -/
def fnExactHomOkSpec : ChangeSpec := { name := "fnExactHomOk", fn := fun _ => fun
  | [d1, d2, d3] => { results := [.lit (.bool true)], args := [d1, d2, d3] }
  | _ => none }
def fnExactHomOkRow : OpenClaim := { program := "ytjkajbbipgmdoaa", sum := "ad4d7ca8f5a4f1d92c5d71d1c5f3405f1f18ee0415551e0e4a0b94c2c0b04dc2", func := "loop.example/g03211/laws.FnExactHomOk", spec := "fnExactHomOk", apart := false }
def FnExactHomOkSaid : Prop := fnExactHomOkRow.holds Try.pinned (OpenSpec.ofChange fnExactHomOkSpec)

/-- ITS FALSE NEIGHBOUR: 'it returns false'. Refute it at one input. -/
def fnExactHomOkWrong : ChangeSpec := { name := "fnExactHomOk", fn := fun _ => fun
  | [d1, d2, d3] => { results := [.lit (.bool false)], args := [d1, d2, d3] }
  | _ => none }
def FnExactHomOkWrongFalsely : Prop := fnExactHomOkRow.holds Try.pinned (OpenSpec.ofChange fnExactHomOkWrong)

/-- 'laws.FnExactApplyHom': WHATEVER THE INPUT: true; the input reads as it did. -/
def fnExactApplyHomSpec : ChangeSpec := { name := "fnExactApplyHom", fn := fun _ => fun
  | [d1, d2, d3, d4] => { results := [.lit (.bool true)], args := [d1, d2, d3, d4] }
  | _ => none }
def fnExactApplyHomRow : OpenClaim := { program := "ytjkajbbipgmdoaa", sum := "ad4d7ca8f5a4f1d92c5d71d1c5f3405f1f18ee0415551e0e4a0b94c2c0b04dc2", func := "loop.example/g03211/laws.FnExactApplyHom", spec := "fnExactApplyHom", unfollowed := true, recurses := true, apart := false }
def FnExactApplyHomSaid : Prop := fnExactApplyHomRow.holds Try.pinned (OpenSpec.ofChange fnExactApplyHomSpec)

/-- ITS FALSE NEIGHBOUR: 'it returns false'. Refute it at one input. -/
def fnExactApplyHomWrong : ChangeSpec := { name := "fnExactApplyHom", fn := fun _ => fun
  | [d1, d2, d3, d4] => { results := [.lit (.bool false)], args := [d1, d2, d3, d4] }
  | _ => none }
def FnExactApplyHomWrongFalsely : Prop := fnExactApplyHomRow.holds Try.pinned (OpenSpec.ofChange fnExactApplyHomWrong)

/-- 'laws.FnExactIsPrime': WHATEVER THE INPUT: true; the input reads as it did. -/
def fnExactIsPrimeSpec : ChangeSpec := { name := "fnExactIsPrime", fn := fun _ => fun
  | [d] => { results := [.lit (.bool true)], args := [d] }
  | _ => none }
def fnExactIsPrimeRow : OpenClaim := { program := "ytjkajbbipgmdoaa", sum := "ad4d7ca8f5a4f1d92c5d71d1c5f3405f1f18ee0415551e0e4a0b94c2c0b04dc2", func := "loop.example/g03211/laws.FnExactIsPrime", spec := "fnExactIsPrime", apart := false }
def FnExactIsPrimeSaid : Prop := fnExactIsPrimeRow.holds Try.pinned (OpenSpec.ofChange fnExactIsPrimeSpec)

/-- ITS FALSE NEIGHBOUR: 'it returns false'. Refute it at one input. -/
def fnExactIsPrimeWrong : ChangeSpec := { name := "fnExactIsPrime", fn := fun _ => fun
  | [d] => { results := [.lit (.bool false)], args := [d] }
  | _ => none }
def FnExactIsPrimeWrongFalsely : Prop := fnExactIsPrimeRow.holds Try.pinned (OpenSpec.ofChange fnExactIsPrimeWrong)

/-- 'laws.FnExactRingOk': WHATEVER THE INPUT: true; the input reads as it did. -/
def fnExactRingOkSpec : ChangeSpec := { name := "fnExactRingOk", fn := fun _ => fun
  | [d] => { results := [.lit (.bool true)], args := [d] }
  | _ => none }
def fnExactRingOkRow : OpenClaim := { program := "ytjkajbbipgmdoaa", sum := "ad4d7ca8f5a4f1d92c5d71d1c5f3405f1f18ee0415551e0e4a0b94c2c0b04dc2", func := "loop.example/g03211/laws.FnExactRingOk", spec := "fnExactRingOk", apart := false }
def FnExactRingOkSaid : Prop := fnExactRingOkRow.holds Try.pinned (OpenSpec.ofChange fnExactRingOkSpec)

/-- ITS FALSE NEIGHBOUR: 'it returns false'. Refute it at one input. -/
def fnExactRingOkWrong : ChangeSpec := { name := "fnExactRingOk", fn := fun _ => fun
  | [d] => { results := [.lit (.bool false)], args := [d] }
  | _ => none }
def FnExactRingOkWrongFalsely : Prop := fnExactRingOkRow.holds Try.pinned (OpenSpec.ofChange fnExactRingOkWrong)

/-- 'laws.FnExactRingWidth': WHATEVER THE INPUT: true; the input reads as it did. -/
def fnExactRingWidthSpec : ChangeSpec := { name := "fnExactRingWidth", fn := fun _ => fun
  | [d] => { results := [.lit (.bool true)], args := [d] }
  | _ => none }
def fnExactRingWidthRow : OpenClaim := { program := "ytjkajbbipgmdoaa", sum := "ad4d7ca8f5a4f1d92c5d71d1c5f3405f1f18ee0415551e0e4a0b94c2c0b04dc2", func := "loop.example/g03211/laws.FnExactRingWidth", spec := "fnExactRingWidth", apart := false }
def FnExactRingWidthSaid : Prop := fnExactRingWidthRow.holds Try.pinned (OpenSpec.ofChange fnExactRingWidthSpec)

/-- ITS FALSE NEIGHBOUR: 'it returns false'. Refute it at one input. -/
def fnExactRingWidthWrong : ChangeSpec := { name := "fnExactRingWidth", fn := fun _ => fun
  | [d] => { results := [.lit (.bool false)], args := [d] }
  | _ => none }
def FnExactRingWidthWrongFalsely : Prop := fnExactRingWidthRow.holds Try.pinned (OpenSpec.ofChange fnExactRingWidthWrong)

/-- 'laws.FnExactElemOk': WHATEVER THE INPUT: true; the input reads as it did. -/
def fnExactElemOkSpec : ChangeSpec := { name := "fnExactElemOk", fn := fun _ => fun
  | [d1, d2] => { results := [.lit (.bool true)], args := [d1, d2] }
  | _ => none }
def fnExactElemOkRow : OpenClaim := { program := "ytjkajbbipgmdoaa", sum := "ad4d7ca8f5a4f1d92c5d71d1c5f3405f1f18ee0415551e0e4a0b94c2c0b04dc2", func := "loop.example/g03211/laws.FnExactElemOk", spec := "fnExactElemOk", apart := false }
def FnExactElemOkSaid : Prop := fnExactElemOkRow.holds Try.pinned (OpenSpec.ofChange fnExactElemOkSpec)

/-- ITS FALSE NEIGHBOUR: 'it returns false'. Refute it at one input. -/
def fnExactElemOkWrong : ChangeSpec := { name := "fnExactElemOk", fn := fun _ => fun
  | [d1, d2] => { results := [.lit (.bool false)], args := [d1, d2] }
  | _ => none }
def FnExactElemOkWrongFalsely : Prop := fnExactElemOkRow.holds Try.pinned (OpenSpec.ofChange fnExactElemOkWrong)

/-- 'laws.FnExactZeroOf': WHATEVER THE INPUT: true; the input reads as it did. -/
def fnExactZeroOfSpec : ChangeSpec := { name := "fnExactZeroOf", fn := fun _ => fun
  | [d] => { results := [.lit (.bool true)], args := [d] }
  | _ => none }
def fnExactZeroOfRow : OpenClaim := { program := "ytjkajbbipgmdoaa", sum := "ad4d7ca8f5a4f1d92c5d71d1c5f3405f1f18ee0415551e0e4a0b94c2c0b04dc2", func := "loop.example/g03211/laws.FnExactZeroOf", spec := "fnExactZeroOf", apart := false }
def FnExactZeroOfSaid : Prop := fnExactZeroOfRow.holds Try.pinned (OpenSpec.ofChange fnExactZeroOfSpec)

/-- ITS FALSE NEIGHBOUR: 'it returns false'. Refute it at one input. -/
def fnExactZeroOfWrong : ChangeSpec := { name := "fnExactZeroOf", fn := fun _ => fun
  | [d] => { results := [.lit (.bool false)], args := [d] }
  | _ => none }
def FnExactZeroOfWrongFalsely : Prop := fnExactZeroOfRow.holds Try.pinned (OpenSpec.ofChange fnExactZeroOfWrong)

/-- 'laws.FnExactOneOf': WHATEVER THE INPUT: true; the input reads as it did. -/
def fnExactOneOfSpec : ChangeSpec := { name := "fnExactOneOf", fn := fun _ => fun
  | [d] => { results := [.lit (.bool true)], args := [d] }
  | _ => none }
def fnExactOneOfRow : OpenClaim := { program := "ytjkajbbipgmdoaa", sum := "ad4d7ca8f5a4f1d92c5d71d1c5f3405f1f18ee0415551e0e4a0b94c2c0b04dc2", func := "loop.example/g03211/laws.FnExactOneOf", spec := "fnExactOneOf", apart := false }
def FnExactOneOfSaid : Prop := fnExactOneOfRow.holds Try.pinned (OpenSpec.ofChange fnExactOneOfSpec)

/-- ITS FALSE NEIGHBOUR: 'it returns false'. Refute it at one input. -/
def fnExactOneOfWrong : ChangeSpec := { name := "fnExactOneOf", fn := fun _ => fun
  | [d] => { results := [.lit (.bool false)], args := [d] }
  | _ => none }
def FnExactOneOfWrongFalsely : Prop := fnExactOneOfRow.holds Try.pinned (OpenSpec.ofChange fnExactOneOfWrong)

/-- 'laws.FnExactAddElem': WHATEVER THE INPUT: true; the input reads as it did. -/
def fnExactAddElemSpec : ChangeSpec := { name := "fnExactAddElem", fn := fun _ => fun
  | [d1, d2, d3] => { results := [.lit (.bool true)], args := [d1, d2, d3] }
  | _ => none }
def fnExactAddElemRow : OpenClaim := { program := "ytjkajbbipgmdoaa", sum := "ad4d7ca8f5a4f1d92c5d71d1c5f3405f1f18ee0415551e0e4a0b94c2c0b04dc2", func := "loop.example/g03211/laws.FnExactAddElem", spec := "fnExactAddElem", apart := false }
def FnExactAddElemSaid : Prop := fnExactAddElemRow.holds Try.pinned (OpenSpec.ofChange fnExactAddElemSpec)

/-- ITS FALSE NEIGHBOUR: 'it returns false'. Refute it at one input. -/
def fnExactAddElemWrong : ChangeSpec := { name := "fnExactAddElem", fn := fun _ => fun
  | [d1, d2, d3] => { results := [.lit (.bool false)], args := [d1, d2, d3] }
  | _ => none }
def FnExactAddElemWrongFalsely : Prop := fnExactAddElemRow.holds Try.pinned (OpenSpec.ofChange fnExactAddElemWrong)

/-- 'laws.FnExactMulElem': WHATEVER THE INPUT: true; the input reads as it did. -/
def fnExactMulElemSpec : ChangeSpec := { name := "fnExactMulElem", fn := fun _ => fun
  | [d1, d2, d3] => { results := [.lit (.bool true)], args := [d1, d2, d3] }
  | _ => none }
def fnExactMulElemRow : OpenClaim := { program := "ytjkajbbipgmdoaa", sum := "ad4d7ca8f5a4f1d92c5d71d1c5f3405f1f18ee0415551e0e4a0b94c2c0b04dc2", func := "loop.example/g03211/laws.FnExactMulElem", spec := "fnExactMulElem", apart := false }
def FnExactMulElemSaid : Prop := fnExactMulElemRow.holds Try.pinned (OpenSpec.ofChange fnExactMulElemSpec)

/-- ITS FALSE NEIGHBOUR: 'it returns false'. Refute it at one input. -/
def fnExactMulElemWrong : ChangeSpec := { name := "fnExactMulElem", fn := fun _ => fun
  | [d1, d2, d3] => { results := [.lit (.bool false)], args := [d1, d2, d3] }
  | _ => none }
def FnExactMulElemWrongFalsely : Prop := fnExactMulElemRow.holds Try.pinned (OpenSpec.ofChange fnExactMulElemWrong)

/-- 'laws.FnExactSumElems': WHATEVER THE INPUT: true; the input reads as it did. -/
def fnExactSumElemsSpec : ChangeSpec := { name := "fnExactSumElems", fn := fun _ => fun
  | [d1, d2] => { results := [.lit (.bool true)], args := [d1, d2] }
  | _ => none }
def fnExactSumElemsRow : OpenClaim := { program := "ytjkajbbipgmdoaa", sum := "ad4d7ca8f5a4f1d92c5d71d1c5f3405f1f18ee0415551e0e4a0b94c2c0b04dc2", func := "loop.example/g03211/laws.FnExactSumElems", spec := "fnExactSumElems", apart := false }
def FnExactSumElemsSaid : Prop := fnExactSumElemsRow.holds Try.pinned (OpenSpec.ofChange fnExactSumElemsSpec)

/-- ITS FALSE NEIGHBOUR: 'it returns false'. Refute it at one input. -/
def fnExactSumElemsWrong : ChangeSpec := { name := "fnExactSumElems", fn := fun _ => fun
  | [d1, d2] => { results := [.lit (.bool false)], args := [d1, d2] }
  | _ => none }
def FnExactSumElemsWrongFalsely : Prop := fnExactSumElemsRow.holds Try.pinned (OpenSpec.ofChange fnExactSumElemsWrong)

/-- 'laws.FnExactCountElem': WHATEVER THE INPUT: true; the input reads as it did. -/
def fnExactCountElemSpec : ChangeSpec := { name := "fnExactCountElem", fn := fun _ => fun
  | [d1, d2] => { results := [.lit (.bool true)], args := [d1, d2] }
  | _ => none }
def fnExactCountElemRow : OpenClaim := { program := "ytjkajbbipgmdoaa", sum := "ad4d7ca8f5a4f1d92c5d71d1c5f3405f1f18ee0415551e0e4a0b94c2c0b04dc2", func := "loop.example/g03211/laws.FnExactCountElem", spec := "fnExactCountElem", unfollowed := true, recurses := true, apart := false }
def FnExactCountElemSaid : Prop := fnExactCountElemRow.holds Try.pinned (OpenSpec.ofChange fnExactCountElemSpec)

/-- ITS FALSE NEIGHBOUR: 'it returns false'. Refute it at one input. -/
def fnExactCountElemWrong : ChangeSpec := { name := "fnExactCountElem", fn := fun _ => fun
  | [d1, d2] => { results := [.lit (.bool false)], args := [d1, d2] }
  | _ => none }
def FnExactCountElemWrongFalsely : Prop := fnExactCountElemRow.holds Try.pinned (OpenSpec.ofChange fnExactCountElemWrong)

/-- 'laws.FnExactPowElem': WHATEVER THE INPUT: true; the input reads as it did. -/
def fnExactPowElemSpec : ChangeSpec := { name := "fnExactPowElem", fn := fun _ => fun
  | [d1, d2, d3] => { results := [.lit (.bool true)], args := [d1, d2, d3] }
  | _ => none }
def fnExactPowElemRow : OpenClaim := { program := "ytjkajbbipgmdoaa", sum := "ad4d7ca8f5a4f1d92c5d71d1c5f3405f1f18ee0415551e0e4a0b94c2c0b04dc2", func := "loop.example/g03211/laws.FnExactPowElem", spec := "fnExactPowElem", unfollowed := true, recurses := true, apart := false }
def FnExactPowElemSaid : Prop := fnExactPowElemRow.holds Try.pinned (OpenSpec.ofChange fnExactPowElemSpec)

/-- ITS FALSE NEIGHBOUR: 'it returns false'. Refute it at one input. -/
def fnExactPowElemWrong : ChangeSpec := { name := "fnExactPowElem", fn := fun _ => fun
  | [d1, d2, d3] => { results := [.lit (.bool false)], args := [d1, d2, d3] }
  | _ => none }
def FnExactPowElemWrongFalsely : Prop := fnExactPowElemRow.holds Try.pinned (OpenSpec.ofChange fnExactPowElemWrong)

/-- 'laws.FnHoms': WHATEVER THE INPUT: true; the input reads as it did. -/
def fnHomsSpec : ChangeSpec := { name := "fnHoms", fn := fun _ => fun
  | [d] => { results := [.lit (.bool true)], args := [d] }
  | _ => none }
def fnHomsRow : OpenClaim := { program := "ytjkajbbipgmdoaa", sum := "ad4d7ca8f5a4f1d92c5d71d1c5f3405f1f18ee0415551e0e4a0b94c2c0b04dc2", func := "loop.example/g03211/laws.FnHoms", spec := "fnHoms", unfollowed := true, recurses := true, apart := false }
def FnHomsSaid : Prop := fnHomsRow.holds Try.pinned (OpenSpec.ofChange fnHomsSpec)

/-- ITS FALSE NEIGHBOUR: 'it returns false'. Refute it at one input. -/
def fnHomsWrong : ChangeSpec := { name := "fnHoms", fn := fun _ => fun
  | [d] => { results := [.lit (.bool false)], args := [d] }
  | _ => none }
def FnHomsWrongFalsely : Prop := fnHomsRow.holds Try.pinned (OpenSpec.ofChange fnHomsWrong)

/- THE SECOND FORM. 'bulk': how many values and letters a reading holds, each counted each time it is reached (what is shared counts as often as it is met; a slice's spare places count too). A statement '..UptoSaid' is the law's where the arguments, and the package variables that the reading takes, are together of bulk at most 1048576: NARROWER than '..Said'. Prove '..Said' where nothing that the law and all that it calls make is longer than what came in: it says more and counts as full. Else prove '..UptoSaid'. A law counts once. -/
mutual
def uptoBulk {H : Type} : DataW H → Nat
  | .lit (.string bytes) => bytes.length + 1
  | .lit _ => 1
  | .nil => 1
  | .ptr d => uptoBulk d + 1
  | .slice elems spare => uptoBulkAll elems + uptoBulkAll spare + 1
  | .agg parts => uptoBulkAll parts + 1
  | .iface _ d => uptoBulk d + 1
  | .map entries => uptoBulkEntries entries + 1
  | .held _ => 1
def uptoBulkAll {H : Type} : List (DataW H) → Nat
  | [] => 0
  | d :: r => uptoBulk d + uptoBulkAll r
def uptoBulkEntries {H : Type} : List (Lit × DataW H) → Nat
  | [] => 0
  | x :: r => uptoBulkEntry x + uptoBulkEntries r
def uptoBulkEntry {H : Type} : Lit × DataW H → Nat
  | (.string bytes, d) => bytes.length + uptoBulk d + 1
  | (_, d) => uptoBulk d + 1
 end
def uptoSmall : (H : Type) → List (DataW H) → Bool := fun _ ds => decide (uptoBulkAll ds ≤ 1048576)
def OpenSpec.upto (s : _root_.Go.ChangeSpec) : _root_.Go.OpenSpec := { _root_.Go.OpenSpec.ofChange s with cond := some uptoSmall }

/-- 'laws.FnExactHomOk', WHERE WHAT IT READS IS OF BULK AT MOST 1048576: true; the input reads as it did. -/
def fnExactHomOkUptoRow : OpenClaim := { program := "ytjkajbbipgmdoaa", sum := "ad4d7ca8f5a4f1d92c5d71d1c5f3405f1f18ee0415551e0e4a0b94c2c0b04dc2", func := "loop.example/g03211/laws.FnExactHomOk", spec := "fnExactHomOk", apart := false, narrowed := true }
def FnExactHomOkUptoSaid : Prop := fnExactHomOkUptoRow.holds Try.pinned (OpenSpec.upto fnExactHomOkSpec)

/-- 'laws.FnExactApplyHom', WHERE WHAT IT READS IS OF BULK AT MOST 1048576: true; the input reads as it did. -/
def fnExactApplyHomUptoRow : OpenClaim := { program := "ytjkajbbipgmdoaa", sum := "ad4d7ca8f5a4f1d92c5d71d1c5f3405f1f18ee0415551e0e4a0b94c2c0b04dc2", func := "loop.example/g03211/laws.FnExactApplyHom", spec := "fnExactApplyHom", unfollowed := true, recurses := true, apart := false, narrowed := true }
def FnExactApplyHomUptoSaid : Prop := fnExactApplyHomUptoRow.holds Try.pinned (OpenSpec.upto fnExactApplyHomSpec)

/-- 'laws.FnExactIsPrime', WHERE WHAT IT READS IS OF BULK AT MOST 1048576: true; the input reads as it did. -/
def fnExactIsPrimeUptoRow : OpenClaim := { program := "ytjkajbbipgmdoaa", sum := "ad4d7ca8f5a4f1d92c5d71d1c5f3405f1f18ee0415551e0e4a0b94c2c0b04dc2", func := "loop.example/g03211/laws.FnExactIsPrime", spec := "fnExactIsPrime", apart := false, narrowed := true }
def FnExactIsPrimeUptoSaid : Prop := fnExactIsPrimeUptoRow.holds Try.pinned (OpenSpec.upto fnExactIsPrimeSpec)

/-- 'laws.FnExactRingOk', WHERE WHAT IT READS IS OF BULK AT MOST 1048576: true; the input reads as it did. -/
def fnExactRingOkUptoRow : OpenClaim := { program := "ytjkajbbipgmdoaa", sum := "ad4d7ca8f5a4f1d92c5d71d1c5f3405f1f18ee0415551e0e4a0b94c2c0b04dc2", func := "loop.example/g03211/laws.FnExactRingOk", spec := "fnExactRingOk", apart := false, narrowed := true }
def FnExactRingOkUptoSaid : Prop := fnExactRingOkUptoRow.holds Try.pinned (OpenSpec.upto fnExactRingOkSpec)

/-- 'laws.FnExactRingWidth', WHERE WHAT IT READS IS OF BULK AT MOST 1048576: true; the input reads as it did. -/
def fnExactRingWidthUptoRow : OpenClaim := { program := "ytjkajbbipgmdoaa", sum := "ad4d7ca8f5a4f1d92c5d71d1c5f3405f1f18ee0415551e0e4a0b94c2c0b04dc2", func := "loop.example/g03211/laws.FnExactRingWidth", spec := "fnExactRingWidth", apart := false, narrowed := true }
def FnExactRingWidthUptoSaid : Prop := fnExactRingWidthUptoRow.holds Try.pinned (OpenSpec.upto fnExactRingWidthSpec)

/-- 'laws.FnExactElemOk', WHERE WHAT IT READS IS OF BULK AT MOST 1048576: true; the input reads as it did. -/
def fnExactElemOkUptoRow : OpenClaim := { program := "ytjkajbbipgmdoaa", sum := "ad4d7ca8f5a4f1d92c5d71d1c5f3405f1f18ee0415551e0e4a0b94c2c0b04dc2", func := "loop.example/g03211/laws.FnExactElemOk", spec := "fnExactElemOk", apart := false, narrowed := true }
def FnExactElemOkUptoSaid : Prop := fnExactElemOkUptoRow.holds Try.pinned (OpenSpec.upto fnExactElemOkSpec)

/-- 'laws.FnExactZeroOf', WHERE WHAT IT READS IS OF BULK AT MOST 1048576: true; the input reads as it did. -/
def fnExactZeroOfUptoRow : OpenClaim := { program := "ytjkajbbipgmdoaa", sum := "ad4d7ca8f5a4f1d92c5d71d1c5f3405f1f18ee0415551e0e4a0b94c2c0b04dc2", func := "loop.example/g03211/laws.FnExactZeroOf", spec := "fnExactZeroOf", apart := false, narrowed := true }
def FnExactZeroOfUptoSaid : Prop := fnExactZeroOfUptoRow.holds Try.pinned (OpenSpec.upto fnExactZeroOfSpec)

/-- 'laws.FnExactOneOf', WHERE WHAT IT READS IS OF BULK AT MOST 1048576: true; the input reads as it did. -/
def fnExactOneOfUptoRow : OpenClaim := { program := "ytjkajbbipgmdoaa", sum := "ad4d7ca8f5a4f1d92c5d71d1c5f3405f1f18ee0415551e0e4a0b94c2c0b04dc2", func := "loop.example/g03211/laws.FnExactOneOf", spec := "fnExactOneOf", apart := false, narrowed := true }
def FnExactOneOfUptoSaid : Prop := fnExactOneOfUptoRow.holds Try.pinned (OpenSpec.upto fnExactOneOfSpec)

/-- 'laws.FnExactAddElem', WHERE WHAT IT READS IS OF BULK AT MOST 1048576: true; the input reads as it did. -/
def fnExactAddElemUptoRow : OpenClaim := { program := "ytjkajbbipgmdoaa", sum := "ad4d7ca8f5a4f1d92c5d71d1c5f3405f1f18ee0415551e0e4a0b94c2c0b04dc2", func := "loop.example/g03211/laws.FnExactAddElem", spec := "fnExactAddElem", apart := false, narrowed := true }
def FnExactAddElemUptoSaid : Prop := fnExactAddElemUptoRow.holds Try.pinned (OpenSpec.upto fnExactAddElemSpec)

/-- 'laws.FnExactMulElem', WHERE WHAT IT READS IS OF BULK AT MOST 1048576: true; the input reads as it did. -/
def fnExactMulElemUptoRow : OpenClaim := { program := "ytjkajbbipgmdoaa", sum := "ad4d7ca8f5a4f1d92c5d71d1c5f3405f1f18ee0415551e0e4a0b94c2c0b04dc2", func := "loop.example/g03211/laws.FnExactMulElem", spec := "fnExactMulElem", apart := false, narrowed := true }
def FnExactMulElemUptoSaid : Prop := fnExactMulElemUptoRow.holds Try.pinned (OpenSpec.upto fnExactMulElemSpec)

/-- 'laws.FnExactSumElems', WHERE WHAT IT READS IS OF BULK AT MOST 1048576: true; the input reads as it did. -/
def fnExactSumElemsUptoRow : OpenClaim := { program := "ytjkajbbipgmdoaa", sum := "ad4d7ca8f5a4f1d92c5d71d1c5f3405f1f18ee0415551e0e4a0b94c2c0b04dc2", func := "loop.example/g03211/laws.FnExactSumElems", spec := "fnExactSumElems", apart := false, narrowed := true }
def FnExactSumElemsUptoSaid : Prop := fnExactSumElemsUptoRow.holds Try.pinned (OpenSpec.upto fnExactSumElemsSpec)

/-- 'laws.FnExactCountElem', WHERE WHAT IT READS IS OF BULK AT MOST 1048576: true; the input reads as it did. -/
def fnExactCountElemUptoRow : OpenClaim := { program := "ytjkajbbipgmdoaa", sum := "ad4d7ca8f5a4f1d92c5d71d1c5f3405f1f18ee0415551e0e4a0b94c2c0b04dc2", func := "loop.example/g03211/laws.FnExactCountElem", spec := "fnExactCountElem", unfollowed := true, recurses := true, apart := false, narrowed := true }
def FnExactCountElemUptoSaid : Prop := fnExactCountElemUptoRow.holds Try.pinned (OpenSpec.upto fnExactCountElemSpec)

/-- 'laws.FnExactPowElem', WHERE WHAT IT READS IS OF BULK AT MOST 1048576: true; the input reads as it did. -/
def fnExactPowElemUptoRow : OpenClaim := { program := "ytjkajbbipgmdoaa", sum := "ad4d7ca8f5a4f1d92c5d71d1c5f3405f1f18ee0415551e0e4a0b94c2c0b04dc2", func := "loop.example/g03211/laws.FnExactPowElem", spec := "fnExactPowElem", unfollowed := true, recurses := true, apart := false, narrowed := true }
def FnExactPowElemUptoSaid : Prop := fnExactPowElemUptoRow.holds Try.pinned (OpenSpec.upto fnExactPowElemSpec)

/-- 'laws.FnHoms', WHERE WHAT IT READS IS OF BULK AT MOST 1048576: true; the input reads as it did. -/
def fnHomsUptoRow : OpenClaim := { program := "ytjkajbbipgmdoaa", sum := "ad4d7ca8f5a4f1d92c5d71d1c5f3405f1f18ee0415551e0e4a0b94c2c0b04dc2", func := "loop.example/g03211/laws.FnHoms", spec := "fnHoms", unfollowed := true, recurses := true, apart := false, narrowed := true }
def FnHomsUptoSaid : Prop := fnHomsUptoRow.holds Try.pinned (OpenSpec.upto fnHomsSpec)

end Rows
end Go.Proofs.Ytjkajbbipgmdoaa
