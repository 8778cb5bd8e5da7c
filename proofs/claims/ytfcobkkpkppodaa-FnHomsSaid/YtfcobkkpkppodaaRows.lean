/-
  No cell of these rows narrows 'for every input' (looked for: loops, veiled, ifaces, maps, wideKeys, modest, calm, conditions, laid).
  DERIVED. THE GIVEN ROWS OF THIS SEAT. 13 by the template 'for every input the law returns true; each argument reads behind the call as it read before'; 0 by the template 'total and deterministic' (their statements: YtfcobkkpkppodaaTotals.lean).
  GIVEN WITH THE SEED: the statements are not yours to turn. If you find one false, say at which input.
  Laid BY PROGRAM, IN A SANDBOX (cutbox-rows.mjs): the forced cells as the released guide's own fill.sh prints them over the translation f1e3a1c85a880ded… (all of the seat's roots in one cut). By AI agents, Wed Nov 11 2026. No macro, syntax, notation, axiom, sorry.
-/
import Derived.Test.YtfcobkkpkppodaaChecked
import GoSem.Claim
import GoSem.ClaimJoined
import GoSem.ClaimMapViews
import Derived.JoinedTies
import Derived.KernelRfl
namespace Go.Proofs.Ytfcobkkpkppodaa
/- THE CELL 'sum', in the pinned program and in every row, IS THE sha256 OF THE DUMP (.gsa) THAT YtfcobkkpkppodaaProg.lean LOADS. Nothing in Lean hashes anything: it is a label: what it is worth is what the hold of that sum in a sandbox is worth. -/
noncomputable def Try.pinned : Pinned := { name := "ytfcobkkpkppodaa", sum := "f1e3a1c85a880ded4f171d4b372c834f11d5123b5daafb3d641998502ad7996a", checked := Try.checked }
namespace Rows
def none {H : Type} : Left H := { results := [], args := [] }

/-- 'laws.FnExactElemOk': WHATEVER THE INPUT: true; the input reads as it did. -/
def fnExactElemOkSpec : ChangeSpec := { name := "fnExactElemOk", fn := fun _ => fun
  | [d1, d2] => { results := [.lit (.bool true)], args := [d1, d2] }
  | _ => none }
def fnExactElemOkRow : OpenClaim := { program := "ytfcobkkpkppodaa", sum := "f1e3a1c85a880ded4f171d4b372c834f11d5123b5daafb3d641998502ad7996a", func := "loop.example/g03211/laws.FnExactElemOk", spec := "fnExactElemOk", unfollowed := true, recurses := true, apart := false }
def FnExactElemOkSaid : Prop := fnExactElemOkRow.holds Try.pinned (OpenSpec.ofChange fnExactElemOkSpec)

/-- ITS FALSE NEIGHBOUR: 'it returns false'. Refute it at one input. -/
def fnExactElemOkWrong : ChangeSpec := { name := "fnExactElemOk", fn := fun _ => fun
  | [d1, d2] => { results := [.lit (.bool false)], args := [d1, d2] }
  | _ => none }
def FnExactElemOkWrongFalsely : Prop := fnExactElemOkRow.holds Try.pinned (OpenSpec.ofChange fnExactElemOkWrong)

/-- 'laws.FnExactZeroOf': WHATEVER THE INPUT: true; the input reads as it did. -/
def fnExactZeroOfSpec : ChangeSpec := { name := "fnExactZeroOf", fn := fun _ => fun
  | [d] => { results := [.lit (.bool true)], args := [d] }
  | _ => none }
def fnExactZeroOfRow : OpenClaim := { program := "ytfcobkkpkppodaa", sum := "f1e3a1c85a880ded4f171d4b372c834f11d5123b5daafb3d641998502ad7996a", func := "loop.example/g03211/laws.FnExactZeroOf", spec := "fnExactZeroOf", apart := false }
def FnExactZeroOfSaid : Prop := fnExactZeroOfRow.holds Try.pinned (OpenSpec.ofChange fnExactZeroOfSpec)

/-- ITS FALSE NEIGHBOUR: 'it returns false'. Refute it at one input. -/
def fnExactZeroOfWrong : ChangeSpec := { name := "fnExactZeroOf", fn := fun _ => fun
  | [d] => { results := [.lit (.bool false)], args := [d] }
  | _ => none }
def FnExactZeroOfWrongFalsely : Prop := fnExactZeroOfRow.holds Try.pinned (OpenSpec.ofChange fnExactZeroOfWrong)

/-- 'laws.FnExactOneOf': WHATEVER THE INPUT: true; the input reads as it did. -/
def fnExactOneOfSpec : ChangeSpec := { name := "fnExactOneOf", fn := fun _ => fun
  | [d] => { results := [.lit (.bool true)], args := [d] }
  | _ => none }
def fnExactOneOfRow : OpenClaim := { program := "ytfcobkkpkppodaa", sum := "f1e3a1c85a880ded4f171d4b372c834f11d5123b5daafb3d641998502ad7996a", func := "loop.example/g03211/laws.FnExactOneOf", spec := "fnExactOneOf", apart := false }
def FnExactOneOfSaid : Prop := fnExactOneOfRow.holds Try.pinned (OpenSpec.ofChange fnExactOneOfSpec)

/-- ITS FALSE NEIGHBOUR: 'it returns false'. Refute it at one input. -/
def fnExactOneOfWrong : ChangeSpec := { name := "fnExactOneOf", fn := fun _ => fun
  | [d] => { results := [.lit (.bool false)], args := [d] }
  | _ => none }
def FnExactOneOfWrongFalsely : Prop := fnExactOneOfRow.holds Try.pinned (OpenSpec.ofChange fnExactOneOfWrong)

/-- 'laws.FnExactAddElem': WHATEVER THE INPUT: true; the input reads as it did. -/
def fnExactAddElemSpec : ChangeSpec := { name := "fnExactAddElem", fn := fun _ => fun
  | [d1, d2, d3] => { results := [.lit (.bool true)], args := [d1, d2, d3] }
  | _ => none }
def fnExactAddElemRow : OpenClaim := { program := "ytfcobkkpkppodaa", sum := "f1e3a1c85a880ded4f171d4b372c834f11d5123b5daafb3d641998502ad7996a", func := "loop.example/g03211/laws.FnExactAddElem", spec := "fnExactAddElem", unfollowed := true, recurses := true, apart := false }
def FnExactAddElemSaid : Prop := fnExactAddElemRow.holds Try.pinned (OpenSpec.ofChange fnExactAddElemSpec)

/-- ITS FALSE NEIGHBOUR: 'it returns false'. Refute it at one input. -/
def fnExactAddElemWrong : ChangeSpec := { name := "fnExactAddElem", fn := fun _ => fun
  | [d1, d2, d3] => { results := [.lit (.bool false)], args := [d1, d2, d3] }
  | _ => none }
def FnExactAddElemWrongFalsely : Prop := fnExactAddElemRow.holds Try.pinned (OpenSpec.ofChange fnExactAddElemWrong)

/-- 'laws.FnExactMulElem': WHATEVER THE INPUT: true; the input reads as it did. -/
def fnExactMulElemSpec : ChangeSpec := { name := "fnExactMulElem", fn := fun _ => fun
  | [d1, d2, d3] => { results := [.lit (.bool true)], args := [d1, d2, d3] }
  | _ => none }
def fnExactMulElemRow : OpenClaim := { program := "ytfcobkkpkppodaa", sum := "f1e3a1c85a880ded4f171d4b372c834f11d5123b5daafb3d641998502ad7996a", func := "loop.example/g03211/laws.FnExactMulElem", spec := "fnExactMulElem", unfollowed := true, recurses := true, apart := false }
def FnExactMulElemSaid : Prop := fnExactMulElemRow.holds Try.pinned (OpenSpec.ofChange fnExactMulElemSpec)

/-- ITS FALSE NEIGHBOUR: 'it returns false'. Refute it at one input. -/
def fnExactMulElemWrong : ChangeSpec := { name := "fnExactMulElem", fn := fun _ => fun
  | [d1, d2, d3] => { results := [.lit (.bool false)], args := [d1, d2, d3] }
  | _ => none }
def FnExactMulElemWrongFalsely : Prop := fnExactMulElemRow.holds Try.pinned (OpenSpec.ofChange fnExactMulElemWrong)

/-- 'laws.FnExactSumElems': WHATEVER THE INPUT: true; the input reads as it did. -/
def fnExactSumElemsSpec : ChangeSpec := { name := "fnExactSumElems", fn := fun _ => fun
  | [d1, d2] => { results := [.lit (.bool true)], args := [d1, d2] }
  | _ => none }
def fnExactSumElemsRow : OpenClaim := { program := "ytfcobkkpkppodaa", sum := "f1e3a1c85a880ded4f171d4b372c834f11d5123b5daafb3d641998502ad7996a", func := "loop.example/g03211/laws.FnExactSumElems", spec := "fnExactSumElems", unfollowed := true, recurses := true, apart := false }
def FnExactSumElemsSaid : Prop := fnExactSumElemsRow.holds Try.pinned (OpenSpec.ofChange fnExactSumElemsSpec)

/-- ITS FALSE NEIGHBOUR: 'it returns false'. Refute it at one input. -/
def fnExactSumElemsWrong : ChangeSpec := { name := "fnExactSumElems", fn := fun _ => fun
  | [d1, d2] => { results := [.lit (.bool false)], args := [d1, d2] }
  | _ => none }
def FnExactSumElemsWrongFalsely : Prop := fnExactSumElemsRow.holds Try.pinned (OpenSpec.ofChange fnExactSumElemsWrong)

/-- 'laws.FnExactCountElem': WHATEVER THE INPUT: true; the input reads as it did. -/
def fnExactCountElemSpec : ChangeSpec := { name := "fnExactCountElem", fn := fun _ => fun
  | [d1, d2] => { results := [.lit (.bool true)], args := [d1, d2] }
  | _ => none }
def fnExactCountElemRow : OpenClaim := { program := "ytfcobkkpkppodaa", sum := "f1e3a1c85a880ded4f171d4b372c834f11d5123b5daafb3d641998502ad7996a", func := "loop.example/g03211/laws.FnExactCountElem", spec := "fnExactCountElem", unfollowed := true, recurses := true, apart := false }
def FnExactCountElemSaid : Prop := fnExactCountElemRow.holds Try.pinned (OpenSpec.ofChange fnExactCountElemSpec)

/-- ITS FALSE NEIGHBOUR: 'it returns false'. Refute it at one input. -/
def fnExactCountElemWrong : ChangeSpec := { name := "fnExactCountElem", fn := fun _ => fun
  | [d1, d2] => { results := [.lit (.bool false)], args := [d1, d2] }
  | _ => none }
def FnExactCountElemWrongFalsely : Prop := fnExactCountElemRow.holds Try.pinned (OpenSpec.ofChange fnExactCountElemWrong)

/-- 'laws.FnExactPowElem': WHATEVER THE INPUT: true; the input reads as it did. -/
def fnExactPowElemSpec : ChangeSpec := { name := "fnExactPowElem", fn := fun _ => fun
  | [d1, d2, d3] => { results := [.lit (.bool true)], args := [d1, d2, d3] }
  | _ => none }
def fnExactPowElemRow : OpenClaim := { program := "ytfcobkkpkppodaa", sum := "f1e3a1c85a880ded4f171d4b372c834f11d5123b5daafb3d641998502ad7996a", func := "loop.example/g03211/laws.FnExactPowElem", spec := "fnExactPowElem", unfollowed := true, recurses := true, apart := false }
def FnExactPowElemSaid : Prop := fnExactPowElemRow.holds Try.pinned (OpenSpec.ofChange fnExactPowElemSpec)

/-- ITS FALSE NEIGHBOUR: 'it returns false'. Refute it at one input. -/
def fnExactPowElemWrong : ChangeSpec := { name := "fnExactPowElem", fn := fun _ => fun
  | [d1, d2, d3] => { results := [.lit (.bool false)], args := [d1, d2, d3] }
  | _ => none }
def FnExactPowElemWrongFalsely : Prop := fnExactPowElemRow.holds Try.pinned (OpenSpec.ofChange fnExactPowElemWrong)

/-- 'laws.FnExactHomOk': WHATEVER THE INPUT: true; the input reads as it did. -/
def fnExactHomOkSpec : ChangeSpec := { name := "fnExactHomOk", fn := fun _ => fun
  | [d1, d2, d3] => { results := [.lit (.bool true)], args := [d1, d2, d3] }
  | _ => none }
def fnExactHomOkRow : OpenClaim := { program := "ytfcobkkpkppodaa", sum := "f1e3a1c85a880ded4f171d4b372c834f11d5123b5daafb3d641998502ad7996a", func := "loop.example/g03211/laws.FnExactHomOk", spec := "fnExactHomOk", apart := false }
def FnExactHomOkSaid : Prop := fnExactHomOkRow.holds Try.pinned (OpenSpec.ofChange fnExactHomOkSpec)

/-- ITS FALSE NEIGHBOUR: 'it returns false'. Refute it at one input. -/
def fnExactHomOkWrong : ChangeSpec := { name := "fnExactHomOk", fn := fun _ => fun
  | [d1, d2, d3] => { results := [.lit (.bool false)], args := [d1, d2, d3] }
  | _ => none }
def FnExactHomOkWrongFalsely : Prop := fnExactHomOkRow.holds Try.pinned (OpenSpec.ofChange fnExactHomOkWrong)

/-- 'laws.FnExactApplyHom': WHATEVER THE INPUT: true; the input reads as it did. -/
def fnExactApplyHomSpec : ChangeSpec := { name := "fnExactApplyHom", fn := fun _ => fun
  | [d1, d2, d3, d4] => { results := [.lit (.bool true)], args := [d1, d2, d3, d4] }
  | _ => none }
def fnExactApplyHomRow : OpenClaim := { program := "ytfcobkkpkppodaa", sum := "f1e3a1c85a880ded4f171d4b372c834f11d5123b5daafb3d641998502ad7996a", func := "loop.example/g03211/laws.FnExactApplyHom", spec := "fnExactApplyHom", unfollowed := true, recurses := true, apart := false }
def FnExactApplyHomSaid : Prop := fnExactApplyHomRow.holds Try.pinned (OpenSpec.ofChange fnExactApplyHomSpec)

/-- ITS FALSE NEIGHBOUR: 'it returns false'. Refute it at one input. -/
def fnExactApplyHomWrong : ChangeSpec := { name := "fnExactApplyHom", fn := fun _ => fun
  | [d1, d2, d3, d4] => { results := [.lit (.bool false)], args := [d1, d2, d3, d4] }
  | _ => none }
def FnExactApplyHomWrongFalsely : Prop := fnExactApplyHomRow.holds Try.pinned (OpenSpec.ofChange fnExactApplyHomWrong)

/-- 'laws.FnRings': WHATEVER THE INPUT: true; the input reads as it did. -/
def fnRingsSpec : ChangeSpec := { name := "fnRings", fn := fun _ => fun
  | [d] => { results := [.lit (.bool true)], args := [d] }
  | _ => none }
def fnRingsRow : OpenClaim := { program := "ytfcobkkpkppodaa", sum := "f1e3a1c85a880ded4f171d4b372c834f11d5123b5daafb3d641998502ad7996a", func := "loop.example/g03211/laws.FnRings", spec := "fnRings", unfollowed := true, recurses := true, apart := false }
def FnRingsSaid : Prop := fnRingsRow.holds Try.pinned (OpenSpec.ofChange fnRingsSpec)

/-- ITS FALSE NEIGHBOUR: 'it returns false'. Refute it at one input. -/
def fnRingsWrong : ChangeSpec := { name := "fnRings", fn := fun _ => fun
  | [d] => { results := [.lit (.bool false)], args := [d] }
  | _ => none }
def FnRingsWrongFalsely : Prop := fnRingsRow.holds Try.pinned (OpenSpec.ofChange fnRingsWrong)

/-- 'laws.FnCounts': WHATEVER THE INPUT: true; the input reads as it did. -/
def fnCountsSpec : ChangeSpec := { name := "fnCounts", fn := fun _ => fun
  | [d] => { results := [.lit (.bool true)], args := [d] }
  | _ => none }
def fnCountsRow : OpenClaim := { program := "ytfcobkkpkppodaa", sum := "f1e3a1c85a880ded4f171d4b372c834f11d5123b5daafb3d641998502ad7996a", func := "loop.example/g03211/laws.FnCounts", spec := "fnCounts", unfollowed := true, recurses := true, apart := false }
def FnCountsSaid : Prop := fnCountsRow.holds Try.pinned (OpenSpec.ofChange fnCountsSpec)

/-- ITS FALSE NEIGHBOUR: 'it returns false'. Refute it at one input. -/
def fnCountsWrong : ChangeSpec := { name := "fnCounts", fn := fun _ => fun
  | [d] => { results := [.lit (.bool false)], args := [d] }
  | _ => none }
def FnCountsWrongFalsely : Prop := fnCountsRow.holds Try.pinned (OpenSpec.ofChange fnCountsWrong)

/-- 'laws.FnHoms': WHATEVER THE INPUT: true; the input reads as it did. -/
def fnHomsSpec : ChangeSpec := { name := "fnHoms", fn := fun _ => fun
  | [d] => { results := [.lit (.bool true)], args := [d] }
  | _ => none }
def fnHomsRow : OpenClaim := { program := "ytfcobkkpkppodaa", sum := "f1e3a1c85a880ded4f171d4b372c834f11d5123b5daafb3d641998502ad7996a", func := "loop.example/g03211/laws.FnHoms", spec := "fnHoms", unfollowed := true, recurses := true, apart := false }
def FnHomsSaid : Prop := fnHomsRow.holds Try.pinned (OpenSpec.ofChange fnHomsSpec)

/-- ITS FALSE NEIGHBOUR: 'it returns false'. Refute it at one input. -/
def fnHomsWrong : ChangeSpec := { name := "fnHoms", fn := fun _ => fun
  | [d] => { results := [.lit (.bool false)], args := [d] }
  | _ => none }
def FnHomsWrongFalsely : Prop := fnHomsRow.holds Try.pinned (OpenSpec.ofChange fnHomsWrong)

/- THE SECOND FORM. 'bulk': how many values and letters a reading holds, each counted each time it is reached (what is shared counts as often as it is met; a slice's spare places count too). A statement '..UptoSaid' is the law's where the arguments, and the package variables that the reading takes, are together of bulk at most 1048576: NARROWER than '..Said'. Prove '..Said' where nothing that the law and all that it calls make is longer than what came in: it says more and counts as full. Else prove '..UptoSaid'. A law counts once. -/
mutual
def uptoBulk {H : Type} : DataW H → Nat
  | .lit (.string bytes) => bytes.length + 1
  | .lit _ => 1
  | .nil => 1
  | .ptr d => uptoBulk d + 1
  | .slice elems spare => uptoBulkAll elems + uptoBulkAll spare + 1
  | .agg parts => uptoBulkAll parts + 1
  | .iface _ d => uptoBulk d + 1
  | .map entries => uptoBulkEntries entries + 1
  | .held _ => 1
def uptoBulkAll {H : Type} : List (DataW H) → Nat
  | [] => 0
  | d :: r => uptoBulk d + uptoBulkAll r
def uptoBulkEntries {H : Type} : List (Lit × DataW H) → Nat
  | [] => 0
  | x :: r => uptoBulkEntry x + uptoBulkEntries r
def uptoBulkEntry {H : Type} : Lit × DataW H → Nat
  | (.string bytes, d) => bytes.length + uptoBulk d + 1
  | (_, d) => uptoBulk d + 1
 end
def uptoSmall : (H : Type) → List (DataW H) → Bool := fun _ ds => decide (uptoBulkAll ds ≤ 1048576)
def OpenSpec.upto (s : _root_.Go.ChangeSpec) : _root_.Go.OpenSpec := { _root_.Go.OpenSpec.ofChange s with cond := some uptoSmall }

/-- 'laws.FnExactElemOk', WHERE WHAT IT READS IS OF BULK AT MOST 1048576: true; the input reads as it did. -/
def fnExactElemOkUptoRow : OpenClaim := { program := "ytfcobkkpkppodaa", sum := "f1e3a1c85a880ded4f171d4b372c834f11d5123b5daafb3d641998502ad7996a", func := "loop.example/g03211/laws.FnExactElemOk", spec := "fnExactElemOk", unfollowed := true, recurses := true, apart := false, narrowed := true }
def FnExactElemOkUptoSaid : Prop := fnExactElemOkUptoRow.holds Try.pinned (OpenSpec.upto fnExactElemOkSpec)

/-- 'laws.FnExactZeroOf', WHERE WHAT IT READS IS OF BULK AT MOST 1048576: true; the input reads as it did. -/
def fnExactZeroOfUptoRow : OpenClaim := { program := "ytfcobkkpkppodaa", sum := "f1e3a1c85a880ded4f171d4b372c834f11d5123b5daafb3d641998502ad7996a", func := "loop.example/g03211/laws.FnExactZeroOf", spec := "fnExactZeroOf", apart := false, narrowed := true }
def FnExactZeroOfUptoSaid : Prop := fnExactZeroOfUptoRow.holds Try.pinned (OpenSpec.upto fnExactZeroOfSpec)

/-- 'laws.FnExactOneOf', WHERE WHAT IT READS IS OF BULK AT MOST 1048576: true; the input reads as it did. -/
def fnExactOneOfUptoRow : OpenClaim := { program := "ytfcobkkpkppodaa", sum := "f1e3a1c85a880ded4f171d4b372c834f11d5123b5daafb3d641998502ad7996a", func := "loop.example/g03211/laws.FnExactOneOf", spec := "fnExactOneOf", apart := false, narrowed := true }
def FnExactOneOfUptoSaid : Prop := fnExactOneOfUptoRow.holds Try.pinned (OpenSpec.upto fnExactOneOfSpec)

/-- 'laws.FnExactAddElem', WHERE WHAT IT READS IS OF BULK AT MOST 1048576: true; the input reads as it did. -/
def fnExactAddElemUptoRow : OpenClaim := { program := "ytfcobkkpkppodaa", sum := "f1e3a1c85a880ded4f171d4b372c834f11d5123b5daafb3d641998502ad7996a", func := "loop.example/g03211/laws.FnExactAddElem", spec := "fnExactAddElem", unfollowed := true, recurses := true, apart := false, narrowed := true }
def FnExactAddElemUptoSaid : Prop := fnExactAddElemUptoRow.holds Try.pinned (OpenSpec.upto fnExactAddElemSpec)

/-- 'laws.FnExactMulElem', WHERE WHAT IT READS IS OF BULK AT MOST 1048576: true; the input reads as it did. -/
def fnExactMulElemUptoRow : OpenClaim := { program := "ytfcobkkpkppodaa", sum := "f1e3a1c85a880ded4f171d4b372c834f11d5123b5daafb3d641998502ad7996a", func := "loop.example/g03211/laws.FnExactMulElem", spec := "fnExactMulElem", unfollowed := true, recurses := true, apart := false, narrowed := true }
def FnExactMulElemUptoSaid : Prop := fnExactMulElemUptoRow.holds Try.pinned (OpenSpec.upto fnExactMulElemSpec)

/-- 'laws.FnExactSumElems', WHERE WHAT IT READS IS OF BULK AT MOST 1048576: true; the input reads as it did. -/
def fnExactSumElemsUptoRow : OpenClaim := { program := "ytfcobkkpkppodaa", sum := "f1e3a1c85a880ded4f171d4b372c834f11d5123b5daafb3d641998502ad7996a", func := "loop.example/g03211/laws.FnExactSumElems", spec := "fnExactSumElems", unfollowed := true, recurses := true, apart := false, narrowed := true }
def FnExactSumElemsUptoSaid : Prop := fnExactSumElemsUptoRow.holds Try.pinned (OpenSpec.upto fnExactSumElemsSpec)

/-- 'laws.FnExactCountElem', WHERE WHAT IT READS IS OF BULK AT MOST 1048576: true; the input reads as it did. -/
def fnExactCountElemUptoRow : OpenClaim := { program := "ytfcobkkpkppodaa", sum := "f1e3a1c85a880ded4f171d4b372c834f11d5123b5daafb3d641998502ad7996a", func := "loop.example/g03211/laws.FnExactCountElem", spec := "fnExactCountElem", unfollowed := true, recurses := true, apart := false, narrowed := true }
def FnExactCountElemUptoSaid : Prop := fnExactCountElemUptoRow.holds Try.pinned (OpenSpec.upto fnExactCountElemSpec)

/-- 'laws.FnExactPowElem', WHERE WHAT IT READS IS OF BULK AT MOST 1048576: true; the input reads as it did. -/
def fnExactPowElemUptoRow : OpenClaim := { program := "ytfcobkkpkppodaa", sum := "f1e3a1c85a880ded4f171d4b372c834f11d5123b5daafb3d641998502ad7996a", func := "loop.example/g03211/laws.FnExactPowElem", spec := "fnExactPowElem", unfollowed := true, recurses := true, apart := false, narrowed := true }
def FnExactPowElemUptoSaid : Prop := fnExactPowElemUptoRow.holds Try.pinned (OpenSpec.upto fnExactPowElemSpec)

/-- 'laws.FnExactHomOk', WHERE WHAT IT READS IS OF BULK AT MOST 1048576: true; the input reads as it did. -/
def fnExactHomOkUptoRow : OpenClaim := { program := "ytfcobkkpkppodaa", sum := "f1e3a1c85a880ded4f171d4b372c834f11d5123b5daafb3d641998502ad7996a", func := "loop.example/g03211/laws.FnExactHomOk", spec := "fnExactHomOk", apart := false, narrowed := true }
def FnExactHomOkUptoSaid : Prop := fnExactHomOkUptoRow.holds Try.pinned (OpenSpec.upto fnExactHomOkSpec)

/-- 'laws.FnExactApplyHom', WHERE WHAT IT READS IS OF BULK AT MOST 1048576: true; the input reads as it did. -/
def fnExactApplyHomUptoRow : OpenClaim := { program := "ytfcobkkpkppodaa", sum := "f1e3a1c85a880ded4f171d4b372c834f11d5123b5daafb3d641998502ad7996a", func := "loop.example/g03211/laws.FnExactApplyHom", spec := "fnExactApplyHom", unfollowed := true, recurses := true, apart := false, narrowed := true }
def FnExactApplyHomUptoSaid : Prop := fnExactApplyHomUptoRow.holds Try.pinned (OpenSpec.upto fnExactApplyHomSpec)

/-- 'laws.FnRings', WHERE WHAT IT READS IS OF BULK AT MOST 1048576: true; the input reads as it did. -/
def fnRingsUptoRow : OpenClaim := { program := "ytfcobkkpkppodaa", sum := "f1e3a1c85a880ded4f171d4b372c834f11d5123b5daafb3d641998502ad7996a", func := "loop.example/g03211/laws.FnRings", spec := "fnRings", unfollowed := true, recurses := true, apart := false, narrowed := true }
def FnRingsUptoSaid : Prop := fnRingsUptoRow.holds Try.pinned (OpenSpec.upto fnRingsSpec)

/-- 'laws.FnCounts', WHERE WHAT IT READS IS OF BULK AT MOST 1048576: true; the input reads as it did. -/
def fnCountsUptoRow : OpenClaim := { program := "ytfcobkkpkppodaa", sum := "f1e3a1c85a880ded4f171d4b372c834f11d5123b5daafb3d641998502ad7996a", func := "loop.example/g03211/laws.FnCounts", spec := "fnCounts", unfollowed := true, recurses := true, apart := false, narrowed := true }
def FnCountsUptoSaid : Prop := fnCountsUptoRow.holds Try.pinned (OpenSpec.upto fnCountsSpec)

/-- 'laws.FnHoms', WHERE WHAT IT READS IS OF BULK AT MOST 1048576: true; the input reads as it did. -/
def fnHomsUptoRow : OpenClaim := { program := "ytfcobkkpkppodaa", sum := "f1e3a1c85a880ded4f171d4b372c834f11d5123b5daafb3d641998502ad7996a", func := "loop.example/g03211/laws.FnHoms", spec := "fnHoms", unfollowed := true, recurses := true, apart := false, narrowed := true }
def FnHomsUptoSaid : Prop := fnHomsUptoRow.holds Try.pinned (OpenSpec.upto fnHomsSpec)

end Rows
end Go.Proofs.Ytfcobkkpkppodaa
