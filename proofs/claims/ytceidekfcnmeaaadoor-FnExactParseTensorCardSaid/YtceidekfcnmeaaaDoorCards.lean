/-
  DERIVED. GIVEN WITH THE SEED: THE CARDS: each row of YtceidekfcnmeaaaDoorRows.lean that lists a variable, with what it lists TIED to the program's text (the seventh form; the later family's looks); each row that meets fmt, with fmt's text TOLD by the authors' own Lean function (tested against real Go, not proved from fmt's source: count such statements apart). THE CARD IS WHAT COUNTS. Prove the row's statement (the work); the ties are given (YtceidekfcnmeaaaDoorTie.lean); close each card by the builder's one call (the guide's Derived/Test/ToyasCard.lean, 'card_holds'). Laid BY PROGRAM, IN A SANDBOX (cutbox-door.mjs). By AI agents, Wed Nov 11 2026. No macro, syntax, notation, axiom, sorry.
-/
import Derived.Test.YtceidekfcnmeaaaDoorRows
import GoSem.ClaimSeven
namespace Go.Proofs.YtceidekfcnmeaaaDoor
namespace Rows

/-- THE TIED CARD OF 'laws.FnExactFormatElem'. -/
def fnExactFormatElemCard : Claim7 := { stood := { row := fnExactFormatElemRow, standIns := [], harness := (true, "36ea66de3a82ee257665a59789e63cc58b9d276f310fb038513a9c3f8f8ddb12"), looks := true }, kinds := [], alts := [], laidByText := true, laidKinds := [.data, .data, .data], laidTests := true, laidLooks := .later }
def FnExactFormatElemCardSaid : Prop := Claim7.holds Tryd.pinned (.plain (OpenSpec.ofChange fnExactFormatElemSpec)) fnExactFormatElemCard

/-- THE TIED CARD OF 'laws.FnExactFormatTensor'. -/
def fnExactFormatTensorCard : Claim7 := { stood := { row := fnExactFormatTensorRow, standIns := [], harness := (true, "36ea66de3a82ee257665a59789e63cc58b9d276f310fb038513a9c3f8f8ddb12"), looks := true }, kinds := [], alts := [], laidByText := true, laidKinds := [.data, .data, .data], laidTests := true, laidLooks := .later }
def FnExactFormatTensorCardSaid : Prop := Claim7.holds Tryd.pinned (.plain (OpenSpec.ofChange fnExactFormatTensorSpec)) fnExactFormatTensorCard

/-- THE TIED CARD OF 'laws.FnExactParseTensor'. -/
def fnExactParseTensorCard : Claim7 := { stood := { row := fnExactParseTensorRow, standIns := [], harness := (true, "36ea66de3a82ee257665a59789e63cc58b9d276f310fb038513a9c3f8f8ddb12"), looks := true }, kinds := [], alts := [], laidByText := true, laidKinds := [.data, .data, .data, .sentinel, .sentinel], laidTests := true, laidLooks := .later }
def FnExactParseTensorCardSaid : Prop := Claim7.holds Tryd.pinned (.plain (OpenSpec.ofChange fnExactParseTensorSpec)) fnExactParseTensorCard

/-- THE SECOND FORM's CARD OF 'laws.FnExactFormatElem'. -/
def fnExactFormatElemUptoCard : Claim7 := { stood := { row := fnExactFormatElemUptoRow, standIns := [], harness := (true, "36ea66de3a82ee257665a59789e63cc58b9d276f310fb038513a9c3f8f8ddb12"), looks := true }, kinds := [], alts := [], laidByText := true, laidKinds := [.data, .data, .data], laidTests := true, laidLooks := .later }
def FnExactFormatElemUptoCardSaid : Prop := Claim7.holds Tryd.pinned (.plain (OpenSpec.upto fnExactFormatElemSpec)) fnExactFormatElemUptoCard

/-- THE SECOND FORM's CARD OF 'laws.FnExactFormatTensor'. -/
def fnExactFormatTensorUptoCard : Claim7 := { stood := { row := fnExactFormatTensorUptoRow, standIns := [], harness := (true, "36ea66de3a82ee257665a59789e63cc58b9d276f310fb038513a9c3f8f8ddb12"), looks := true }, kinds := [], alts := [], laidByText := true, laidKinds := [.data, .data, .data], laidTests := true, laidLooks := .later }
def FnExactFormatTensorUptoCardSaid : Prop := Claim7.holds Tryd.pinned (.plain (OpenSpec.upto fnExactFormatTensorSpec)) fnExactFormatTensorUptoCard

/-- THE SECOND FORM's CARD OF 'laws.FnExactParseTensor'. -/
def fnExactParseTensorUptoCard : Claim7 := { stood := { row := fnExactParseTensorUptoRow, standIns := [], harness := (true, "36ea66de3a82ee257665a59789e63cc58b9d276f310fb038513a9c3f8f8ddb12"), looks := true }, kinds := [], alts := [], laidByText := true, laidKinds := [.data, .data, .data, .sentinel, .sentinel], laidTests := true, laidLooks := .later }
def FnExactParseTensorUptoCardSaid : Prop := Claim7.holds Tryd.pinned (.plain (OpenSpec.upto fnExactParseTensorSpec)) fnExactParseTensorUptoCard
end Rows
end Go.Proofs.YtceidekfcnmeaaaDoor
