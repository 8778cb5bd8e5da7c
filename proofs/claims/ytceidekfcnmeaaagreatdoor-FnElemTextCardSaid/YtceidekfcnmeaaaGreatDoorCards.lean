/-
  DERIVED. GIVEN WITH THE SEED: THE CARDS: each row of YtceidekfcnmeaaaGreatDoorRows.lean that lists a variable, with what it lists TIED to the program's text (the seventh form; the later family's looks); each row that meets fmt, with fmt's text TOLD by the authors' own Lean function (tested against real Go, not proved from fmt's source: count such statements apart). THE CARD IS WHAT COUNTS. Prove the row's statement (the work); the ties are given (YtceidekfcnmeaaaGreatDoorTie.lean); close each card by the builder's one call (the guide's Derived/Test/ToyasCard.lean, 'card_holds'). Laid BY PROGRAM, IN A SANDBOX (cutbox-door.mjs). By AI agents, Wed Nov 11 2026. No macro, syntax, notation, axiom, sorry.
-/
import Derived.Test.YtceidekfcnmeaaaGreatDoorRows
import GoSem.ClaimSeven
namespace Go.Proofs.YtceidekfcnmeaaaGreatDoor
namespace Rows

/-- THE TIED CARD OF 'laws.FnElemText'. -/
def fnElemTextCard : Claim7 := { stood := { row := fnElemTextRow, standIns := [], harness := (true, "d40191e51e36f0db19b80f4bb97cae1ef8a9e4fcd67ee8cb10e9f3e80cc54fb6"), looks := true }, kinds := [], alts := [], laidByText := true, laidKinds := [.data, .data, .data, .sentinel, .sentinel], laidTests := true, laidLooks := .later }
def FnElemTextCardSaid : Prop := Claim7.holds Tryz.pinned (.plain (OpenSpec.ofChange fnElemTextSpec)) fnElemTextCard

/-- THE SECOND FORM's CARD OF 'laws.FnElemText'. -/
def fnElemTextUptoCard : Claim7 := { stood := { row := fnElemTextUptoRow, standIns := [], harness := (true, "d40191e51e36f0db19b80f4bb97cae1ef8a9e4fcd67ee8cb10e9f3e80cc54fb6"), looks := true }, kinds := [], alts := [], laidByText := true, laidKinds := [.data, .data, .data, .sentinel, .sentinel], laidTests := true, laidLooks := .later }
def FnElemTextUptoCardSaid : Prop := Claim7.holds Tryz.pinned (.plain (OpenSpec.upto fnElemTextSpec)) fnElemTextUptoCard
end Rows
end Go.Proofs.YtceidekfcnmeaaaGreatDoor
