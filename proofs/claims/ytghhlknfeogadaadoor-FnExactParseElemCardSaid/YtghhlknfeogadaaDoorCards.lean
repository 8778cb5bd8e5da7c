/-
  DERIVED. GIVEN WITH THE SEED: THE CARDS: each row of YtghhlknfeogadaaDoorRows.lean that lists a variable, with what it lists TIED to the program's text (the seventh form; the later family's looks); each row that meets fmt, with fmt's text TOLD by the authors' own Lean function (tested against real Go, not proved from fmt's source: count such statements apart). THE CARD IS WHAT COUNTS. Prove the row's statement (the work); the ties are given (YtghhlknfeogadaaDoorTie.lean); close each card by the builder's one call (the guide's Derived/Test/ToyasCard.lean, 'card_holds'). Laid BY PROGRAM, IN A SANDBOX (cutbox-door.mjs). By AI agents, Wed Nov 11 2026. No macro, syntax, notation, axiom, sorry.
-/
import Derived.Test.YtghhlknfeogadaaDoorRows
import GoSem.ClaimSeven
namespace Go.Proofs.YtghhlknfeogadaaDoor
namespace Rows

/-- THE TIED CARD OF 'laws.FnExactFormatInts'. -/
def fnExactFormatIntsCard : Claim7 := { stood := { row := fnExactFormatIntsRow, standIns := [], harness := (true, "645c8c497a45ca54d0c227f2930603c057e638ef5452b207facb8add3eaaf612"), looks := true }, kinds := [], alts := [], laidByText := true, laidKinds := [.data, .data, .data], laidTests := true, laidLooks := .later }
def FnExactFormatIntsCardSaid : Prop := Claim7.holds Tryd.pinned (.plain (OpenSpec.ofChange fnExactFormatIntsSpec)) fnExactFormatIntsCard

/-- THE TIED CARD OF 'laws.FnExactParseInts'. -/
def fnExactParseIntsCard : Claim7 := { stood := { row := fnExactParseIntsRow, standIns := [], harness := (true, "645c8c497a45ca54d0c227f2930603c057e638ef5452b207facb8add3eaaf612"), looks := true }, kinds := [], alts := [], laidByText := true, laidKinds := [.data, .data, .data, .sentinel, .sentinel], laidTests := true, laidLooks := .later }
def FnExactParseIntsCardSaid : Prop := Claim7.holds Tryd.pinned (.plain (OpenSpec.ofChange fnExactParseIntsSpec)) fnExactParseIntsCard

/-- THE TIED CARD OF 'laws.FnExactFormatRing'. -/
def fnExactFormatRingCard : Claim7 := { stood := { row := fnExactFormatRingRow, standIns := [], harness := (true, "645c8c497a45ca54d0c227f2930603c057e638ef5452b207facb8add3eaaf612"), looks := true }, kinds := [], alts := [], laidByText := true, laidKinds := [.data, .data, .data], laidTests := true, laidLooks := .later }
def FnExactFormatRingCardSaid : Prop := Claim7.holds Tryd.pinned (.plain (OpenSpec.ofChange fnExactFormatRingSpec)) fnExactFormatRingCard

/-- THE TIED CARD OF 'laws.FnExactParseRing'. -/
def fnExactParseRingCard : Claim7 := { stood := { row := fnExactParseRingRow, standIns := [], harness := (true, "645c8c497a45ca54d0c227f2930603c057e638ef5452b207facb8add3eaaf612"), looks := true }, kinds := [], alts := [], laidByText := true, laidKinds := [.data, .data, .data, .sentinel, .sentinel], laidTests := true, laidLooks := .later }
def FnExactParseRingCardSaid : Prop := Claim7.holds Tryd.pinned (.plain (OpenSpec.ofChange fnExactParseRingSpec)) fnExactParseRingCard

/-- THE TIED CARD OF 'laws.FnExactFormatElem'. -/
def fnExactFormatElemCard : Claim7 := { stood := { row := fnExactFormatElemRow, standIns := [], harness := (true, "645c8c497a45ca54d0c227f2930603c057e638ef5452b207facb8add3eaaf612"), looks := true }, kinds := [], alts := [], laidByText := true, laidKinds := [.data, .data, .data], laidTests := true, laidLooks := .later }
def FnExactFormatElemCardSaid : Prop := Claim7.holds Tryd.pinned (.plain (OpenSpec.ofChange fnExactFormatElemSpec)) fnExactFormatElemCard

/-- THE TIED CARD OF 'laws.FnExactParseElem'. -/
def fnExactParseElemCard : Claim7 := { stood := { row := fnExactParseElemRow, standIns := [], harness := (true, "645c8c497a45ca54d0c227f2930603c057e638ef5452b207facb8add3eaaf612"), looks := true }, kinds := [], alts := [], laidByText := true, laidKinds := [.data, .data, .data, .sentinel, .sentinel], laidTests := true, laidLooks := .later }
def FnExactParseElemCardSaid : Prop := Claim7.holds Tryd.pinned (.plain (OpenSpec.ofChange fnExactParseElemSpec)) fnExactParseElemCard

/-- THE SECOND FORM's CARD OF 'laws.FnExactFormatInts'. -/
def fnExactFormatIntsUptoCard : Claim7 := { stood := { row := fnExactFormatIntsUptoRow, standIns := [], harness := (true, "645c8c497a45ca54d0c227f2930603c057e638ef5452b207facb8add3eaaf612"), looks := true }, kinds := [], alts := [], laidByText := true, laidKinds := [.data, .data, .data], laidTests := true, laidLooks := .later }
def FnExactFormatIntsUptoCardSaid : Prop := Claim7.holds Tryd.pinned (.plain (OpenSpec.upto fnExactFormatIntsSpec)) fnExactFormatIntsUptoCard

/-- THE SECOND FORM's CARD OF 'laws.FnExactParseInts'. -/
def fnExactParseIntsUptoCard : Claim7 := { stood := { row := fnExactParseIntsUptoRow, standIns := [], harness := (true, "645c8c497a45ca54d0c227f2930603c057e638ef5452b207facb8add3eaaf612"), looks := true }, kinds := [], alts := [], laidByText := true, laidKinds := [.data, .data, .data, .sentinel, .sentinel], laidTests := true, laidLooks := .later }
def FnExactParseIntsUptoCardSaid : Prop := Claim7.holds Tryd.pinned (.plain (OpenSpec.upto fnExactParseIntsSpec)) fnExactParseIntsUptoCard

/-- THE SECOND FORM's CARD OF 'laws.FnExactFormatRing'. -/
def fnExactFormatRingUptoCard : Claim7 := { stood := { row := fnExactFormatRingUptoRow, standIns := [], harness := (true, "645c8c497a45ca54d0c227f2930603c057e638ef5452b207facb8add3eaaf612"), looks := true }, kinds := [], alts := [], laidByText := true, laidKinds := [.data, .data, .data], laidTests := true, laidLooks := .later }
def FnExactFormatRingUptoCardSaid : Prop := Claim7.holds Tryd.pinned (.plain (OpenSpec.upto fnExactFormatRingSpec)) fnExactFormatRingUptoCard

/-- THE SECOND FORM's CARD OF 'laws.FnExactParseRing'. -/
def fnExactParseRingUptoCard : Claim7 := { stood := { row := fnExactParseRingUptoRow, standIns := [], harness := (true, "645c8c497a45ca54d0c227f2930603c057e638ef5452b207facb8add3eaaf612"), looks := true }, kinds := [], alts := [], laidByText := true, laidKinds := [.data, .data, .data, .sentinel, .sentinel], laidTests := true, laidLooks := .later }
def FnExactParseRingUptoCardSaid : Prop := Claim7.holds Tryd.pinned (.plain (OpenSpec.upto fnExactParseRingSpec)) fnExactParseRingUptoCard

/-- THE SECOND FORM's CARD OF 'laws.FnExactFormatElem'. -/
def fnExactFormatElemUptoCard : Claim7 := { stood := { row := fnExactFormatElemUptoRow, standIns := [], harness := (true, "645c8c497a45ca54d0c227f2930603c057e638ef5452b207facb8add3eaaf612"), looks := true }, kinds := [], alts := [], laidByText := true, laidKinds := [.data, .data, .data], laidTests := true, laidLooks := .later }
def FnExactFormatElemUptoCardSaid : Prop := Claim7.holds Tryd.pinned (.plain (OpenSpec.upto fnExactFormatElemSpec)) fnExactFormatElemUptoCard

/-- THE SECOND FORM's CARD OF 'laws.FnExactParseElem'. -/
def fnExactParseElemUptoCard : Claim7 := { stood := { row := fnExactParseElemUptoRow, standIns := [], harness := (true, "645c8c497a45ca54d0c227f2930603c057e638ef5452b207facb8add3eaaf612"), looks := true }, kinds := [], alts := [], laidByText := true, laidKinds := [.data, .data, .data, .sentinel, .sentinel], laidTests := true, laidLooks := .later }
def FnExactParseElemUptoCardSaid : Prop := Claim7.holds Tryd.pinned (.plain (OpenSpec.upto fnExactParseElemSpec)) fnExactParseElemUptoCard
end Rows
end Go.Proofs.YtghhlknfeogadaaDoor
