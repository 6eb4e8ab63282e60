/-
  DERIVED. GIVEN WITH THE SEED: THE CARDS: each row of YtfmnemcnonbkfaaGreatDoorRows.lean that lists a variable, with what it lists TIED to the program's text (the seventh form; the later family's looks); each row that meets fmt, with fmt's text TOLD by the authors' own Lean function (tested against real Go, not proved from fmt's source: count such statements apart). THE CARD IS WHAT COUNTS. Prove the row's statement (the work); the ties are given (YtfmnemcnonbkfaaGreatDoorTie.lean); close each card by the builder's one call (the guide's Derived/Test/ToyasCard.lean, 'card_holds'). Laid BY PROGRAM, IN A SANDBOX (cutbox-door.mjs). By AI agents, Wed Nov 11 2026. No macro, syntax, notation, axiom, sorry.
-/
import Derived.Test.YtfmnemcnonbkfaaGreatDoorRows
import GoSem.ClaimSeven
namespace Go.Proofs.YtfmnemcnonbkfaaGreatDoor
namespace Rows

/-- THE TIED CARD OF 'conciergelaw15.ResolvParse'. -/
def resolvParseCard : Claim7 := { stood := { row := resolvParseRow, standIns := [], harness := (true, "51f08ed9912fc4eceee48eb881eeb6982f7163689b2415d78d6929972a968c50"), looks := true }, kinds := [], alts := [], laidByText := true, laidKinds := [.data, .data, .data, .data, .sentinel, .sentinel, .pinned], laidTests := true, laidLooks := .later }
def ResolvParseCardSaid : Prop := Claim7.holds Tryz.pinned (.plain (OpenSpec.ofChange resolvParseSpec)) resolvParseCard

/-- THE TIED CARD OF 'conciergelaw15.ResolvLimits'. -/
def resolvLimitsCard : Claim7 := { stood := { row := resolvLimitsRow, standIns := [], harness := (true, "51f08ed9912fc4eceee48eb881eeb6982f7163689b2415d78d6929972a968c50"), looks := true }, kinds := [], alts := [], laidByText := true, laidKinds := [.data, .data, .data, .data, .sentinel, .sentinel, .pinned], laidTests := true, laidLooks := .later }
def ResolvLimitsCardSaid : Prop := Claim7.holds Tryz.pinned (.plain (OpenSpec.ofChange resolvLimitsSpec)) resolvLimitsCard

/-- THE SECOND FORM's CARD OF 'conciergelaw15.ResolvParse'. -/
def resolvParseUptoCard : Claim7 := { stood := { row := resolvParseUptoRow, standIns := [], harness := (true, "51f08ed9912fc4eceee48eb881eeb6982f7163689b2415d78d6929972a968c50"), looks := true }, kinds := [], alts := [], laidByText := true, laidKinds := [.data, .data, .data, .data, .sentinel, .sentinel, .pinned], laidTests := true, laidLooks := .later }
def ResolvParseUptoCardSaid : Prop := Claim7.holds Tryz.pinned (.plain (OpenSpec.upto resolvParseSpec)) resolvParseUptoCard

/-- THE SECOND FORM's CARD OF 'conciergelaw15.ResolvLimits'. -/
def resolvLimitsUptoCard : Claim7 := { stood := { row := resolvLimitsUptoRow, standIns := [], harness := (true, "51f08ed9912fc4eceee48eb881eeb6982f7163689b2415d78d6929972a968c50"), looks := true }, kinds := [], alts := [], laidByText := true, laidKinds := [.data, .data, .data, .data, .sentinel, .sentinel, .pinned], laidTests := true, laidLooks := .later }
def ResolvLimitsUptoCardSaid : Prop := Claim7.holds Tryz.pinned (.plain (OpenSpec.upto resolvLimitsSpec)) resolvLimitsUptoCard
end Rows
end Go.Proofs.YtfmnemcnonbkfaaGreatDoor
