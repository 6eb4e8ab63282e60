/-
  DERIVED. GIVEN WITH THE SEED: THE CARDS: each row of YtdfapebggghfdaaGreatDoorRows.lean that lists a variable, with what it lists TIED to the program's text (the seventh form; the later family's looks); each row that meets fmt, with fmt's text TOLD by the authors' own Lean function (tested against real Go, not proved from fmt's source: count such statements apart). THE CARD IS WHAT COUNTS. Prove the row's statement (the work); the ties are given (YtdfapebggghfdaaGreatDoorTie.lean); close each card by the builder's one call (the guide's Derived/Test/ToyasCard.lean, 'card_holds'). Laid BY PROGRAM, IN A SANDBOX (cutbox-door.mjs). By AI agents, Wed Nov 11 2026. No macro, syntax, notation, axiom, sorry.
-/
import Derived.Test.YtdfapebggghfdaaGreatDoorRows
import GoSem.ClaimSeven
namespace Go.Proofs.YtdfapebggghfdaaGreatDoor
namespace Rows

/-- THE TIED CARD OF 'conciergelaw6.HostTable'. -/
def hostTableCard : Claim7 := { stood := { row := hostTableRow, standIns := [], harness := (true, "c7293b9c7dd4314c369fd31c520befa9e9f7810e7f7f4262c9fffb32d9860da2"), looks := true }, kinds := [], alts := [], laidByText := true, laidKinds := [.data, .data, .data, .data, .sentinel, .sentinel, .pinned], laidTests := true, laidLooks := .later }
def HostTableCardSaid : Prop := Claim7.holds Tryz.pinned (.plain (OpenSpec.ofChange hostTableSpec)) hostTableCard

/-- THE TIED CARD OF 'conciergelaw6.HostMany'. -/
def hostManyCard : Claim7 := { stood := { row := hostManyRow, standIns := [], harness := (true, "c7293b9c7dd4314c369fd31c520befa9e9f7810e7f7f4262c9fffb32d9860da2"), looks := true }, kinds := [], alts := [], laidByText := true, laidKinds := [.data, .data, .data, .data, .sentinel, .sentinel, .pinned], laidTests := true, laidLooks := .later }
def HostManyCardSaid : Prop := Claim7.holds Tryz.pinned (.plain (OpenSpec.ofChange hostManySpec)) hostManyCard

/-- THE TIED CARD OF 'conciergelaw6.HostNone'. -/
def hostNoneCard : Claim7 := { stood := { row := hostNoneRow, standIns := [], harness := (true, "c7293b9c7dd4314c369fd31c520befa9e9f7810e7f7f4262c9fffb32d9860da2"), looks := true }, kinds := [], alts := [], laidByText := true, laidKinds := [.data, .data, .data, .data, .sentinel, .sentinel, .pinned], laidTests := true, laidLooks := .later }
def HostNoneCardSaid : Prop := Claim7.holds Tryz.pinned (.plain (OpenSpec.ofChange hostNoneSpec)) hostNoneCard

/-- THE TIED CARD OF 'conciergelaw6.HostFirst'. -/
def hostFirstCard : Claim7 := { stood := { row := hostFirstRow, standIns := [], harness := (true, "c7293b9c7dd4314c369fd31c520befa9e9f7810e7f7f4262c9fffb32d9860da2"), looks := true }, kinds := [], alts := [], laidByText := true, laidKinds := [.data, .data, .data, .data, .sentinel, .sentinel, .pinned], laidTests := true, laidLooks := .later }
def HostFirstCardSaid : Prop := Claim7.holds Tryz.pinned (.plain (OpenSpec.ofChange hostFirstSpec)) hostFirstCard

/-- THE SECOND FORM's CARD OF 'conciergelaw6.HostTable'. -/
def hostTableUptoCard : Claim7 := { stood := { row := hostTableUptoRow, standIns := [], harness := (true, "c7293b9c7dd4314c369fd31c520befa9e9f7810e7f7f4262c9fffb32d9860da2"), looks := true }, kinds := [], alts := [], laidByText := true, laidKinds := [.data, .data, .data, .data, .sentinel, .sentinel, .pinned], laidTests := true, laidLooks := .later }
def HostTableUptoCardSaid : Prop := Claim7.holds Tryz.pinned (.plain (OpenSpec.upto hostTableSpec)) hostTableUptoCard

/-- THE SECOND FORM's CARD OF 'conciergelaw6.HostMany'. -/
def hostManyUptoCard : Claim7 := { stood := { row := hostManyUptoRow, standIns := [], harness := (true, "c7293b9c7dd4314c369fd31c520befa9e9f7810e7f7f4262c9fffb32d9860da2"), looks := true }, kinds := [], alts := [], laidByText := true, laidKinds := [.data, .data, .data, .data, .sentinel, .sentinel, .pinned], laidTests := true, laidLooks := .later }
def HostManyUptoCardSaid : Prop := Claim7.holds Tryz.pinned (.plain (OpenSpec.upto hostManySpec)) hostManyUptoCard

/-- THE SECOND FORM's CARD OF 'conciergelaw6.HostNone'. -/
def hostNoneUptoCard : Claim7 := { stood := { row := hostNoneUptoRow, standIns := [], harness := (true, "c7293b9c7dd4314c369fd31c520befa9e9f7810e7f7f4262c9fffb32d9860da2"), looks := true }, kinds := [], alts := [], laidByText := true, laidKinds := [.data, .data, .data, .data, .sentinel, .sentinel, .pinned], laidTests := true, laidLooks := .later }
def HostNoneUptoCardSaid : Prop := Claim7.holds Tryz.pinned (.plain (OpenSpec.upto hostNoneSpec)) hostNoneUptoCard

/-- THE SECOND FORM's CARD OF 'conciergelaw6.HostFirst'. -/
def hostFirstUptoCard : Claim7 := { stood := { row := hostFirstUptoRow, standIns := [], harness := (true, "c7293b9c7dd4314c369fd31c520befa9e9f7810e7f7f4262c9fffb32d9860da2"), looks := true }, kinds := [], alts := [], laidByText := true, laidKinds := [.data, .data, .data, .data, .sentinel, .sentinel, .pinned], laidTests := true, laidLooks := .later }
def HostFirstUptoCardSaid : Prop := Claim7.holds Tryz.pinned (.plain (OpenSpec.upto hostFirstSpec)) hostFirstUptoCard
end Rows
end Go.Proofs.YtdfapebggghfdaaGreatDoor
