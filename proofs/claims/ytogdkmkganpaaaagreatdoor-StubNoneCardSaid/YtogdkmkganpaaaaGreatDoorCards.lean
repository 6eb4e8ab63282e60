/-
  DERIVED. GIVEN WITH THE SEED: THE CARDS: each row of YtogdkmkganpaaaaGreatDoorRows.lean that lists a variable, with what it lists TIED to the program's text (the seventh form; the later family's looks); each row that meets fmt, with fmt's text TOLD by the authors' own Lean function (tested against real Go, not proved from fmt's source: count such statements apart). THE CARD IS WHAT COUNTS. Prove the row's statement (the work); the ties are given (YtogdkmkganpaaaaGreatDoorTie.lean); close each card by the builder's one call (the guide's Derived/Test/ToyasCard.lean, 'card_holds'). Laid BY PROGRAM, IN A SANDBOX (cutbox-door.mjs). By AI agents, Wed Nov 11 2026. No macro, syntax, notation, axiom, sorry.
-/
import Derived.Test.YtogdkmkganpaaaaGreatDoorRows
import GoSem.ClaimSeven
namespace Go.Proofs.YtogdkmkganpaaaaGreatDoor
namespace Rows

/-- THE TIED CARD OF 'conciergelaw16.StubRun'. -/
def stubRunCard : Claim7 := { stood := { row := stubRunRow, standIns := [], harness := (true, "1354d9f02c7804172c52457b4afbbe122e22b48d0959b09c82dddd80cbd029be"), looks := true }, kinds := [], alts := [], laidByText := true, laidKinds := [.data, .data, .data, .data, .sentinel, .sentinel, .pinned], laidTests := true, laidLooks := .later }
def StubRunCardSaid : Prop := Claim7.holds Tryz.pinned (.plain (OpenSpec.ofChange stubRunSpec)) stubRunCard

/-- THE TIED CARD OF 'conciergelaw16.StubBound'. -/
def stubBoundCard : Claim7 := { stood := { row := stubBoundRow, standIns := [], harness := (true, "1354d9f02c7804172c52457b4afbbe122e22b48d0959b09c82dddd80cbd029be"), looks := true }, kinds := [], alts := [], laidByText := true, laidKinds := [.data, .data, .data, .data, .sentinel, .sentinel, .pinned], laidTests := true, laidLooks := .later }
def StubBoundCardSaid : Prop := Claim7.holds Tryz.pinned (.plain (OpenSpec.ofChange stubBoundSpec)) stubBoundCard

/-- THE TIED CARD OF 'conciergelaw16.StubForged'. -/
def stubForgedCard : Claim7 := { stood := { row := stubForgedRow, standIns := [], harness := (true, "1354d9f02c7804172c52457b4afbbe122e22b48d0959b09c82dddd80cbd029be"), looks := true }, kinds := [], alts := [], laidByText := true, laidKinds := [.data, .data, .data, .data, .sentinel, .sentinel, .pinned], laidTests := true, laidLooks := .later }
def StubForgedCardSaid : Prop := Claim7.holds Tryz.pinned (.plain (OpenSpec.ofChange stubForgedSpec)) stubForgedCard

/-- THE TIED CARD OF 'conciergelaw16.StubNone'. -/
def stubNoneCard : Claim7 := { stood := { row := stubNoneRow, standIns := [], harness := (true, "1354d9f02c7804172c52457b4afbbe122e22b48d0959b09c82dddd80cbd029be"), looks := true }, kinds := [], alts := [], laidByText := true, laidKinds := [.data, .data, .data, .data, .sentinel, .sentinel, .pinned], laidTests := true, laidLooks := .later }
def StubNoneCardSaid : Prop := Claim7.holds Tryz.pinned (.plain (OpenSpec.ofChange stubNoneSpec)) stubNoneCard

/-- THE SECOND FORM's CARD OF 'conciergelaw16.StubRun'. -/
def stubRunUptoCard : Claim7 := { stood := { row := stubRunUptoRow, standIns := [], harness := (true, "1354d9f02c7804172c52457b4afbbe122e22b48d0959b09c82dddd80cbd029be"), looks := true }, kinds := [], alts := [], laidByText := true, laidKinds := [.data, .data, .data, .data, .sentinel, .sentinel, .pinned], laidTests := true, laidLooks := .later }
def StubRunUptoCardSaid : Prop := Claim7.holds Tryz.pinned (.plain (OpenSpec.upto stubRunSpec)) stubRunUptoCard

/-- THE SECOND FORM's CARD OF 'conciergelaw16.StubBound'. -/
def stubBoundUptoCard : Claim7 := { stood := { row := stubBoundUptoRow, standIns := [], harness := (true, "1354d9f02c7804172c52457b4afbbe122e22b48d0959b09c82dddd80cbd029be"), looks := true }, kinds := [], alts := [], laidByText := true, laidKinds := [.data, .data, .data, .data, .sentinel, .sentinel, .pinned], laidTests := true, laidLooks := .later }
def StubBoundUptoCardSaid : Prop := Claim7.holds Tryz.pinned (.plain (OpenSpec.upto stubBoundSpec)) stubBoundUptoCard

/-- THE SECOND FORM's CARD OF 'conciergelaw16.StubForged'. -/
def stubForgedUptoCard : Claim7 := { stood := { row := stubForgedUptoRow, standIns := [], harness := (true, "1354d9f02c7804172c52457b4afbbe122e22b48d0959b09c82dddd80cbd029be"), looks := true }, kinds := [], alts := [], laidByText := true, laidKinds := [.data, .data, .data, .data, .sentinel, .sentinel, .pinned], laidTests := true, laidLooks := .later }
def StubForgedUptoCardSaid : Prop := Claim7.holds Tryz.pinned (.plain (OpenSpec.upto stubForgedSpec)) stubForgedUptoCard

/-- THE SECOND FORM's CARD OF 'conciergelaw16.StubNone'. -/
def stubNoneUptoCard : Claim7 := { stood := { row := stubNoneUptoRow, standIns := [], harness := (true, "1354d9f02c7804172c52457b4afbbe122e22b48d0959b09c82dddd80cbd029be"), looks := true }, kinds := [], alts := [], laidByText := true, laidKinds := [.data, .data, .data, .data, .sentinel, .sentinel, .pinned], laidTests := true, laidLooks := .later }
def StubNoneUptoCardSaid : Prop := Claim7.holds Tryz.pinned (.plain (OpenSpec.upto stubNoneSpec)) stubNoneUptoCard
end Rows
end Go.Proofs.YtogdkmkganpaaaaGreatDoor
