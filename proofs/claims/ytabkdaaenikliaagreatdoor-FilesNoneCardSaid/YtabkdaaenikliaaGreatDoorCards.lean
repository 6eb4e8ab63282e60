/-
  DERIVED. GIVEN WITH THE SEED: THE CARDS: each row of YtabkdaaenikliaaGreatDoorRows.lean that lists a variable, with what it lists TIED to the program's text (the seventh form; the later family's looks); each row that meets fmt, with fmt's text TOLD by the authors' own Lean function (tested against real Go, not proved from fmt's source: count such statements apart). THE CARD IS WHAT COUNTS. Prove the row's statement (the work); the ties are given (YtabkdaaenikliaaGreatDoorTie.lean); close each card by the builder's one call (the guide's Derived/Test/ToyasCard.lean, 'card_holds'). Laid BY PROGRAM, IN A SANDBOX (cutbox-door.mjs). By AI agents, Wed Nov 11 2026. No macro, syntax, notation, axiom, sorry.
-/
import Derived.Test.YtabkdaaenikliaaGreatDoorRows
import GoSem.ClaimSeven
namespace Go.Proofs.YtabkdaaenikliaaGreatDoor
namespace Rows

/-- THE TIED CARD OF 'conciergelaw8.FilesNone'. -/
def filesNoneCard : Claim7 := { stood := { row := filesNoneRow, standIns := [], harness := (true, "948fa3aa7e3adcfb85e87d99d850a14239f3d17ab6613f142d7c40773f42f6bd"), looks := true }, kinds := [], alts := [], laidByText := true, laidKinds := [.data, .data, .data, .data, .sentinel, .sentinel, .pinned], laidTests := true, laidLooks := .later }
def FilesNoneCardSaid : Prop := Claim7.holds Tryz.pinned (.plain (OpenSpec.ofChange filesNoneSpec)) filesNoneCard

/-- THE TIED CARD OF 'conciergelaw8.FilesReads'. -/
def filesReadsCard : Claim7 := { stood := { row := filesReadsRow, standIns := [], harness := (true, "948fa3aa7e3adcfb85e87d99d850a14239f3d17ab6613f142d7c40773f42f6bd"), looks := true }, kinds := [], alts := [], laidByText := true, laidKinds := [.data, .data, .data, .data, .sentinel, .sentinel, .pinned], laidTests := true, laidLooks := .later }
def FilesReadsCardSaid : Prop := Claim7.holds Tryz.pinned (.plain (OpenSpec.ofChange filesReadsSpec)) filesReadsCard

/-- THE SECOND FORM's CARD OF 'conciergelaw8.FilesNone'. -/
def filesNoneUptoCard : Claim7 := { stood := { row := filesNoneUptoRow, standIns := [], harness := (true, "948fa3aa7e3adcfb85e87d99d850a14239f3d17ab6613f142d7c40773f42f6bd"), looks := true }, kinds := [], alts := [], laidByText := true, laidKinds := [.data, .data, .data, .data, .sentinel, .sentinel, .pinned], laidTests := true, laidLooks := .later }
def FilesNoneUptoCardSaid : Prop := Claim7.holds Tryz.pinned (.plain (OpenSpec.upto filesNoneSpec)) filesNoneUptoCard

/-- THE SECOND FORM's CARD OF 'conciergelaw8.FilesReads'. -/
def filesReadsUptoCard : Claim7 := { stood := { row := filesReadsUptoRow, standIns := [], harness := (true, "948fa3aa7e3adcfb85e87d99d850a14239f3d17ab6613f142d7c40773f42f6bd"), looks := true }, kinds := [], alts := [], laidByText := true, laidKinds := [.data, .data, .data, .data, .sentinel, .sentinel, .pinned], laidTests := true, laidLooks := .later }
def FilesReadsUptoCardSaid : Prop := Claim7.holds Tryz.pinned (.plain (OpenSpec.upto filesReadsSpec)) filesReadsUptoCard
end Rows
end Go.Proofs.YtabkdaaenikliaaGreatDoor
