/-
  DERIVED. GIVEN WITH THE SEED: THE CARDS: each row of YtfpgobbkeocokaaDoorRows.lean that lists a variable, with what it lists TIED to the program's text (the seventh form; the later family's looks); each row that meets fmt, with fmt's text TOLD by the authors' own Lean function (tested against real Go, not proved from fmt's source: count such statements apart). THE CARD IS WHAT COUNTS. Prove the row's statement (the work); the ties are given (YtfpgobbkeocokaaDoorTie.lean); close each card by the builder's one call (the guide's Derived/Test/ToyasCard.lean, 'card_holds'). Laid BY PROGRAM, IN A SANDBOX (cutbox-door.mjs). By AI agents, Wed Nov 11 2026. No macro, syntax, notation, axiom, sorry.
-/
import Derived.Test.YtfpgobbkeocokaaDoorRows
import GoSem.ClaimSeven
namespace Go.Proofs.YtfpgobbkeocokaaDoor
namespace Rows

/-- THE TIED CARD OF 'conciergelaw9.ErrorChain'. -/
def errorChainCard : Claim7 := { stood := { row := errorChainRow, standIns := [], harness := (true, "9a7495816122ee1ddaf9cc659566fbc0822c198fe45671dfaf5c0ac792502039"), looks := true }, kinds := [], alts := [], laidByText := true, laidKinds := [.handle], laidTests := true, laidLooks := .later }
def ErrorChainCardSaid : Prop := Claim7.holds Tryd.pinned (.plain (OpenSpec.ofChange errorChainSpec)) errorChainCard

/-- THE TIED CARD OF 'conciergelaw9.ErrorGuard'. -/
def errorGuardCard : Claim7 := { stood := { row := errorGuardRow, standIns := [], harness := (true, "9a7495816122ee1ddaf9cc659566fbc0822c198fe45671dfaf5c0ac792502039"), looks := true }, kinds := [], alts := [], laidByText := true, laidKinds := [.handle], laidTests := true, laidLooks := .later }
def ErrorGuardCardSaid : Prop := Claim7.holds Tryd.pinned (.plain (OpenSpec.ofChange errorGuardSpec)) errorGuardCard

/-- THE TIED CARD OF 'conciergelaw9.ErrorDeep'. -/
def errorDeepCard : Claim7 := { stood := { row := errorDeepRow, standIns := [], harness := (true, "9a7495816122ee1ddaf9cc659566fbc0822c198fe45671dfaf5c0ac792502039"), looks := true }, kinds := [], alts := [], laidByText := true, laidKinds := [.handle], laidTests := true, laidLooks := .later }
def ErrorDeepCardSaid : Prop := Claim7.holds Tryd.pinned (.plain (OpenSpec.ofChange errorDeepSpec)) errorDeepCard

/-- THE SECOND FORM's CARD OF 'conciergelaw9.ErrorChain'. -/
def errorChainUptoCard : Claim7 := { stood := { row := errorChainUptoRow, standIns := [], harness := (true, "9a7495816122ee1ddaf9cc659566fbc0822c198fe45671dfaf5c0ac792502039"), looks := true }, kinds := [], alts := [], laidByText := true, laidKinds := [.handle], laidTests := true, laidLooks := .later }
def ErrorChainUptoCardSaid : Prop := Claim7.holds Tryd.pinned (.plain (OpenSpec.upto errorChainSpec)) errorChainUptoCard

/-- THE SECOND FORM's CARD OF 'conciergelaw9.ErrorGuard'. -/
def errorGuardUptoCard : Claim7 := { stood := { row := errorGuardUptoRow, standIns := [], harness := (true, "9a7495816122ee1ddaf9cc659566fbc0822c198fe45671dfaf5c0ac792502039"), looks := true }, kinds := [], alts := [], laidByText := true, laidKinds := [.handle], laidTests := true, laidLooks := .later }
def ErrorGuardUptoCardSaid : Prop := Claim7.holds Tryd.pinned (.plain (OpenSpec.upto errorGuardSpec)) errorGuardUptoCard

/-- THE SECOND FORM's CARD OF 'conciergelaw9.ErrorDeep'. -/
def errorDeepUptoCard : Claim7 := { stood := { row := errorDeepUptoRow, standIns := [], harness := (true, "9a7495816122ee1ddaf9cc659566fbc0822c198fe45671dfaf5c0ac792502039"), looks := true }, kinds := [], alts := [], laidByText := true, laidKinds := [.handle], laidTests := true, laidLooks := .later }
def ErrorDeepUptoCardSaid : Prop := Claim7.holds Tryd.pinned (.plain (OpenSpec.upto errorDeepSpec)) errorDeepUptoCard
end Rows
end Go.Proofs.YtfpgobbkeocokaaDoor
