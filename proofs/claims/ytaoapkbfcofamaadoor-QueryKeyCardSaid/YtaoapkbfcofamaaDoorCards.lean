/-
  DERIVED. GIVEN WITH THE SEED: THE CARDS: each row of YtaoapkbfcofamaaDoorRows.lean that lists a variable, with what it lists TIED to the program's text (the seventh form; the later family's looks); each row that meets fmt, with fmt's text TOLD by the authors' own Lean function (tested against real Go, not proved from fmt's source: count such statements apart). THE CARD IS WHAT COUNTS. Prove the row's statement (the work); the ties are given (YtaoapkbfcofamaaDoorTie.lean); close each card by the builder's one call (the guide's Derived/Test/ToyasCard.lean, 'card_holds'). Laid BY PROGRAM, IN A SANDBOX (cutbox-door.mjs). By AI agents, Wed Nov 11 2026. No macro, syntax, notation, axiom, sorry.
-/
import Derived.Test.YtaoapkbfcofamaaDoorRows
import GoSem.ClaimSeven
namespace Go.Proofs.YtaoapkbfcofamaaDoor
namespace Rows

/-- THE TIED CARD OF 'conciergelaw14.QueryCheck'. -/
def queryCheckCard : Claim7 := { stood := { row := queryCheckRow, standIns := [], harness := (true, "981f64e2867c5d020e1ce15e4bfce7e49228e24728ae1d7d757a45c48296a11a"), looks := true }, kinds := [], alts := [], laidByText := true, laidKinds := [.data, .data, .data, .data, .pinned], laidTests := true, laidLooks := .later }
def QueryCheckCardSaid : Prop := Claim7.holds Tryd.pinned (.plain (OpenSpec.ofChange queryCheckSpec)) queryCheckCard

/-- THE TIED CARD OF 'conciergelaw14.QueryKey'. -/
def queryKeyCard : Claim7 := { stood := { row := queryKeyRow, standIns := [], harness := (true, "981f64e2867c5d020e1ce15e4bfce7e49228e24728ae1d7d757a45c48296a11a"), looks := true }, kinds := [], alts := [], laidByText := true, laidKinds := [.data, .data, .data, .data, .pinned], laidTests := true, laidLooks := .later }
def QueryKeyCardSaid : Prop := Claim7.holds Tryd.pinned (.plain (OpenSpec.ofChange queryKeySpec)) queryKeyCard

/-- THE TIED CARD OF 'conciergelaw14.QueryFolds'. -/
def queryFoldsCard : Claim7 := { stood := { row := queryFoldsRow, standIns := [], harness := (true, "981f64e2867c5d020e1ce15e4bfce7e49228e24728ae1d7d757a45c48296a11a"), looks := true }, kinds := [], alts := [], laidByText := true, laidKinds := [.data, .data, .data, .data, .pinned], laidTests := true, laidLooks := .later }
def QueryFoldsCardSaid : Prop := Claim7.holds Tryd.pinned (.plain (OpenSpec.ofChange queryFoldsSpec)) queryFoldsCard

/-- THE SECOND FORM's CARD OF 'conciergelaw14.QueryCheck'. -/
def queryCheckUptoCard : Claim7 := { stood := { row := queryCheckUptoRow, standIns := [], harness := (true, "981f64e2867c5d020e1ce15e4bfce7e49228e24728ae1d7d757a45c48296a11a"), looks := true }, kinds := [], alts := [], laidByText := true, laidKinds := [.data, .data, .data, .data, .pinned], laidTests := true, laidLooks := .later }
def QueryCheckUptoCardSaid : Prop := Claim7.holds Tryd.pinned (.plain (OpenSpec.upto queryCheckSpec)) queryCheckUptoCard

/-- THE SECOND FORM's CARD OF 'conciergelaw14.QueryKey'. -/
def queryKeyUptoCard : Claim7 := { stood := { row := queryKeyUptoRow, standIns := [], harness := (true, "981f64e2867c5d020e1ce15e4bfce7e49228e24728ae1d7d757a45c48296a11a"), looks := true }, kinds := [], alts := [], laidByText := true, laidKinds := [.data, .data, .data, .data, .pinned], laidTests := true, laidLooks := .later }
def QueryKeyUptoCardSaid : Prop := Claim7.holds Tryd.pinned (.plain (OpenSpec.upto queryKeySpec)) queryKeyUptoCard

/-- THE SECOND FORM's CARD OF 'conciergelaw14.QueryFolds'. -/
def queryFoldsUptoCard : Claim7 := { stood := { row := queryFoldsUptoRow, standIns := [], harness := (true, "981f64e2867c5d020e1ce15e4bfce7e49228e24728ae1d7d757a45c48296a11a"), looks := true }, kinds := [], alts := [], laidByText := true, laidKinds := [.data, .data, .data, .data, .pinned], laidTests := true, laidLooks := .later }
def QueryFoldsUptoCardSaid : Prop := Claim7.holds Tryd.pinned (.plain (OpenSpec.upto queryFoldsSpec)) queryFoldsUptoCard
end Rows
end Go.Proofs.YtaoapkbfcofamaaDoor
