/-
  No cell of these rows narrows 'for every input' (looked for: loops, veiled, ifaces, maps, wideKeys, modest, calm, conditions, laid).
  DERIVED. THE GIVEN ROWS OF THIS SEAT. 8 by the template 'for every input the law returns true; each argument reads behind the call as it read before'; 0 by the template 'total and deterministic' (their statements: YtmnkdfecclbgfaaTotals.lean).
  GIVEN WITH THE SEED: the statements are not yours to turn. If you find one false, say at which input.
  Laid BY PROGRAM, IN A SANDBOX (cutbox-rows.mjs): the forced cells as the released guide's own fill.sh prints them over the translation 227d3a563b906889… (all of the seat's roots in one cut). By AI agents, Wed Nov 11 2026. No macro, syntax, notation, axiom, sorry.
-/
import Derived.Test.YtmnkdfecclbgfaaChecked
import GoSem.Claim
import GoSem.ClaimJoined
import GoSem.ClaimMapViews
import Derived.JoinedTies
import Derived.KernelRfl
namespace Go.Proofs.Ytmnkdfecclbgfaa
/- THE CELL 'sum', in the pinned program and in every row, IS THE sha256 OF THE DUMP (.gsa) THAT YtmnkdfecclbgfaaProg.lean LOADS. Nothing in Lean hashes anything: it is a label: what it is worth is what the hold of that sum in a sandbox is worth. -/
noncomputable def Try.pinned : Pinned := { name := "ytmnkdfecclbgfaa", sum := "227d3a563b9068890950eefcdff10055e42f338bc5280810ff8bb31a302ce1b7", checked := Try.checked }
namespace Rows
def none {H : Type} : Left H := { results := [], args := [] }

/-- 'conciergelaw1.WorldAll': WHATEVER THE INPUT: true; the input reads as it did. -/
def worldAllSpec : ChangeSpec := { name := "worldAll", fn := fun _ => fun
  | [d] => { results := [.lit (.bool true)], args := [d] }
  | _ => none }
def worldAllRow : OpenClaim := { program := "ytmnkdfecclbgfaa", sum := "227d3a563b9068890950eefcdff10055e42f338bc5280810ff8bb31a302ce1b7", func := "concierge/conciergelaw1.WorldAll", spec := "worldAll", inPlace := ["maps.clone"], apart := false }
def WorldAllSaid : Prop := worldAllRow.holds Try.pinned (OpenSpec.ofChange worldAllSpec)

/-- ITS FALSE NEIGHBOUR: 'it returns false'. Refute it at one input. -/
def worldAllWrong : ChangeSpec := { name := "worldAll", fn := fun _ => fun
  | [d] => { results := [.lit (.bool false)], args := [d] }
  | _ => none }
def WorldAllWrongFalsely : Prop := worldAllRow.holds Try.pinned (OpenSpec.ofChange worldAllWrong)

/-- 'conciergelaw1.WorldNone': WHATEVER THE INPUT: true; the input reads as it did. -/
def worldNoneSpec : ChangeSpec := { name := "worldNone", fn := fun _ => fun
  | [] => { results := [.lit (.bool true)], args := [] }
  | _ => none }
def worldNoneRow : OpenClaim := { program := "ytmnkdfecclbgfaa", sum := "227d3a563b9068890950eefcdff10055e42f338bc5280810ff8bb31a302ce1b7", func := "concierge/conciergelaw1.WorldNone", spec := "worldNone", inPlace := ["maps.clone"], apart := false }
def WorldNoneSaid : Prop := worldNoneRow.holds Try.pinned (OpenSpec.ofChange worldNoneSpec)

/-- ITS FALSE NEIGHBOUR: 'it returns false'. Refute it at one input. -/
def worldNoneWrong : ChangeSpec := { name := "worldNone", fn := fun _ => fun
  | [] => { results := [.lit (.bool false)], args := [] }
  | _ => none }
def WorldNoneWrongFalsely : Prop := worldNoneRow.holds Try.pinned (OpenSpec.ofChange worldNoneWrong)

/-- 'conciergelaw1.WorldStamps': WHATEVER THE INPUT: true; the input reads as it did. -/
def worldStampsSpec : ChangeSpec := { name := "worldStamps", fn := fun _ => fun
  | [d] => { results := [.lit (.bool true)], args := [d] }
  | _ => none }
def worldStampsRow : OpenClaim := { program := "ytmnkdfecclbgfaa", sum := "227d3a563b9068890950eefcdff10055e42f338bc5280810ff8bb31a302ce1b7", func := "concierge/conciergelaw1.WorldStamps", spec := "worldStamps", inPlace := ["maps.clone"], apart := false }
def WorldStampsSaid : Prop := worldStampsRow.holds Try.pinned (OpenSpec.ofChange worldStampsSpec)

/-- ITS FALSE NEIGHBOUR: 'it returns false'. Refute it at one input. -/
def worldStampsWrong : ChangeSpec := { name := "worldStamps", fn := fun _ => fun
  | [d] => { results := [.lit (.bool false)], args := [d] }
  | _ => none }
def WorldStampsWrongFalsely : Prop := worldStampsRow.holds Try.pinned (OpenSpec.ofChange worldStampsWrong)

/-- 'conciergelaw1.WorldCuts': WHATEVER THE INPUT: true; the input reads as it did. -/
def worldCutsSpec : ChangeSpec := { name := "worldCuts", fn := fun _ => fun
  | [d1, d2, d3] => { results := [.lit (.bool true)], args := [d1, d2, d3] }
  | _ => none }
def worldCutsRow : OpenClaim := { program := "ytmnkdfecclbgfaa", sum := "227d3a563b9068890950eefcdff10055e42f338bc5280810ff8bb31a302ce1b7", func := "concierge/conciergelaw1.WorldCuts", spec := "worldCuts", inPlace := ["maps.clone"], apart := false }
def WorldCutsSaid : Prop := worldCutsRow.holds Try.pinned (OpenSpec.ofChange worldCutsSpec)

/-- ITS FALSE NEIGHBOUR: 'it returns false'. Refute it at one input. -/
def worldCutsWrong : ChangeSpec := { name := "worldCuts", fn := fun _ => fun
  | [d1, d2, d3] => { results := [.lit (.bool false)], args := [d1, d2, d3] }
  | _ => none }
def WorldCutsWrongFalsely : Prop := worldCutsRow.holds Try.pinned (OpenSpec.ofChange worldCutsWrong)

/-- 'conciergelaw2.TextLines': WHATEVER THE INPUT: true; the input reads as it did. -/
def textLinesSpec : ChangeSpec := { name := "textLines", fn := fun _ => fun
  | [d] => { results := [.lit (.bool true)], args := [d] }
  | _ => none }
def textLinesRow : OpenClaim := { program := "ytmnkdfecclbgfaa", sum := "227d3a563b9068890950eefcdff10055e42f338bc5280810ff8bb31a302ce1b7", func := "concierge/conciergelaw2.TextLines", spec := "textLines", inPlace := ["internal/bytealg.IndexByte", "internal/bytealg.Index", "internal/bytealg.IndexByteString", "internal/bytealg.IndexString"], unfollowed := true, recurses := true, named := ["internal/bytealg.MaxLen"], apart := false }
def TextLinesSaid : Prop := textLinesRow.holds Try.pinned (OpenSpec.ofChange textLinesSpec)

/-- ITS FALSE NEIGHBOUR: 'it returns false'. Refute it at one input. -/
def textLinesWrong : ChangeSpec := { name := "textLines", fn := fun _ => fun
  | [d] => { results := [.lit (.bool false)], args := [d] }
  | _ => none }
def TextLinesWrongFalsely : Prop := textLinesRow.holds Try.pinned (OpenSpec.ofChange textLinesWrong)

/-- 'conciergelaw2.TextWords': WHATEVER THE INPUT: true; the input reads as it did. -/
def textWordsSpec : ChangeSpec := { name := "textWords", fn := fun _ => fun
  | [d1, d2] => { results := [.lit (.bool true)], args := [d1, d2] }
  | _ => none }
def textWordsRow : OpenClaim := { program := "ytmnkdfecclbgfaa", sum := "227d3a563b9068890950eefcdff10055e42f338bc5280810ff8bb31a302ce1b7", func := "concierge/conciergelaw2.TextWords", spec := "textWords", inPlace := ["internal/bytealg.IndexByte", "internal/bytealg.Index", "internal/bytealg.IndexByteString", "internal/bytealg.IndexString"], unfollowed := true, recurses := true, named := ["internal/bytealg.MaxLen"], apart := false }
def TextWordsSaid : Prop := textWordsRow.holds Try.pinned (OpenSpec.ofChange textWordsSpec)

/-- ITS FALSE NEIGHBOUR: 'it returns false'. Refute it at one input. -/
def textWordsWrong : ChangeSpec := { name := "textWords", fn := fun _ => fun
  | [d1, d2] => { results := [.lit (.bool false)], args := [d1, d2] }
  | _ => none }
def TextWordsWrongFalsely : Prop := textWordsRow.holds Try.pinned (OpenSpec.ofChange textWordsWrong)

/-- 'conciergelaw2.TextLong': WHATEVER THE INPUT: true; the input reads as it did. -/
def textLongSpec : ChangeSpec := { name := "textLong", fn := fun _ => fun
  | [d1, d2] => { results := [.lit (.bool true)], args := [d1, d2] }
  | _ => none }
def textLongRow : OpenClaim := { program := "ytmnkdfecclbgfaa", sum := "227d3a563b9068890950eefcdff10055e42f338bc5280810ff8bb31a302ce1b7", func := "concierge/conciergelaw2.TextLong", spec := "textLong", inPlace := ["internal/bytealg.IndexByte", "internal/bytealg.Index", "internal/bytealg.IndexByteString", "internal/bytealg.IndexString"], unfollowed := true, recurses := true, named := ["internal/bytealg.MaxLen"], apart := false }
def TextLongSaid : Prop := textLongRow.holds Try.pinned (OpenSpec.ofChange textLongSpec)

/-- ITS FALSE NEIGHBOUR: 'it returns false'. Refute it at one input. -/
def textLongWrong : ChangeSpec := { name := "textLong", fn := fun _ => fun
  | [d1, d2] => { results := [.lit (.bool false)], args := [d1, d2] }
  | _ => none }
def TextLongWrongFalsely : Prop := textLongRow.holds Try.pinned (OpenSpec.ofChange textLongWrong)

/-- 'conciergelaw2.TextComments': WHATEVER THE INPUT: true; the input reads as it did. -/
def textCommentsSpec : ChangeSpec := { name := "textComments", fn := fun _ => fun
  | [d1, d2, d3] => { results := [.lit (.bool true)], args := [d1, d2, d3] }
  | _ => none }
def textCommentsRow : OpenClaim := { program := "ytmnkdfecclbgfaa", sum := "227d3a563b9068890950eefcdff10055e42f338bc5280810ff8bb31a302ce1b7", func := "concierge/conciergelaw2.TextComments", spec := "textComments", inPlace := ["internal/bytealg.IndexByte", "internal/bytealg.Index", "internal/bytealg.IndexByteString", "internal/bytealg.IndexString"], unfollowed := true, recurses := true, named := ["internal/bytealg.MaxLen"], apart := false }
def TextCommentsSaid : Prop := textCommentsRow.holds Try.pinned (OpenSpec.ofChange textCommentsSpec)

/-- ITS FALSE NEIGHBOUR: 'it returns false'. Refute it at one input. -/
def textCommentsWrong : ChangeSpec := { name := "textComments", fn := fun _ => fun
  | [d1, d2, d3] => { results := [.lit (.bool false)], args := [d1, d2, d3] }
  | _ => none }
def TextCommentsWrongFalsely : Prop := textCommentsRow.holds Try.pinned (OpenSpec.ofChange textCommentsWrong)

/- THE SECOND FORM. 'bulk': how many values and letters a reading holds, each counted each time it is reached (what is shared counts as often as it is met; a slice's spare places count too). A statement '..UptoSaid' is the law's where the arguments, and the package variables that the reading takes, are together of bulk at most 1048576: NARROWER than '..Said'. Prove '..Said' where nothing that the law and all that it calls make is longer than what came in: it says more and counts as full. Else prove '..UptoSaid'. A law counts once. -/
mutual
def uptoBulk {H : Type} : DataW H → Nat
  | .lit (.string bytes) => bytes.length + 1
  | .lit _ => 1
  | .nil => 1
  | .ptr d => uptoBulk d + 1
  | .slice elems spare => uptoBulkAll elems + uptoBulkAll spare + 1
  | .agg parts => uptoBulkAll parts + 1
  | .iface _ d => uptoBulk d + 1
  | .map entries => uptoBulkEntries entries + 1
  | .held _ => 1
def uptoBulkAll {H : Type} : List (DataW H) → Nat
  | [] => 0
  | d :: r => uptoBulk d + uptoBulkAll r
def uptoBulkEntries {H : Type} : List (Lit × DataW H) → Nat
  | [] => 0
  | x :: r => uptoBulkEntry x + uptoBulkEntries r
def uptoBulkEntry {H : Type} : Lit × DataW H → Nat
  | (.string bytes, d) => bytes.length + uptoBulk d + 1
  | (_, d) => uptoBulk d + 1
 end
def uptoSmall : (H : Type) → List (DataW H) → Bool := fun _ ds => decide (uptoBulkAll ds ≤ 1048576)
def OpenSpec.upto (s : _root_.Go.ChangeSpec) : _root_.Go.OpenSpec := { _root_.Go.OpenSpec.ofChange s with cond := some uptoSmall }

/-- 'conciergelaw1.WorldAll', WHERE WHAT IT READS IS OF BULK AT MOST 1048576: true; the input reads as it did. -/
def worldAllUptoRow : OpenClaim := { program := "ytmnkdfecclbgfaa", sum := "227d3a563b9068890950eefcdff10055e42f338bc5280810ff8bb31a302ce1b7", func := "concierge/conciergelaw1.WorldAll", spec := "worldAll", inPlace := ["maps.clone"], apart := false, narrowed := true }
def WorldAllUptoSaid : Prop := worldAllUptoRow.holds Try.pinned (OpenSpec.upto worldAllSpec)

/-- 'conciergelaw1.WorldNone', WHERE WHAT IT READS IS OF BULK AT MOST 1048576: true; the input reads as it did. -/
def worldNoneUptoRow : OpenClaim := { program := "ytmnkdfecclbgfaa", sum := "227d3a563b9068890950eefcdff10055e42f338bc5280810ff8bb31a302ce1b7", func := "concierge/conciergelaw1.WorldNone", spec := "worldNone", inPlace := ["maps.clone"], apart := false, narrowed := true }
def WorldNoneUptoSaid : Prop := worldNoneUptoRow.holds Try.pinned (OpenSpec.upto worldNoneSpec)

/-- 'conciergelaw1.WorldStamps', WHERE WHAT IT READS IS OF BULK AT MOST 1048576: true; the input reads as it did. -/
def worldStampsUptoRow : OpenClaim := { program := "ytmnkdfecclbgfaa", sum := "227d3a563b9068890950eefcdff10055e42f338bc5280810ff8bb31a302ce1b7", func := "concierge/conciergelaw1.WorldStamps", spec := "worldStamps", inPlace := ["maps.clone"], apart := false, narrowed := true }
def WorldStampsUptoSaid : Prop := worldStampsUptoRow.holds Try.pinned (OpenSpec.upto worldStampsSpec)

/-- 'conciergelaw1.WorldCuts', WHERE WHAT IT READS IS OF BULK AT MOST 1048576: true; the input reads as it did. -/
def worldCutsUptoRow : OpenClaim := { program := "ytmnkdfecclbgfaa", sum := "227d3a563b9068890950eefcdff10055e42f338bc5280810ff8bb31a302ce1b7", func := "concierge/conciergelaw1.WorldCuts", spec := "worldCuts", inPlace := ["maps.clone"], apart := false, narrowed := true }
def WorldCutsUptoSaid : Prop := worldCutsUptoRow.holds Try.pinned (OpenSpec.upto worldCutsSpec)

/-- 'conciergelaw2.TextLines', WHERE WHAT IT READS IS OF BULK AT MOST 1048576: true; the input reads as it did. -/
def textLinesUptoRow : OpenClaim := { program := "ytmnkdfecclbgfaa", sum := "227d3a563b9068890950eefcdff10055e42f338bc5280810ff8bb31a302ce1b7", func := "concierge/conciergelaw2.TextLines", spec := "textLines", inPlace := ["internal/bytealg.IndexByte", "internal/bytealg.Index", "internal/bytealg.IndexByteString", "internal/bytealg.IndexString"], unfollowed := true, recurses := true, named := ["internal/bytealg.MaxLen"], apart := false, narrowed := true }
def TextLinesUptoSaid : Prop := textLinesUptoRow.holds Try.pinned (OpenSpec.upto textLinesSpec)

/-- 'conciergelaw2.TextWords', WHERE WHAT IT READS IS OF BULK AT MOST 1048576: true; the input reads as it did. -/
def textWordsUptoRow : OpenClaim := { program := "ytmnkdfecclbgfaa", sum := "227d3a563b9068890950eefcdff10055e42f338bc5280810ff8bb31a302ce1b7", func := "concierge/conciergelaw2.TextWords", spec := "textWords", inPlace := ["internal/bytealg.IndexByte", "internal/bytealg.Index", "internal/bytealg.IndexByteString", "internal/bytealg.IndexString"], unfollowed := true, recurses := true, named := ["internal/bytealg.MaxLen"], apart := false, narrowed := true }
def TextWordsUptoSaid : Prop := textWordsUptoRow.holds Try.pinned (OpenSpec.upto textWordsSpec)

/-- 'conciergelaw2.TextLong', WHERE WHAT IT READS IS OF BULK AT MOST 1048576: true; the input reads as it did. -/
def textLongUptoRow : OpenClaim := { program := "ytmnkdfecclbgfaa", sum := "227d3a563b9068890950eefcdff10055e42f338bc5280810ff8bb31a302ce1b7", func := "concierge/conciergelaw2.TextLong", spec := "textLong", inPlace := ["internal/bytealg.IndexByte", "internal/bytealg.Index", "internal/bytealg.IndexByteString", "internal/bytealg.IndexString"], unfollowed := true, recurses := true, named := ["internal/bytealg.MaxLen"], apart := false, narrowed := true }
def TextLongUptoSaid : Prop := textLongUptoRow.holds Try.pinned (OpenSpec.upto textLongSpec)

/-- 'conciergelaw2.TextComments', WHERE WHAT IT READS IS OF BULK AT MOST 1048576: true; the input reads as it did. -/
def textCommentsUptoRow : OpenClaim := { program := "ytmnkdfecclbgfaa", sum := "227d3a563b9068890950eefcdff10055e42f338bc5280810ff8bb31a302ce1b7", func := "concierge/conciergelaw2.TextComments", spec := "textComments", inPlace := ["internal/bytealg.IndexByte", "internal/bytealg.Index", "internal/bytealg.IndexByteString", "internal/bytealg.IndexString"], unfollowed := true, recurses := true, named := ["internal/bytealg.MaxLen"], apart := false, narrowed := true }
def TextCommentsUptoSaid : Prop := textCommentsUptoRow.holds Try.pinned (OpenSpec.upto textCommentsSpec)

end Rows
end Go.Proofs.Ytmnkdfecclbgfaa
