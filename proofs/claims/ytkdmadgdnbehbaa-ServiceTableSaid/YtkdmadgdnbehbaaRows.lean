/-
  No cell of these rows narrows 'for every input' (looked for: loops, veiled, ifaces, maps, wideKeys, modest, calm, conditions, laid).
  DERIVED. THE GIVEN ROWS OF THIS SEAT. 5 by the template 'for every input the law returns true; each argument reads behind the call as it read before'; 0 by the template 'total and deterministic' (their statements: YtkdmadgdnbehbaaTotals.lean).
  GIVEN WITH THE SEED: the statements are not yours to turn. If you find one false, say at which input.
  Laid BY PROGRAM, IN A SANDBOX (cutbox-rows.mjs): the forced cells as the released guide's own fill.sh prints them over the translation 6f9414e259752343… (all of the seat's roots in one cut). By AI agents, Wed Nov 11 2026. No macro, syntax, notation, axiom, sorry.
-/
import Derived.Test.YtkdmadgdnbehbaaChecked
import GoSem.Claim
import GoSem.ClaimJoined
import GoSem.ClaimMapViews
import Derived.JoinedTies
import Derived.KernelRfl
namespace Go.Proofs.Ytkdmadgdnbehbaa
/- THE CELL 'sum', in the pinned program and in every row, IS THE sha256 OF THE DUMP (.gsa) THAT YtkdmadgdnbehbaaProg.lean LOADS. Nothing in Lean hashes anything: it is a label: what it is worth is what the hold of that sum in a sandbox is worth. -/
noncomputable def Try.pinned : Pinned := { name := "ytkdmadgdnbehbaa", sum := "6f9414e2597523430a4a9e6c9de408d213727a53026c979666315a6920e213da", checked := Try.checked }
namespace Rows
def none {H : Type} : Left H := { results := [], args := [] }

/-- 'conciergelaw1.WorldAll': WHATEVER THE INPUT: true; the input reads as it did. -/
def worldAllSpec : ChangeSpec := { name := "worldAll", fn := fun _ => fun
  | [d] => { results := [.lit (.bool true)], args := [d] }
  | _ => none }
def worldAllRow : OpenClaim := { program := "ytkdmadgdnbehbaa", sum := "6f9414e2597523430a4a9e6c9de408d213727a53026c979666315a6920e213da", func := "concierge/conciergelaw1.WorldAll", spec := "worldAll", inPlace := ["maps.clone"], plainKeys := false, apart := false }
def WorldAllSaid : Prop := worldAllRow.holds Try.pinned (OpenSpec.ofChange worldAllSpec)

/-- ITS FALSE NEIGHBOUR: 'it returns false'. Refute it at one input. -/
def worldAllWrong : ChangeSpec := { name := "worldAll", fn := fun _ => fun
  | [d] => { results := [.lit (.bool false)], args := [d] }
  | _ => none }
def WorldAllWrongFalsely : Prop := worldAllRow.holds Try.pinned (OpenSpec.ofChange worldAllWrong)

/-- 'conciergelaw1.WorldCuts': WHATEVER THE INPUT: true; the input reads as it did. -/
def worldCutsSpec : ChangeSpec := { name := "worldCuts", fn := fun _ => fun
  | [d1, d2, d3] => { results := [.lit (.bool true)], args := [d1, d2, d3] }
  | _ => none }
def worldCutsRow : OpenClaim := { program := "ytkdmadgdnbehbaa", sum := "6f9414e2597523430a4a9e6c9de408d213727a53026c979666315a6920e213da", func := "concierge/conciergelaw1.WorldCuts", spec := "worldCuts", inPlace := ["maps.clone"], plainKeys := false, apart := false }
def WorldCutsSaid : Prop := worldCutsRow.holds Try.pinned (OpenSpec.ofChange worldCutsSpec)

/-- ITS FALSE NEIGHBOUR: 'it returns false'. Refute it at one input. -/
def worldCutsWrong : ChangeSpec := { name := "worldCuts", fn := fun _ => fun
  | [d1, d2, d3] => { results := [.lit (.bool false)], args := [d1, d2, d3] }
  | _ => none }
def WorldCutsWrongFalsely : Prop := worldCutsRow.holds Try.pinned (OpenSpec.ofChange worldCutsWrong)

/-- 'conciergelaw7.ServiceTable': WHATEVER THE INPUT: true; the input reads as it did. -/
def serviceTableSpec : ChangeSpec := { name := "serviceTable", fn := fun _ => fun
  | [d1, d2, d3, d4] => { results := [.lit (.bool true)], args := [d1, d2, d3, d4] }
  | _ => none }
def serviceTableRow : OpenClaim := { program := "ytkdmadgdnbehbaa", sum := "6f9414e2597523430a4a9e6c9de408d213727a53026c979666315a6920e213da", func := "concierge/conciergelaw7.ServiceTable", spec := "serviceTable", inPlace := ["internal/bytealg.IndexByte", "internal/bytealg.Index", "internal/bytealg.IndexByteString", "internal/bytealg.IndexString"], unfollowed := true, recurses := true, named := ["internal/bytealg.MaxLen"], plainKeys := false, apart := false }
def ServiceTableSaid : Prop := serviceTableRow.holds Try.pinned (OpenSpec.ofChange serviceTableSpec)

/-- ITS FALSE NEIGHBOUR: 'it returns false'. Refute it at one input. -/
def serviceTableWrong : ChangeSpec := { name := "serviceTable", fn := fun _ => fun
  | [d1, d2, d3, d4] => { results := [.lit (.bool false)], args := [d1, d2, d3, d4] }
  | _ => none }
def ServiceTableWrongFalsely : Prop := serviceTableRow.holds Try.pinned (OpenSpec.ofChange serviceTableWrong)

/-- 'conciergelaw7.ServiceNone': WHATEVER THE INPUT: true; the input reads as it did. -/
def serviceNoneSpec : ChangeSpec := { name := "serviceNone", fn := fun _ => fun
  | [] => { results := [.lit (.bool true)], args := [] }
  | _ => none }
def serviceNoneRow : OpenClaim := { program := "ytkdmadgdnbehbaa", sum := "6f9414e2597523430a4a9e6c9de408d213727a53026c979666315a6920e213da", func := "concierge/conciergelaw7.ServiceNone", spec := "serviceNone", inPlace := ["internal/bytealg.IndexByte", "internal/bytealg.Index", "internal/bytealg.IndexByteString", "internal/bytealg.IndexString"], unfollowed := true, recurses := true, named := ["internal/bytealg.MaxLen"], plainKeys := false, apart := false }
def ServiceNoneSaid : Prop := serviceNoneRow.holds Try.pinned (OpenSpec.ofChange serviceNoneSpec)

/-- ITS FALSE NEIGHBOUR: 'it returns false'. Refute it at one input. -/
def serviceNoneWrong : ChangeSpec := { name := "serviceNone", fn := fun _ => fun
  | [] => { results := [.lit (.bool false)], args := [] }
  | _ => none }
def ServiceNoneWrongFalsely : Prop := serviceNoneRow.holds Try.pinned (OpenSpec.ofChange serviceNoneWrong)

/-- 'conciergelaw7.ServiceFirst': WHATEVER THE INPUT: true; the input reads as it did. -/
def serviceFirstSpec : ChangeSpec := { name := "serviceFirst", fn := fun _ => fun
  | [d1, d2] => { results := [.lit (.bool true)], args := [d1, d2] }
  | _ => none }
def serviceFirstRow : OpenClaim := { program := "ytkdmadgdnbehbaa", sum := "6f9414e2597523430a4a9e6c9de408d213727a53026c979666315a6920e213da", func := "concierge/conciergelaw7.ServiceFirst", spec := "serviceFirst", inPlace := ["internal/bytealg.IndexByte", "internal/bytealg.Index", "internal/bytealg.IndexByteString", "internal/bytealg.IndexString"], unfollowed := true, recurses := true, named := ["internal/bytealg.MaxLen"], plainKeys := false, apart := false }
def ServiceFirstSaid : Prop := serviceFirstRow.holds Try.pinned (OpenSpec.ofChange serviceFirstSpec)

/-- ITS FALSE NEIGHBOUR: 'it returns false'. Refute it at one input. -/
def serviceFirstWrong : ChangeSpec := { name := "serviceFirst", fn := fun _ => fun
  | [d1, d2] => { results := [.lit (.bool false)], args := [d1, d2] }
  | _ => none }
def ServiceFirstWrongFalsely : Prop := serviceFirstRow.holds Try.pinned (OpenSpec.ofChange serviceFirstWrong)

/- THE SECOND FORM. 'bulk': how many values and letters a reading holds, each counted each time it is reached (what is shared counts as often as it is met; a slice's spare places count too). A statement '..UptoSaid' is the law's where the arguments, and the package variables that the reading takes, are together of bulk at most 1048576: NARROWER than '..Said'. Prove '..Said' where nothing that the law and all that it calls make is longer than what came in: it says more and counts as full. Else prove '..UptoSaid'. A law counts once. -/
mutual
def uptoBulk {H : Type} : DataW H → Nat
  | .lit (.string bytes) => bytes.length + 1
  | .lit _ => 1
  | .nil => 1
  | .ptr d => uptoBulk d + 1
  | .slice elems spare => uptoBulkAll elems + uptoBulkAll spare + 1
  | .agg parts => uptoBulkAll parts + 1
  | .iface _ d => uptoBulk d + 1
  | .map entries => uptoBulkEntries entries + 1
  | .held _ => 1
def uptoBulkAll {H : Type} : List (DataW H) → Nat
  | [] => 0
  | d :: r => uptoBulk d + uptoBulkAll r
def uptoBulkEntries {H : Type} : List (Lit × DataW H) → Nat
  | [] => 0
  | x :: r => uptoBulkEntry x + uptoBulkEntries r
def uptoBulkEntry {H : Type} : Lit × DataW H → Nat
  | (.string bytes, d) => bytes.length + uptoBulk d + 1
  | (_, d) => uptoBulk d + 1
 end
def uptoSmall : (H : Type) → List (DataW H) → Bool := fun _ ds => decide (uptoBulkAll ds ≤ 1048576)
def OpenSpec.upto (s : _root_.Go.ChangeSpec) : _root_.Go.OpenSpec := { _root_.Go.OpenSpec.ofChange s with cond := some uptoSmall }

/-- 'conciergelaw1.WorldAll', WHERE WHAT IT READS IS OF BULK AT MOST 1048576: true; the input reads as it did. -/
def worldAllUptoRow : OpenClaim := { program := "ytkdmadgdnbehbaa", sum := "6f9414e2597523430a4a9e6c9de408d213727a53026c979666315a6920e213da", func := "concierge/conciergelaw1.WorldAll", spec := "worldAll", inPlace := ["maps.clone"], plainKeys := false, apart := false, narrowed := true }
def WorldAllUptoSaid : Prop := worldAllUptoRow.holds Try.pinned (OpenSpec.upto worldAllSpec)

/-- 'conciergelaw1.WorldCuts', WHERE WHAT IT READS IS OF BULK AT MOST 1048576: true; the input reads as it did. -/
def worldCutsUptoRow : OpenClaim := { program := "ytkdmadgdnbehbaa", sum := "6f9414e2597523430a4a9e6c9de408d213727a53026c979666315a6920e213da", func := "concierge/conciergelaw1.WorldCuts", spec := "worldCuts", inPlace := ["maps.clone"], plainKeys := false, apart := false, narrowed := true }
def WorldCutsUptoSaid : Prop := worldCutsUptoRow.holds Try.pinned (OpenSpec.upto worldCutsSpec)

/-- 'conciergelaw7.ServiceTable', WHERE WHAT IT READS IS OF BULK AT MOST 1048576: true; the input reads as it did. -/
def serviceTableUptoRow : OpenClaim := { program := "ytkdmadgdnbehbaa", sum := "6f9414e2597523430a4a9e6c9de408d213727a53026c979666315a6920e213da", func := "concierge/conciergelaw7.ServiceTable", spec := "serviceTable", inPlace := ["internal/bytealg.IndexByte", "internal/bytealg.Index", "internal/bytealg.IndexByteString", "internal/bytealg.IndexString"], unfollowed := true, recurses := true, named := ["internal/bytealg.MaxLen"], plainKeys := false, apart := false, narrowed := true }
def ServiceTableUptoSaid : Prop := serviceTableUptoRow.holds Try.pinned (OpenSpec.upto serviceTableSpec)

/-- 'conciergelaw7.ServiceNone', WHERE WHAT IT READS IS OF BULK AT MOST 1048576: true; the input reads as it did. -/
def serviceNoneUptoRow : OpenClaim := { program := "ytkdmadgdnbehbaa", sum := "6f9414e2597523430a4a9e6c9de408d213727a53026c979666315a6920e213da", func := "concierge/conciergelaw7.ServiceNone", spec := "serviceNone", inPlace := ["internal/bytealg.IndexByte", "internal/bytealg.Index", "internal/bytealg.IndexByteString", "internal/bytealg.IndexString"], unfollowed := true, recurses := true, named := ["internal/bytealg.MaxLen"], plainKeys := false, apart := false, narrowed := true }
def ServiceNoneUptoSaid : Prop := serviceNoneUptoRow.holds Try.pinned (OpenSpec.upto serviceNoneSpec)

/-- 'conciergelaw7.ServiceFirst', WHERE WHAT IT READS IS OF BULK AT MOST 1048576: true; the input reads as it did. -/
def serviceFirstUptoRow : OpenClaim := { program := "ytkdmadgdnbehbaa", sum := "6f9414e2597523430a4a9e6c9de408d213727a53026c979666315a6920e213da", func := "concierge/conciergelaw7.ServiceFirst", spec := "serviceFirst", inPlace := ["internal/bytealg.IndexByte", "internal/bytealg.Index", "internal/bytealg.IndexByteString", "internal/bytealg.IndexString"], unfollowed := true, recurses := true, named := ["internal/bytealg.MaxLen"], plainKeys := false, apart := false, narrowed := true }
def ServiceFirstUptoSaid : Prop := serviceFirstUptoRow.holds Try.pinned (OpenSpec.upto serviceFirstSpec)

end Rows
end Go.Proofs.Ytkdmadgdnbehbaa
