/-
  No cell of these rows narrows 'for every input' (looked for: loops, veiled, ifaces, maps, wideKeys, modest, calm, conditions, laid).
  DERIVED. THE GIVEN ROWS OF THIS SEAT. 4 by the template 'for every input the law returns true; each argument reads behind the call as it read before'; 0 by the template 'total and deterministic' (their statements: YtpdkjifalgeodaaTotals.lean).
  GIVEN WITH THE SEED: the statements are not yours to turn. If you find one false, say at which input.
  Laid BY PROGRAM, IN A SANDBOX (cutbox-rows.mjs): the forced cells as the released guide's own fill.sh prints them over the translation 2d77d90bf239c60a… (all of the seat's roots in one cut). By AI agents, Wed Nov 11 2026. No macro, syntax, notation, axiom, sorry.
-/
import Derived.Test.YtpdkjifalgeodaaChecked
import GoSem.Claim
import GoSem.ClaimJoined
import GoSem.ClaimMapViews
import Derived.JoinedTies
import Derived.KernelRfl
namespace Go.Proofs.Ytpdkjifalgeodaa
/- THE CELL 'sum', in the pinned program and in every row, IS THE sha256 OF THE DUMP (.gsa) THAT YtpdkjifalgeodaaProg.lean LOADS. Nothing in Lean hashes anything: it is a label: what it is worth is what the hold of that sum in a sandbox is worth. -/
noncomputable def Try.pinned : Pinned := { name := "ytpdkjifalgeodaa", sum := "2d77d90bf239c60a1e555eccd81de3dde734b5685b5cf53937427fc0f0eda763", checked := Try.checked }
namespace Rows
def none {H : Type} : Left H := { results := [], args := [] }

/-- 'conciergelaw12.SourceCalls': WHATEVER THE INPUT: true; the input reads as it did. -/
def sourceCallsSpec : ChangeSpec := { name := "sourceCalls", fn := fun _ => fun
  | [d1, d2, d3, d4] => { results := [.lit (.bool true)], args := [d1, d2, d3, d4] }
  | _ => none }
def sourceCallsRow : OpenClaim := { program := "ytpdkjifalgeodaa", sum := "2d77d90bf239c60a1e555eccd81de3dde734b5685b5cf53937427fc0f0eda763", func := "concierge/conciergelaw12.SourceCalls", spec := "sourceCalls", unfollowed := true, recurses := true, apart := false }
def SourceCallsSaid : Prop := sourceCallsRow.holds Try.pinned (OpenSpec.ofChange sourceCallsSpec)

/-- ITS FALSE NEIGHBOUR: 'it returns false'. Refute it at one input. -/
def sourceCallsWrong : ChangeSpec := { name := "sourceCalls", fn := fun _ => fun
  | [d1, d2, d3, d4] => { results := [.lit (.bool false)], args := [d1, d2, d3, d4] }
  | _ => none }
def SourceCallsWrongFalsely : Prop := sourceCallsRow.holds Try.pinned (OpenSpec.ofChange sourceCallsWrong)

/-- 'conciergelaw12.SourceRegistry': WHATEVER THE INPUT: true; the input reads as it did. -/
def sourceRegistrySpec : ChangeSpec := { name := "sourceRegistry", fn := fun _ => fun
  | [d] => { results := [.lit (.bool true)], args := [d] }
  | _ => none }
def sourceRegistryRow : OpenClaim := { program := "ytpdkjifalgeodaa", sum := "2d77d90bf239c60a1e555eccd81de3dde734b5685b5cf53937427fc0f0eda763", func := "concierge/conciergelaw12.SourceRegistry", spec := "sourceRegistry", unfollowed := true, recurses := true, apart := false }
def SourceRegistrySaid : Prop := sourceRegistryRow.holds Try.pinned (OpenSpec.ofChange sourceRegistrySpec)

/-- ITS FALSE NEIGHBOUR: 'it returns false'. Refute it at one input. -/
def sourceRegistryWrong : ChangeSpec := { name := "sourceRegistry", fn := fun _ => fun
  | [d] => { results := [.lit (.bool false)], args := [d] }
  | _ => none }
def SourceRegistryWrongFalsely : Prop := sourceRegistryRow.holds Try.pinned (OpenSpec.ofChange sourceRegistryWrong)

/-- 'conciergelaw12.SourceNone': WHATEVER THE INPUT: true; the input reads as it did. -/
def sourceNoneSpec : ChangeSpec := { name := "sourceNone", fn := fun _ => fun
  | [] => { results := [.lit (.bool true)], args := [] }
  | _ => none }
def sourceNoneRow : OpenClaim := { program := "ytpdkjifalgeodaa", sum := "2d77d90bf239c60a1e555eccd81de3dde734b5685b5cf53937427fc0f0eda763", func := "concierge/conciergelaw12.SourceNone", spec := "sourceNone", unfollowed := true, recurses := true, apart := false }
def SourceNoneSaid : Prop := sourceNoneRow.holds Try.pinned (OpenSpec.ofChange sourceNoneSpec)

/-- ITS FALSE NEIGHBOUR: 'it returns false'. Refute it at one input. -/
def sourceNoneWrong : ChangeSpec := { name := "sourceNone", fn := fun _ => fun
  | [] => { results := [.lit (.bool false)], args := [] }
  | _ => none }
def SourceNoneWrongFalsely : Prop := sourceNoneRow.holds Try.pinned (OpenSpec.ofChange sourceNoneWrong)

/-- 'conciergelaw12.SourceAble': WHATEVER THE INPUT: true; the input reads as it did. -/
def sourceAbleSpec : ChangeSpec := { name := "sourceAble", fn := fun _ => fun
  | [d1, d2] => { results := [.lit (.bool true)], args := [d1, d2] }
  | _ => none }
def sourceAbleRow : OpenClaim := { program := "ytpdkjifalgeodaa", sum := "2d77d90bf239c60a1e555eccd81de3dde734b5685b5cf53937427fc0f0eda763", func := "concierge/conciergelaw12.SourceAble", spec := "sourceAble", unfollowed := true, recurses := true, apart := false }
def SourceAbleSaid : Prop := sourceAbleRow.holds Try.pinned (OpenSpec.ofChange sourceAbleSpec)

/-- ITS FALSE NEIGHBOUR: 'it returns false'. Refute it at one input. -/
def sourceAbleWrong : ChangeSpec := { name := "sourceAble", fn := fun _ => fun
  | [d1, d2] => { results := [.lit (.bool false)], args := [d1, d2] }
  | _ => none }
def SourceAbleWrongFalsely : Prop := sourceAbleRow.holds Try.pinned (OpenSpec.ofChange sourceAbleWrong)

/- THE SECOND FORM. 'bulk': how many values and letters a reading holds, each counted each time it is reached (what is shared counts as often as it is met; a slice's spare places count too). A statement '..UptoSaid' is the law's where the arguments, and the package variables that the reading takes, are together of bulk at most 1048576: NARROWER than '..Said'. Prove '..Said' where nothing that the law and all that it calls make is longer than what came in: it says more and counts as full. Else prove '..UptoSaid'. A law counts once. -/
mutual
def uptoBulk {H : Type} : DataW H → Nat
  | .lit (.string bytes) => bytes.length + 1
  | .lit _ => 1
  | .nil => 1
  | .ptr d => uptoBulk d + 1
  | .slice elems spare => uptoBulkAll elems + uptoBulkAll spare + 1
  | .agg parts => uptoBulkAll parts + 1
  | .iface _ d => uptoBulk d + 1
  | .map entries => uptoBulkEntries entries + 1
  | .held _ => 1
def uptoBulkAll {H : Type} : List (DataW H) → Nat
  | [] => 0
  | d :: r => uptoBulk d + uptoBulkAll r
def uptoBulkEntries {H : Type} : List (Lit × DataW H) → Nat
  | [] => 0
  | x :: r => uptoBulkEntry x + uptoBulkEntries r
def uptoBulkEntry {H : Type} : Lit × DataW H → Nat
  | (.string bytes, d) => bytes.length + uptoBulk d + 1
  | (_, d) => uptoBulk d + 1
 end
def uptoSmall : (H : Type) → List (DataW H) → Bool := fun _ ds => decide (uptoBulkAll ds ≤ 1048576)
def OpenSpec.upto (s : _root_.Go.ChangeSpec) : _root_.Go.OpenSpec := { _root_.Go.OpenSpec.ofChange s with cond := some uptoSmall }

/-- 'conciergelaw12.SourceCalls', WHERE WHAT IT READS IS OF BULK AT MOST 1048576: true; the input reads as it did. -/
def sourceCallsUptoRow : OpenClaim := { program := "ytpdkjifalgeodaa", sum := "2d77d90bf239c60a1e555eccd81de3dde734b5685b5cf53937427fc0f0eda763", func := "concierge/conciergelaw12.SourceCalls", spec := "sourceCalls", unfollowed := true, recurses := true, apart := false, narrowed := true }
def SourceCallsUptoSaid : Prop := sourceCallsUptoRow.holds Try.pinned (OpenSpec.upto sourceCallsSpec)

/-- 'conciergelaw12.SourceRegistry', WHERE WHAT IT READS IS OF BULK AT MOST 1048576: true; the input reads as it did. -/
def sourceRegistryUptoRow : OpenClaim := { program := "ytpdkjifalgeodaa", sum := "2d77d90bf239c60a1e555eccd81de3dde734b5685b5cf53937427fc0f0eda763", func := "concierge/conciergelaw12.SourceRegistry", spec := "sourceRegistry", unfollowed := true, recurses := true, apart := false, narrowed := true }
def SourceRegistryUptoSaid : Prop := sourceRegistryUptoRow.holds Try.pinned (OpenSpec.upto sourceRegistrySpec)

/-- 'conciergelaw12.SourceNone', WHERE WHAT IT READS IS OF BULK AT MOST 1048576: true; the input reads as it did. -/
def sourceNoneUptoRow : OpenClaim := { program := "ytpdkjifalgeodaa", sum := "2d77d90bf239c60a1e555eccd81de3dde734b5685b5cf53937427fc0f0eda763", func := "concierge/conciergelaw12.SourceNone", spec := "sourceNone", unfollowed := true, recurses := true, apart := false, narrowed := true }
def SourceNoneUptoSaid : Prop := sourceNoneUptoRow.holds Try.pinned (OpenSpec.upto sourceNoneSpec)

/-- 'conciergelaw12.SourceAble', WHERE WHAT IT READS IS OF BULK AT MOST 1048576: true; the input reads as it did. -/
def sourceAbleUptoRow : OpenClaim := { program := "ytpdkjifalgeodaa", sum := "2d77d90bf239c60a1e555eccd81de3dde734b5685b5cf53937427fc0f0eda763", func := "concierge/conciergelaw12.SourceAble", spec := "sourceAble", unfollowed := true, recurses := true, apart := false, narrowed := true }
def SourceAbleUptoSaid : Prop := sourceAbleUptoRow.holds Try.pinned (OpenSpec.upto sourceAbleSpec)

end Rows
end Go.Proofs.Ytpdkjifalgeodaa
