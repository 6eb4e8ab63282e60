/-
  NARROWER THAN 'FOR EVERY INPUT', by the rows' own cells (each row's printed sentence says how): PolicyParse: laid · PolicyRules: laid · PolicyPlaces: laid · PolicyOrder: laid.
  DERIVED. THE GIVEN ROWS OF THIS SEAT. 4 by the template 'for every input the law returns true; each argument reads behind the call as it read before'; 0 by the template 'total and deterministic' (their statements: YtpighkpdnifejaaDoorTotals.lean).
  GIVEN WITH THE SEED: the statements are not yours to turn. If you find one false, say at which input.
  Laid BY PROGRAM, IN A SANDBOX (cutbox-rows.mjs): the forced cells as the released guide's own fill.sh prints them over the translation 2df588bd80614ecd… (all of the seat's roots in one cut). By AI agents, Wed Nov 11 2026. No macro, syntax, notation, axiom, sorry.
-/
import Derived.Test.YtpighkpdnifejaaDoorChecked
import GoSem.Claim
import GoSem.ClaimJoined
import GoSem.ClaimMapViews
import Derived.JoinedTies
import Derived.KernelRfl
namespace Go.Proofs.YtpighkpdnifejaaDoor
/- THE CELL 'sum', in the pinned program and in every row, IS THE sha256 OF THE DUMP (.gsa) THAT YtpighkpdnifejaaDoorProg.lean LOADS. Nothing in Lean hashes anything: it is a label: what it is worth is what the hold of that sum in a sandbox is worth. -/
noncomputable def Tryd.pinned : Pinned := { name := "ytpighkpdnifejaadoor", sum := "2df588bd80614ecd1e2512a60ab112bc2a586e793df7c9a1e8301e2b3e61ee24", checked := Tryd.checked }
namespace Rows
def none {H : Type} : Left H := { results := [], args := [] }

/- WHAT THE LISTED PACKAGE-LEVEL VARIABLES READ AS WHEN THE CALL BEGINS. Each datum BY PROGRAM (the guide's laid-datum.mjs) off the statement by which the dump's own 'gosem.cut.vars' lays the variable. In a bare row this is a premise. The card (YtpighkpdnifejaaDoorCards.lean) ties it to the program's text. -/
def laid_concierge_policy_databases {H : Type} : DataW H := .agg [.lit (.string []), .lit (.string [104, 111, 115, 116, 115, 58]), .lit (.string [97, 100, 100, 114, 115, 58]), .lit (.string [115, 101, 114, 118, 105, 99, 101, 115, 58]), .lit (.string [112, 111, 114, 116, 115, 58])]
def laid_concierge_policy_outcomes {H : Type} : DataW H := .agg [.lit (.string [83, 85, 67, 67, 69, 83, 83]), .lit (.string [78, 79, 84, 70, 79, 85, 78, 68]), .lit (.string [85, 78, 65, 86, 65, 73, 76]), .lit (.string [84, 82, 89, 65, 71, 65, 73, 78])]
def laid_concierge_policy_actions {H : Type} : DataW H := .agg [.lit (.string []), .lit (.string [114, 101, 116, 117, 114, 110]), .lit (.string [99, 111, 110, 116, 105, 110, 117, 101]), .lit (.string [109, 101, 114, 103, 101])]
def laid_concierge_policy_unruled {H : Type} : DataW H := .agg [.lit (.int .i64 1), .lit (.int .i64 2), .lit (.int .i64 2), .lit (.int .i64 2)]

/-- 'conciergelaw10.PolicyParse': WHATEVER THE INPUT: true; the input reads as it did. -/
def policyParseSpec : ChangeSpec := { name := "policyParse", fn := fun _ => fun
  | [d] => { results := [.lit (.bool true)], args := [d] }
  | _ => none }
def policyParseRow : OpenClaim := { program := "ytpighkpdnifejaadoor", sum := "2df588bd80614ecd1e2512a60ab112bc2a586e793df7c9a1e8301e2b3e61ee24", func := "concierge/conciergelaw10.PolicyParse", spec := "policyParse", inPlace := ["internal/bytealg.IndexByte", "internal/bytealg.Index", "internal/bytealg.IndexByteString", "internal/bytealg.IndexString", "internal/abi.NoEscape", "internal/bytealg.MakeNoZero"], unfollowed := true, recurses := true, named := ["internal/bytealg.MaxLen", "concierge/policy.databases", "concierge/policy.unruled", "concierge/policy.outcomes", "concierge/policy.actions"], apart := false, laid := [("concierge/policy.databases", laid_concierge_policy_databases), ("concierge/policy.outcomes", laid_concierge_policy_outcomes), ("concierge/policy.actions", laid_concierge_policy_actions), ("concierge/policy.unruled", laid_concierge_policy_unruled)] }
def PolicyParseSaid : Prop := policyParseRow.holds Tryd.pinned (OpenSpec.ofChange policyParseSpec)

/-- ITS FALSE NEIGHBOUR: 'it returns false'. Refute it at one input. -/
def policyParseWrong : ChangeSpec := { name := "policyParse", fn := fun _ => fun
  | [d] => { results := [.lit (.bool false)], args := [d] }
  | _ => none }
def PolicyParseWrongFalsely : Prop := policyParseRow.holds Tryd.pinned (OpenSpec.ofChange policyParseWrong)

/-- 'conciergelaw10.PolicyRules': WHATEVER THE INPUT: true; the input reads as it did. -/
def policyRulesSpec : ChangeSpec := { name := "policyRules", fn := fun _ => fun
  | [d] => { results := [.lit (.bool true)], args := [d] }
  | _ => none }
def policyRulesRow : OpenClaim := { program := "ytpighkpdnifejaadoor", sum := "2df588bd80614ecd1e2512a60ab112bc2a586e793df7c9a1e8301e2b3e61ee24", func := "concierge/conciergelaw10.PolicyRules", spec := "policyRules", inPlace := ["internal/bytealg.IndexByte", "internal/bytealg.Index", "internal/bytealg.IndexByteString", "internal/bytealg.IndexString", "internal/abi.NoEscape", "internal/bytealg.MakeNoZero"], unfollowed := true, recurses := true, named := ["internal/bytealg.MaxLen", "concierge/policy.databases", "concierge/policy.unruled", "concierge/policy.outcomes", "concierge/policy.actions"], apart := false, laid := [("concierge/policy.databases", laid_concierge_policy_databases), ("concierge/policy.outcomes", laid_concierge_policy_outcomes), ("concierge/policy.actions", laid_concierge_policy_actions), ("concierge/policy.unruled", laid_concierge_policy_unruled)] }
def PolicyRulesSaid : Prop := policyRulesRow.holds Tryd.pinned (OpenSpec.ofChange policyRulesSpec)

/-- ITS FALSE NEIGHBOUR: 'it returns false'. Refute it at one input. -/
def policyRulesWrong : ChangeSpec := { name := "policyRules", fn := fun _ => fun
  | [d] => { results := [.lit (.bool false)], args := [d] }
  | _ => none }
def PolicyRulesWrongFalsely : Prop := policyRulesRow.holds Tryd.pinned (OpenSpec.ofChange policyRulesWrong)

/-- 'conciergelaw10.PolicyPlaces': WHATEVER THE INPUT: true; the input reads as it did. -/
def policyPlacesSpec : ChangeSpec := { name := "policyPlaces", fn := fun _ => fun
  | [] => { results := [.lit (.bool true)], args := [] }
  | _ => none }
def policyPlacesRow : OpenClaim := { program := "ytpighkpdnifejaadoor", sum := "2df588bd80614ecd1e2512a60ab112bc2a586e793df7c9a1e8301e2b3e61ee24", func := "concierge/conciergelaw10.PolicyPlaces", spec := "policyPlaces", inPlace := ["internal/bytealg.IndexByte", "internal/bytealg.Index", "internal/bytealg.IndexByteString", "internal/bytealg.IndexString", "internal/abi.NoEscape", "internal/bytealg.MakeNoZero"], unfollowed := true, recurses := true, named := ["internal/bytealg.MaxLen", "concierge/policy.databases", "concierge/policy.unruled", "concierge/policy.outcomes", "concierge/policy.actions"], apart := false, laid := [("concierge/policy.databases", laid_concierge_policy_databases), ("concierge/policy.outcomes", laid_concierge_policy_outcomes), ("concierge/policy.actions", laid_concierge_policy_actions), ("concierge/policy.unruled", laid_concierge_policy_unruled)] }
def PolicyPlacesSaid : Prop := policyPlacesRow.holds Tryd.pinned (OpenSpec.ofChange policyPlacesSpec)

/-- ITS FALSE NEIGHBOUR: 'it returns false'. Refute it at one input. -/
def policyPlacesWrong : ChangeSpec := { name := "policyPlaces", fn := fun _ => fun
  | [] => { results := [.lit (.bool false)], args := [] }
  | _ => none }
def PolicyPlacesWrongFalsely : Prop := policyPlacesRow.holds Tryd.pinned (OpenSpec.ofChange policyPlacesWrong)

/-- 'conciergelaw10.PolicyOrder': WHATEVER THE INPUT: true; the input reads as it did. -/
def policyOrderSpec : ChangeSpec := { name := "policyOrder", fn := fun _ => fun
  | [d] => { results := [.lit (.bool true)], args := [d] }
  | _ => none }
def policyOrderRow : OpenClaim := { program := "ytpighkpdnifejaadoor", sum := "2df588bd80614ecd1e2512a60ab112bc2a586e793df7c9a1e8301e2b3e61ee24", func := "concierge/conciergelaw10.PolicyOrder", spec := "policyOrder", inPlace := ["internal/bytealg.IndexByte", "internal/bytealg.Index", "internal/bytealg.IndexByteString", "internal/bytealg.IndexString", "internal/abi.NoEscape", "internal/bytealg.MakeNoZero"], unfollowed := true, recurses := true, named := ["internal/bytealg.MaxLen", "concierge/policy.databases", "concierge/policy.unruled", "concierge/policy.outcomes", "concierge/policy.actions"], apart := false, laid := [("concierge/policy.databases", laid_concierge_policy_databases), ("concierge/policy.outcomes", laid_concierge_policy_outcomes), ("concierge/policy.actions", laid_concierge_policy_actions), ("concierge/policy.unruled", laid_concierge_policy_unruled)] }
def PolicyOrderSaid : Prop := policyOrderRow.holds Tryd.pinned (OpenSpec.ofChange policyOrderSpec)

/-- ITS FALSE NEIGHBOUR: 'it returns false'. Refute it at one input. -/
def policyOrderWrong : ChangeSpec := { name := "policyOrder", fn := fun _ => fun
  | [d] => { results := [.lit (.bool false)], args := [d] }
  | _ => none }
def PolicyOrderWrongFalsely : Prop := policyOrderRow.holds Tryd.pinned (OpenSpec.ofChange policyOrderWrong)

/- THE SECOND FORM. 'bulk': how many values and letters a reading holds, each counted each time it is reached (what is shared counts as often as it is met; a slice's spare places count too). A statement '..UptoSaid' is the law's where the arguments, and the package variables that the reading takes, are together of bulk at most 1048576: NARROWER than '..Said'. Prove '..Said' where nothing that the law and all that it calls make is longer than what came in: it says more and counts as full. Else prove '..UptoSaid'. A law counts once. -/
mutual
def uptoBulk {H : Type} : DataW H → Nat
  | .lit (.string bytes) => bytes.length + 1
  | .lit _ => 1
  | .nil => 1
  | .ptr d => uptoBulk d + 1
  | .slice elems spare => uptoBulkAll elems + uptoBulkAll spare + 1
  | .agg parts => uptoBulkAll parts + 1
  | .iface _ d => uptoBulk d + 1
  | .map entries => uptoBulkEntries entries + 1
  | .held _ => 1
def uptoBulkAll {H : Type} : List (DataW H) → Nat
  | [] => 0
  | d :: r => uptoBulk d + uptoBulkAll r
def uptoBulkEntries {H : Type} : List (Lit × DataW H) → Nat
  | [] => 0
  | x :: r => uptoBulkEntry x + uptoBulkEntries r
def uptoBulkEntry {H : Type} : Lit × DataW H → Nat
  | (.string bytes, d) => bytes.length + uptoBulk d + 1
  | (_, d) => uptoBulk d + 1
 end
def uptoSmall : (H : Type) → List (DataW H) → Bool := fun _ ds => decide (uptoBulkAll ds ≤ 1048576)
def OpenSpec.upto (s : _root_.Go.ChangeSpec) : _root_.Go.OpenSpec := { _root_.Go.OpenSpec.ofChange s with cond := some uptoSmall }

/-- 'conciergelaw10.PolicyParse', WHERE WHAT IT READS IS OF BULK AT MOST 1048576: true; the input reads as it did. -/
def policyParseUptoRow : OpenClaim := { program := "ytpighkpdnifejaadoor", sum := "2df588bd80614ecd1e2512a60ab112bc2a586e793df7c9a1e8301e2b3e61ee24", func := "concierge/conciergelaw10.PolicyParse", spec := "policyParse", inPlace := ["internal/bytealg.IndexByte", "internal/bytealg.Index", "internal/bytealg.IndexByteString", "internal/bytealg.IndexString", "internal/abi.NoEscape", "internal/bytealg.MakeNoZero"], unfollowed := true, recurses := true, named := ["internal/bytealg.MaxLen", "concierge/policy.databases", "concierge/policy.unruled", "concierge/policy.outcomes", "concierge/policy.actions"], apart := false, laid := [("concierge/policy.databases", laid_concierge_policy_databases), ("concierge/policy.outcomes", laid_concierge_policy_outcomes), ("concierge/policy.actions", laid_concierge_policy_actions), ("concierge/policy.unruled", laid_concierge_policy_unruled)], narrowed := true }
def PolicyParseUptoSaid : Prop := policyParseUptoRow.holds Tryd.pinned (OpenSpec.upto policyParseSpec)

/-- 'conciergelaw10.PolicyRules', WHERE WHAT IT READS IS OF BULK AT MOST 1048576: true; the input reads as it did. -/
def policyRulesUptoRow : OpenClaim := { program := "ytpighkpdnifejaadoor", sum := "2df588bd80614ecd1e2512a60ab112bc2a586e793df7c9a1e8301e2b3e61ee24", func := "concierge/conciergelaw10.PolicyRules", spec := "policyRules", inPlace := ["internal/bytealg.IndexByte", "internal/bytealg.Index", "internal/bytealg.IndexByteString", "internal/bytealg.IndexString", "internal/abi.NoEscape", "internal/bytealg.MakeNoZero"], unfollowed := true, recurses := true, named := ["internal/bytealg.MaxLen", "concierge/policy.databases", "concierge/policy.unruled", "concierge/policy.outcomes", "concierge/policy.actions"], apart := false, laid := [("concierge/policy.databases", laid_concierge_policy_databases), ("concierge/policy.outcomes", laid_concierge_policy_outcomes), ("concierge/policy.actions", laid_concierge_policy_actions), ("concierge/policy.unruled", laid_concierge_policy_unruled)], narrowed := true }
def PolicyRulesUptoSaid : Prop := policyRulesUptoRow.holds Tryd.pinned (OpenSpec.upto policyRulesSpec)

/-- 'conciergelaw10.PolicyPlaces', WHERE WHAT IT READS IS OF BULK AT MOST 1048576: true; the input reads as it did. -/
def policyPlacesUptoRow : OpenClaim := { program := "ytpighkpdnifejaadoor", sum := "2df588bd80614ecd1e2512a60ab112bc2a586e793df7c9a1e8301e2b3e61ee24", func := "concierge/conciergelaw10.PolicyPlaces", spec := "policyPlaces", inPlace := ["internal/bytealg.IndexByte", "internal/bytealg.Index", "internal/bytealg.IndexByteString", "internal/bytealg.IndexString", "internal/abi.NoEscape", "internal/bytealg.MakeNoZero"], unfollowed := true, recurses := true, named := ["internal/bytealg.MaxLen", "concierge/policy.databases", "concierge/policy.unruled", "concierge/policy.outcomes", "concierge/policy.actions"], apart := false, laid := [("concierge/policy.databases", laid_concierge_policy_databases), ("concierge/policy.outcomes", laid_concierge_policy_outcomes), ("concierge/policy.actions", laid_concierge_policy_actions), ("concierge/policy.unruled", laid_concierge_policy_unruled)], narrowed := true }
def PolicyPlacesUptoSaid : Prop := policyPlacesUptoRow.holds Tryd.pinned (OpenSpec.upto policyPlacesSpec)

/-- 'conciergelaw10.PolicyOrder', WHERE WHAT IT READS IS OF BULK AT MOST 1048576: true; the input reads as it did. -/
def policyOrderUptoRow : OpenClaim := { program := "ytpighkpdnifejaadoor", sum := "2df588bd80614ecd1e2512a60ab112bc2a586e793df7c9a1e8301e2b3e61ee24", func := "concierge/conciergelaw10.PolicyOrder", spec := "policyOrder", inPlace := ["internal/bytealg.IndexByte", "internal/bytealg.Index", "internal/bytealg.IndexByteString", "internal/bytealg.IndexString", "internal/abi.NoEscape", "internal/bytealg.MakeNoZero"], unfollowed := true, recurses := true, named := ["internal/bytealg.MaxLen", "concierge/policy.databases", "concierge/policy.unruled", "concierge/policy.outcomes", "concierge/policy.actions"], apart := false, laid := [("concierge/policy.databases", laid_concierge_policy_databases), ("concierge/policy.outcomes", laid_concierge_policy_outcomes), ("concierge/policy.actions", laid_concierge_policy_actions), ("concierge/policy.unruled", laid_concierge_policy_unruled)], narrowed := true }
def PolicyOrderUptoSaid : Prop := policyOrderUptoRow.holds Tryd.pinned (OpenSpec.upto policyOrderSpec)

end Rows
end Go.Proofs.YtpighkpdnifejaaDoor
