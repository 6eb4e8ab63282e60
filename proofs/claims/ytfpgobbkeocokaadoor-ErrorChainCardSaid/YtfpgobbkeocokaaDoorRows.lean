/-
  NARROWER THAN 'FOR EVERY INPUT', by the rows' own cells (each row's printed sentence says how): ErrorChain: laid · ErrorGuard: laid · ErrorDeep: laid.
  DERIVED. THE GIVEN ROWS OF THIS SEAT. 3 by the template 'for every input the law returns true; each argument reads behind the call as it read before'; 0 by the template 'total and deterministic' (their statements: YtfpgobbkeocokaaDoorTotals.lean).
  GIVEN WITH THE SEED: the statements are not yours to turn. If you find one false, say at which input.
  Laid BY PROGRAM, IN A SANDBOX (cutbox-rows.mjs): the forced cells as the released guide's own fill.sh prints them over the translation b3e609c88f0287a5… (all of the seat's roots in one cut). By AI agents, Wed Nov 11 2026. No macro, syntax, notation, axiom, sorry.
-/
import Derived.Test.YtfpgobbkeocokaaDoorChecked
import GoSem.Claim
import GoSem.ClaimJoined
import GoSem.ClaimMapViews
import Derived.JoinedTies
import Derived.KernelRfl
namespace Go.Proofs.YtfpgobbkeocokaaDoor
/- THE CELL 'sum', in the pinned program and in every row, IS THE sha256 OF THE DUMP (.gsa) THAT YtfpgobbkeocokaaDoorProg.lean LOADS. Nothing in Lean hashes anything: it is a label: what it is worth is what the hold of that sum in a sandbox is worth. -/
noncomputable def Tryd.pinned : Pinned := { name := "ytfpgobbkeocokaadoor", sum := "b3e609c88f0287a5a5f59a4985fbe87cf242e2f9396a2aad0e10ad4b387cf14a", checked := Tryd.checked }
namespace Rows
def none {H : Type} : Left H := { results := [], args := [] }

/- WHAT THE LISTED PACKAGE-LEVEL VARIABLES READ AS WHEN THE CALL BEGINS. Each datum BY PROGRAM (the guide's laid-datum.mjs) off the statement by which the dump's own 'gosem.cut.vars' lays the variable. In a bare row this is a premise. The card (YtfpgobbkeocokaaDoorCards.lean) ties it to the program's text. -/
def laid_errors_errorType {H : Type} : DataW H := .iface "internal/reflectlite.rtype" (.agg [.ptr (.lit (.string [101, 114, 114, 111, 114]))])

/-- 'conciergelaw9.ErrorChain': WHATEVER THE INPUT: true; the input reads as it did. -/
def errorChainSpec : ChangeSpec := { name := "errorChain", fn := fun _ => fun
  | [d1, d2, d3] => { results := [.lit (.bool true)], args := [d1, d2, d3] }
  | _ => none }
def errorChainRow : OpenClaim := { program := "ytfpgobbkeocokaadoor", sum := "b3e609c88f0287a5a5f59a4985fbe87cf242e2f9396a2aad0e10ad4b387cf14a", func := "concierge/conciergelaw9.ErrorChain", spec := "errorChain", inPlace := ["internal/reflectlite.TypeOf", "internal/reflectlite.ValueOf", "(internal/reflectlite.Value).Type", "(internal/reflectlite.Value).IsNil", "(internal/reflectlite.Value).Elem", "(internal/reflectlite.Value).Set"], unfollowed := true, recurses := true, named := ["errors.errorType"], apart := false, laid := [("errors.errorType", laid_errors_errorType)] }
def ErrorChainSaid : Prop := errorChainRow.holds Tryd.pinned (OpenSpec.ofChange errorChainSpec)

/-- ITS FALSE NEIGHBOUR: 'it returns false'. Refute it at one input. -/
def errorChainWrong : ChangeSpec := { name := "errorChain", fn := fun _ => fun
  | [d1, d2, d3] => { results := [.lit (.bool false)], args := [d1, d2, d3] }
  | _ => none }
def ErrorChainWrongFalsely : Prop := errorChainRow.holds Tryd.pinned (OpenSpec.ofChange errorChainWrong)

/-- 'conciergelaw9.ErrorGuard': WHATEVER THE INPUT: true; the input reads as it did. -/
def errorGuardSpec : ChangeSpec := { name := "errorGuard", fn := fun _ => fun
  | [d1, d2] => { results := [.lit (.bool true)], args := [d1, d2] }
  | _ => none }
def errorGuardRow : OpenClaim := { program := "ytfpgobbkeocokaadoor", sum := "b3e609c88f0287a5a5f59a4985fbe87cf242e2f9396a2aad0e10ad4b387cf14a", func := "concierge/conciergelaw9.ErrorGuard", spec := "errorGuard", inPlace := ["internal/reflectlite.TypeOf", "internal/reflectlite.ValueOf", "(internal/reflectlite.Value).Type", "(internal/reflectlite.Value).IsNil", "(internal/reflectlite.Value).Elem", "(internal/reflectlite.Value).Set"], unfollowed := true, recurses := true, named := ["errors.errorType"], apart := false, laid := [("errors.errorType", laid_errors_errorType)] }
def ErrorGuardSaid : Prop := errorGuardRow.holds Tryd.pinned (OpenSpec.ofChange errorGuardSpec)

/-- ITS FALSE NEIGHBOUR: 'it returns false'. Refute it at one input. -/
def errorGuardWrong : ChangeSpec := { name := "errorGuard", fn := fun _ => fun
  | [d1, d2] => { results := [.lit (.bool false)], args := [d1, d2] }
  | _ => none }
def ErrorGuardWrongFalsely : Prop := errorGuardRow.holds Tryd.pinned (OpenSpec.ofChange errorGuardWrong)

/-- 'conciergelaw9.ErrorDeep': WHATEVER THE INPUT: true; the input reads as it did. -/
def errorDeepSpec : ChangeSpec := { name := "errorDeep", fn := fun _ => fun
  | [d1, d2] => { results := [.lit (.bool true)], args := [d1, d2] }
  | _ => none }
def errorDeepRow : OpenClaim := { program := "ytfpgobbkeocokaadoor", sum := "b3e609c88f0287a5a5f59a4985fbe87cf242e2f9396a2aad0e10ad4b387cf14a", func := "concierge/conciergelaw9.ErrorDeep", spec := "errorDeep", inPlace := ["internal/reflectlite.TypeOf", "internal/reflectlite.ValueOf", "(internal/reflectlite.Value).Type", "(internal/reflectlite.Value).IsNil", "(internal/reflectlite.Value).Elem", "(internal/reflectlite.Value).Set"], unfollowed := true, recurses := true, named := ["errors.errorType"], apart := false, laid := [("errors.errorType", laid_errors_errorType)] }
def ErrorDeepSaid : Prop := errorDeepRow.holds Tryd.pinned (OpenSpec.ofChange errorDeepSpec)

/-- ITS FALSE NEIGHBOUR: 'it returns false'. Refute it at one input. -/
def errorDeepWrong : ChangeSpec := { name := "errorDeep", fn := fun _ => fun
  | [d1, d2] => { results := [.lit (.bool false)], args := [d1, d2] }
  | _ => none }
def ErrorDeepWrongFalsely : Prop := errorDeepRow.holds Tryd.pinned (OpenSpec.ofChange errorDeepWrong)

/- THE SECOND FORM. 'bulk': how many values and letters a reading holds, each counted each time it is reached (what is shared counts as often as it is met; a slice's spare places count too). A statement '..UptoSaid' is the law's where the arguments, and the package variables that the reading takes, are together of bulk at most 1048576: NARROWER than '..Said'. Prove '..Said' where nothing that the law and all that it calls make is longer than what came in: it says more and counts as full. Else prove '..UptoSaid'. A law counts once. -/
mutual
def uptoBulk {H : Type} : DataW H → Nat
  | .lit (.string bytes) => bytes.length + 1
  | .lit _ => 1
  | .nil => 1
  | .ptr d => uptoBulk d + 1
  | .slice elems spare => uptoBulkAll elems + uptoBulkAll spare + 1
  | .agg parts => uptoBulkAll parts + 1
  | .iface _ d => uptoBulk d + 1
  | .map entries => uptoBulkEntries entries + 1
  | .held _ => 1
def uptoBulkAll {H : Type} : List (DataW H) → Nat
  | [] => 0
  | d :: r => uptoBulk d + uptoBulkAll r
def uptoBulkEntries {H : Type} : List (Lit × DataW H) → Nat
  | [] => 0
  | x :: r => uptoBulkEntry x + uptoBulkEntries r
def uptoBulkEntry {H : Type} : Lit × DataW H → Nat
  | (.string bytes, d) => bytes.length + uptoBulk d + 1
  | (_, d) => uptoBulk d + 1
 end
def uptoSmall : (H : Type) → List (DataW H) → Bool := fun _ ds => decide (uptoBulkAll ds ≤ 1048576)
def OpenSpec.upto (s : _root_.Go.ChangeSpec) : _root_.Go.OpenSpec := { _root_.Go.OpenSpec.ofChange s with cond := some uptoSmall }

/-- 'conciergelaw9.ErrorChain', WHERE WHAT IT READS IS OF BULK AT MOST 1048576: true; the input reads as it did. -/
def errorChainUptoRow : OpenClaim := { program := "ytfpgobbkeocokaadoor", sum := "b3e609c88f0287a5a5f59a4985fbe87cf242e2f9396a2aad0e10ad4b387cf14a", func := "concierge/conciergelaw9.ErrorChain", spec := "errorChain", inPlace := ["internal/reflectlite.TypeOf", "internal/reflectlite.ValueOf", "(internal/reflectlite.Value).Type", "(internal/reflectlite.Value).IsNil", "(internal/reflectlite.Value).Elem", "(internal/reflectlite.Value).Set"], unfollowed := true, recurses := true, named := ["errors.errorType"], apart := false, laid := [("errors.errorType", laid_errors_errorType)], narrowed := true }
def ErrorChainUptoSaid : Prop := errorChainUptoRow.holds Tryd.pinned (OpenSpec.upto errorChainSpec)

/-- 'conciergelaw9.ErrorGuard', WHERE WHAT IT READS IS OF BULK AT MOST 1048576: true; the input reads as it did. -/
def errorGuardUptoRow : OpenClaim := { program := "ytfpgobbkeocokaadoor", sum := "b3e609c88f0287a5a5f59a4985fbe87cf242e2f9396a2aad0e10ad4b387cf14a", func := "concierge/conciergelaw9.ErrorGuard", spec := "errorGuard", inPlace := ["internal/reflectlite.TypeOf", "internal/reflectlite.ValueOf", "(internal/reflectlite.Value).Type", "(internal/reflectlite.Value).IsNil", "(internal/reflectlite.Value).Elem", "(internal/reflectlite.Value).Set"], unfollowed := true, recurses := true, named := ["errors.errorType"], apart := false, laid := [("errors.errorType", laid_errors_errorType)], narrowed := true }
def ErrorGuardUptoSaid : Prop := errorGuardUptoRow.holds Tryd.pinned (OpenSpec.upto errorGuardSpec)

/-- 'conciergelaw9.ErrorDeep', WHERE WHAT IT READS IS OF BULK AT MOST 1048576: true; the input reads as it did. -/
def errorDeepUptoRow : OpenClaim := { program := "ytfpgobbkeocokaadoor", sum := "b3e609c88f0287a5a5f59a4985fbe87cf242e2f9396a2aad0e10ad4b387cf14a", func := "concierge/conciergelaw9.ErrorDeep", spec := "errorDeep", inPlace := ["internal/reflectlite.TypeOf", "internal/reflectlite.ValueOf", "(internal/reflectlite.Value).Type", "(internal/reflectlite.Value).IsNil", "(internal/reflectlite.Value).Elem", "(internal/reflectlite.Value).Set"], unfollowed := true, recurses := true, named := ["errors.errorType"], apart := false, laid := [("errors.errorType", laid_errors_errorType)], narrowed := true }
def ErrorDeepUptoSaid : Prop := errorDeepUptoRow.holds Tryd.pinned (OpenSpec.upto errorDeepSpec)

end Rows
end Go.Proofs.YtfpgobbkeocokaaDoor
