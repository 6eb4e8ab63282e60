/-
  DERIVED. GIVEN WITH THE SEED: THE PROGRAM's TIES (one call each: nine closed facts by the kernel) AND EACH ROW's TIE, after the 31st guide's Derived/Test/Toyas{Tie, Card}.lean. No idea stands in it: it is a product of the set-up. Laid BY PROGRAM, IN A SANDBOX (cutbox-door.mjs). By AI agents, Wed Nov 11 2026. No macro, syntax, notation, axiom, sorry.
-/
import Derived.Test.YtpighkpdnifejaaDoorRows
import Derived.LaidByTextLater
import Derived.SevenTiedAt
import Derived.LaidSub
import Derived.LaidOnce
namespace Go.Proofs.YtpighkpdnifejaaDoor
open Go
set_option maxRecDepth 100000
theorem seatTie1 : Tryd.prog.laidByTextLater [("concierge/policy.databases", Rows.laid_concierge_policy_databases), ("concierge/policy.outcomes", Rows.laid_concierge_policy_outcomes), ("concierge/policy.actions", Rows.laid_concierge_policy_actions), ("concierge/policy.unruled", Rows.laid_concierge_policy_unruled)] [.data, .data, .data, .data] true :=
  Program.laidByTextLater_by_one 29 8 6 (by kernel_rfl) (by kernel_rfl) (by kernel_rfl) (by kernel_rfl) (by kernel_rfl) (by kernel_rfl) (fun _ _ => by kernel_rfl)
theorem noOwnUnsafe : Tryd.pinned.checked.prog.headLifts.contains "ownunsafe" = false := by kernel_rfl
theorem tie : Tryd.prog.laidByTextLater [("concierge/policy.databases", Rows.laid_concierge_policy_databases), ("concierge/policy.outcomes", Rows.laid_concierge_policy_outcomes), ("concierge/policy.actions", Rows.laid_concierge_policy_actions), ("concierge/policy.unruled", Rows.laid_concierge_policy_unruled)] [.data, .data, .data, .data] true :=
  Program.laidByTextLater.sub seatTie1 ["concierge/policy.databases", "concierge/policy.outcomes", "concierge/policy.actions", "concierge/policy.unruled"] (by kernel_rfl) (by kernel_rfl)
theorem policyParse_row_tie : Rows.policyParseRow.laidByTextAt .later Tryd.pinned [.data, .data, .data, .data] true :=
  OpenClaim.laidByTextAt_later rfl rfl tie noOwnUnsafe
theorem policyRules_row_tie : Rows.policyRulesRow.laidByTextAt .later Tryd.pinned [.data, .data, .data, .data] true :=
  OpenClaim.laidByTextAt_later rfl rfl tie noOwnUnsafe
theorem policyPlaces_row_tie : Rows.policyPlacesRow.laidByTextAt .later Tryd.pinned [.data, .data, .data, .data] true :=
  OpenClaim.laidByTextAt_later rfl rfl tie noOwnUnsafe
theorem policyOrder_row_tie : Rows.policyOrderRow.laidByTextAt .later Tryd.pinned [.data, .data, .data, .data] true :=
  OpenClaim.laidByTextAt_later rfl rfl tie noOwnUnsafe
theorem policyParseUpto_row_tie : Rows.policyParseUptoRow.laidByTextAt .later Tryd.pinned [.data, .data, .data, .data] true :=
  OpenClaim.laidByTextAt_later rfl rfl tie noOwnUnsafe
theorem policyRulesUpto_row_tie : Rows.policyRulesUptoRow.laidByTextAt .later Tryd.pinned [.data, .data, .data, .data] true :=
  OpenClaim.laidByTextAt_later rfl rfl tie noOwnUnsafe
theorem policyPlacesUpto_row_tie : Rows.policyPlacesUptoRow.laidByTextAt .later Tryd.pinned [.data, .data, .data, .data] true :=
  OpenClaim.laidByTextAt_later rfl rfl tie noOwnUnsafe
theorem policyOrderUpto_row_tie : Rows.policyOrderUptoRow.laidByTextAt .later Tryd.pinned [.data, .data, .data, .data] true :=
  OpenClaim.laidByTextAt_later rfl rfl tie noOwnUnsafe
end Go.Proofs.YtpighkpdnifejaaDoor
