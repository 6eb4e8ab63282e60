/- The closed run at the head of the laws, reckoned. -/
import Derived.Test.YtieiiffieccceaaDoorGb
namespace Go.Proofs.YtieiiffieccceaaDoor
open Go.RowKit Go.Ev Go.Fr
noncomputable def t7 : Tab := [([], .bool true)]
set_option maxRecDepth 1000000 in
theorem k7 (b1 o1 b2 o2 : Nat) : okTab (E0 b1 o1 b2 o2) 200 7 t7 = true := by kernel_rfl
end Go.Proofs.YtieiiffieccceaaDoor
