/- Runs of Parse and Print at known texts, reckoned. -/
import Derived.Test.YtieiiffieccceaaDoorGb
namespace Go.Proofs.YtieiiffieccceaaDoor
open Go.RowKit Go.Ev Go.Fr
noncomputable def p0 : Tab := [
  ([.str [58, 58, 49]], .tuple [.str [0, 0, 0, 0, 0, 0, 0, 0, 0, 0, 0, 0, 0, 0, 0, 1], .bool true]),
  ([.str [48, 58, 48, 58, 48, 58, 48, 58, 48, 58, 48, 58, 48, 58, 49]], .tuple [.str [0, 0, 0, 0, 0, 0, 0, 0, 0, 0, 0, 0, 0, 0, 0, 1], .bool true]),
  ([.str [48, 58, 58, 49]], .tuple [.str [0, 0, 0, 0, 0, 0, 0, 0, 0, 0, 0, 0, 0, 0, 0, 1], .bool true]),
  ([.str [58, 58, 48, 46, 48, 46, 48, 46, 49]], .tuple [.str [0, 0, 0, 0, 0, 0, 0, 0, 0, 0, 0, 0, 0, 0, 0, 1], .bool true]),
  ([.str [48, 48, 48, 48, 58, 58, 48, 48, 48, 49]], .tuple [.str [0, 0, 0, 0, 0, 0, 0, 0, 0, 0, 0, 0, 0, 0, 0, 1], .bool true]),
  ([.str [58, 58, 48, 58, 49]], .tuple [.str [0, 0, 0, 0, 0, 0, 0, 0, 0, 0, 0, 0, 0, 0, 0, 1], .bool true])]
set_option maxRecDepth 1000000 in
theorem kp0 (b1 o1 b2 o2 : Nat) : okTab (E0 b1 o1 b2 o2) 200 9 p0 = true := by kernel_rfl
noncomputable def p1 : Tab := [
  ([.str [49, 58, 48, 58, 48, 58, 50, 58, 48, 58, 48, 58, 48, 58, 51]], .tuple [.str [0, 1, 0, 0, 0, 0, 0, 2, 0, 0, 0, 0, 0, 0, 0, 3], .bool true]),
  ([.str [48, 58, 48, 58, 49, 58, 58, 48, 58, 48, 58, 49]], .tuple [.str [0, 0, 0, 0, 0, 1, 0, 0, 0, 0, 0, 0, 0, 0, 0, 1], .bool true]),
  ([.str [49, 58, 48, 58, 50, 58, 51, 58, 52, 58, 53, 58, 54, 58, 55]], .tuple [.str [0, 1, 0, 0, 0, 2, 0, 3, 0, 4, 0, 5, 0, 6, 0, 7], .bool true]),
  ([.str []], .tuple [.str [], .bool false]),
  ([.str [58]], .tuple [.str [], .bool false]),
  ([.str [58, 58, 58]], .tuple [.str [], .bool false])]
set_option maxRecDepth 1000000 in
theorem kp1 (b1 o1 b2 o2 : Nat) : okTab (E0 b1 o1 b2 o2) 200 9 p1 = true := by kernel_rfl
noncomputable def p2 : Tab := [
  ([.str [58, 58, 49, 58, 58]], .tuple [.str [], .bool false]),
  ([.str [49, 58, 50, 58, 51, 58, 52, 58, 53, 58, 54, 58, 55]], .tuple [.str [], .bool false]),
  ([.str [49, 58, 50, 58, 51, 58, 52, 58, 53, 58, 54, 58, 55, 58, 56, 58, 57]], .tuple [.str [], .bool false]),
  ([.str [49, 46, 50, 46, 51, 46, 52, 46, 53]], .tuple [.str [], .bool false]),
  ([.str [49, 46, 50, 46, 51, 46]], .tuple [.str [], .bool false]),
  ([.str [48, 48, 46, 49, 46, 50, 46, 51]], .tuple [.str [], .bool false])]
set_option maxRecDepth 1000000 in
theorem kp2 (b1 o1 b2 o2 : Nat) : okTab (E0 b1 o1 b2 o2) 200 9 p2 = true := by kernel_rfl
noncomputable def p3 : Tab := [
  ([.str [49, 46, 50, 46, 51, 46, 52, 58]], .tuple [.str [], .bool false]),
  ([.str [103, 58, 58]], .tuple [.str [], .bool false]),
  ([.str [49, 58, 50, 58, 51, 58, 52, 58, 53, 58, 54, 58, 55, 58, 49, 46, 50, 46, 51, 46, 52]], .tuple [.str [], .bool false]),
  ([.str [49, 46, 50, 46, 51, 46, 52, 58, 58]], .tuple [.str [], .bool false]),
  ([.str [58, 58, 49, 46, 50, 46, 51]], .tuple [.str [], .bool false]),
  ([.str [49, 58, 50, 58, 51, 58, 52, 58, 58, 53, 58, 54, 58, 55, 58, 56]], .tuple [.str [], .bool false])]
set_option maxRecDepth 1000000 in
theorem kp3 (b1 o1 b2 o2 : Nat) : okTab (E0 b1 o1 b2 o2) 200 9 p3 = true := by kernel_rfl
noncomputable def q : Tab := [
  ([.str [0, 0, 0, 0, 0, 0, 0, 0, 0, 0, 0, 0, 0, 0, 0, 1]], .str [58, 58, 49]),
  ([.str [0, 1, 0, 0, 0, 0, 0, 2, 0, 0, 0, 0, 0, 0, 0, 3]], .str [49, 58, 48, 58, 48, 58, 50, 58, 58, 51]),
  ([.str [0, 0, 0, 0, 0, 1, 0, 0, 0, 0, 0, 0, 0, 0, 0, 1]], .str [48, 58, 48, 58, 49, 58, 58, 49]),
  ([.str [0, 1, 0, 0, 0, 2, 0, 3, 0, 4, 0, 5, 0, 6, 0, 7]], .str [49, 58, 48, 58, 50, 58, 51, 58, 52, 58, 53, 58, 54, 58, 55])]
set_option maxRecDepth 1000000 in
theorem kq (b1 o1 b2 o2 : Nat) : okTab (E0 b1 o1 b2 o2) 200 11 q = true := by kernel_rfl
noncomputable def pAll : Tab := p0 ++ (p1 ++ (p2 ++ (p3)))
theorem kpAll (b1 o1 b2 o2 : Nat) : okTab (E0 b1 o1 b2 o2) 200 9 pAll = true := okTab_append (kp0 b1 o1 b2 o2) (okTab_append (kp1 b1 o1 b2 o2) (okTab_append (kp2 b1 o1 b2 o2) (kp3 b1 o1 b2 o2)))
end Go.Proofs.YtieiiffieccceaaDoor
