/- The law's runs at each number of a range, reckoned. -/
import Derived.Test.YtjlaiimcbkbciaaDoorTb4
namespace Go.Proofs.YtjlaiimcbkbciaaDoor.nameLimits
open Go.RowKit Go.Ev Go.Fr
noncomputable def p (a : Int) (b : Int) : Bool := match yes (aFn E1 200 5 [.int .i64 a, .int .i64 b, .bool true] H00) with
  | true => yes (aFn E1 200 5 [.int .i64 a, .int .i64 b, .bool false] H00)
  | false => false
set_option maxRecDepth 1000000 in
theorem r60 : each (p 60) 0 6 = true := by kernel_rfl
set_option maxRecDepth 1000000 in
theorem r61 : each (p 61) 0 6 = true := by kernel_rfl
set_option maxRecDepth 1000000 in
theorem r62 : each (p 62) 0 6 = true := by kernel_rfl
set_option maxRecDepth 1000000 in
theorem r63 : each (p 63) 0 6 = true := by kernel_rfl
set_option maxRecDepth 1000000 in
theorem r64 : each (p 64) 0 6 = true := by kernel_rfl
set_option maxRecDepth 1000000 in
theorem r65 : each (p 65) 0 6 = true := by kernel_rfl
set_option maxRecDepth 1000000 in
theorem r66 : each (p 66) 0 6 = true := by kernel_rfl
end Go.Proofs.YtjlaiimcbkbciaaDoor.nameLimits
