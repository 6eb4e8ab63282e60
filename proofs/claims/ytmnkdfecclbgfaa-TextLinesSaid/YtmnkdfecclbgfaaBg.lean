/- The closed runs at the head of the laws. -/
import Derived.Test.YtmnkdfecclbgfaaRows
import Derived.Test.YtmnkdfecclbgfaaEv30
namespace Go.Proofs.Ytmnkdfecclbgfaa
open Go.RowKit Go.Ev
theorem ext2 : ExtOK Try.prog (extL [(81, .indexByte), (87, .indexByte)]) :=
  extOK_cons (extOK_cons extOK_nil Try.func87 (by kernel_rfl) (by kernel_rfl) (by kernel_rfl) (by kernel_rfl)) Try.func81 (by kernel_rfl) (by kernel_rfl) (by kernel_rfl) (by kernel_rfl)
theorem fol : Try.prog.follows .mixedOrders = true := by kernel_rfl
set_option maxRecDepth 1000000 in
theorem run39 : yes (aFn ⟨Try.prog, extL [(81, .indexByte), (87, .indexByte)]⟩ 200 39 [] H00) = true := by kernel_rfl
theorem begun2 (w : World) : Calls Try.prog 39 #[] w fun e w' => e = .returned (.bool true) ∧ Below w.heap.size w w' :=
  closed (E := ⟨Try.prog, extL [(81, .indexByte), (87, .indexByte)]⟩) ext2 fol run39 w
end Go.Proofs.Ytmnkdfecclbgfaa
