/- The closed run at the head of the laws, and labels of 60 to 66 letters, reckoned. -/
import Derived.Test.YtjlaiimcbkbciaaDoorGb
namespace Go.Proofs.YtjlaiimcbkbciaaDoor
open Go.RowKit Go.Ev Go.Fr
noncomputable def tb : Tab := [([], .bool true)]
set_option maxRecDepth 1000000 in
theorem kb : okTab E0 200 7 tb = true := by kernel_rfl
def rep (n : Nat) : List Nat := match n with
  | 0 => []
  | n + 1 => 108 :: rep n
noncomputable def tl : Tab := [([.str (rep 60)], .bool false), ([.str (rep 61)], .bool false), ([.str (rep 62)], .bool false), ([.str (rep 63)], .bool false), ([.str (rep 64)], .bool true), ([.str (rep 65)], .bool true), ([.str (rep 66)], .bool true)]
set_option maxRecDepth 1000000 in
theorem kl : okTab E0 200 42 tl = true := by kernel_rfl
noncomputable def exts1 : List (Nat × ExtK) := (42, .fn (tabF tl)) :: (7, .fn (tabF tb)) :: exts
noncomputable def E1 : Env := { P := Tryd.prog, ext := extL exts1, G := gL glos }
theorem eok1 {B : Bas} (h : EOK E0 B) : EOK E1 B :=
  ⟨extOK_fn (extOK_fn h.ext), FnsOK.cons (FnOK.tab h fol kl) (FnsOK.cons (FnOK.tab h fol kb) h.fn), h.glo⟩
end Go.Proofs.YtjlaiimcbkbciaaDoor
