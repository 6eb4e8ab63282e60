/- The closed run at the head of the laws as a contract; the library's variable. -/
import Derived.Test.YtjlaiimcbkbciaaDoorTb4
import Derived.Test.YtjlaiimcbkbciaaDoorCb
namespace Go.Proofs.YtjlaiimcbkbciaaDoor
open Go.RowKit Go.Ev Go.Fr Go.Lib Go.ChangeShapes
theorem begunW (w : World) (h : EOK E0 (Bas.of w)) : Calls Tryd.prog 7 #[] w fun e w' => e = .returned (.bool true) ∧ Below w.heap.size w w' :=
  (FnOK.tab h fol kb [] H00 (.bool true) H00 rfl (fun _ => none) w [] (HR.none00 Tryd.prog w) (fun _ _ _ => rfl) VRL.nil).mono fun e w' ⟨v, ρ', h1, h2, h3, h4⟩ => by
    simp only [VR] at h2
    subst h2
    refine ⟨h1, h4.os, h4.tape, h4.output, h4.size, fun k hk => h4.frame k hk ?_⟩
    rintro ⟨n, o, cp, e, _⟩
    rw [show H00.objs.get n = none from Tr.get_leaf n] at e
    cases e
theorem maxAt (W : World) (hsh : W.ShapedOpen Tryd.prog) : MaxAt W :=
  cell_of_shapedOpen_int (P := Tryd.prog) (g := 0) (t := 3) (zero := #[.int .i64 0]) hsh (of_decide_eq_true (by kernel_rfl)) (by kernel_rfl) rfl (by kernel_rfl) (by kernel_rfl) Tryd.underlying3
end Go.Proofs.YtjlaiimcbkbciaaDoor
