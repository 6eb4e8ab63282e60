/- What the row's condition says of the library's variables. -/
import Derived.Test.YtdfapebggghfdaaGreatDoorGb
import Derived.Test.YtdfapebggghfdaaGreatDoorHh
namespace Go.Proofs.YtdfapebggghfdaaGreatDoor
open Go.RowKit Go.Lib Go.Tx Go.Ev Go.Fr Go.ChangeShapes
theorem maxAt (W : World) (hsh : W.ShapedOpen Tryz.prog) : ∃ m, W.cell? ⟨0, 0, none⟩ = some (.int .i64 m) :=
  cell_of_shapedOpen_int (P := Tryz.prog) (g := 0) (t := 3) (zero := #[.int .i64 0]) hsh (of_decide_eq_true (by kernel_rfl)) (by kernel_rfl) rfl (by kernel_rfl) (by kernel_rfl) Tryz.underlying3
theorem err_of {W : World} {g tp b o : Nat} {G : Nat → Option (List AV)} (hG : GloOK (Bas.of W) G) (h : G g = some [.iface tp (.glob b o)]) : ErrAt g W := by
  obtain ⟨_, arr, elem, fr, h1, vs, hv, hc⟩ := hG g _ h
  obtain ⟨v, hv1, hv2⟩ := hv.get 0 _ rfl
  have h3 := hc 0 v hv1
  refine ⟨v, ?_, ?_⟩
  · unfold World.cell?
    have h1' : W.heap[g]? = some (.cells arr elem fr) := h1
    rw [h1']
    simpa using h3
  · simp only [VR] at hv2
    obtain ⟨v', e, _⟩ := hv2
    exact .inr ⟨_, _, e⟩
theorem glo_only (W : World) (hL : laidMetH Tryz.prog laidL W) (hsh : W.ShapedOpen Tryz.prog) : GloAt W ∧ MaxAt W := by
  obtain ⟨b1, o1, b2, o2, hE⟩ := eok W hL hsh
  exact ⟨⟨maxAt W hsh, err_of hE.glo (b := b2) (o := o2) rfl, err_of hE.glo (b := b1) (o := o1) rfl⟩, maxAt W hsh⟩
end Go.Proofs.YtdfapebggghfdaaGreatDoor
