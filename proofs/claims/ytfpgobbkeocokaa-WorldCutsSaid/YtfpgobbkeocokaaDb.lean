/- The disk of a world, as it lies in memory; contracts of writes and sync. -/
import Derived.Test.YtfpgobbkeocokaaDa
import Derived.Test.YtfpgobbkeocokaaWb
import Derived.Deep.QuietTactic
import Derived.BigQuiet
namespace Go.Proofs.Ytfpgobbkeocokaa
open Go.RowKit Go.Mp Go.Rb Go.Lib
/-- The block of a world: what stands in it. -/
def WD (w : World) (b : Nat) (c : Value × Value × Value × Value × Value) (mp : Option Nat) (syn : Nat) (uv : Value) : Prop :=
  w.heap[b]? = some (.cells #[c.1, c.2.1, c.2.2.1, c.2.2.2.1, c.2.2.2.2, .map mp, .int .i64 (syn : Int), uv] 64 (0, 0))
section
variable {w : World} {b : Nat} {c : Value × Value × Value × Value × Value} {mp : Option Nat} {syn : Nat} {uv : Value}
theorem WD.lt (h : WD w b c mp syn uv) : b < w.heap.size := (Array.getElem?_eq_some_iff.1 h).1
theorem WD.c5 (h : WD w b c mp syn uv) : w.cell? ⟨b, 5, none⟩ = some (.map mp) := by unfold WD at h; simp [World.cell?, h]
theorem WD.c6 (h : WD w b c mp syn uv) : w.cell? ⟨b, 6, none⟩ = some (.int .i64 (syn : Int)) := by unfold WD at h; simp [World.cell?, h]
theorem WD.c7 (h : WD w b c mp syn uv) : w.cell? ⟨b, 7, none⟩ = some uv := by unfold WD at h; simp [World.cell?, h]
theorem WD.free (h : WD w b c mp syn uv) (j : Nat) : w.frozen? ⟨b, j, none⟩ = false := by unfold WD at h; simp [World.frozen?, h]
theorem WD.same {w' : World} (h : WD w b c mp syn uv) (hh : w'.heap[b]? = w.heap[b]?) : WD w' b c mp syn uv := hh.trans h
theorem WD.set5 (h : WD w b c mp syn uv) (mp' : Option Nat) : WD (w.setCell ⟨b, 5, none⟩ (.map mp')) b c mp' syn uv := heap_setCell_eq _ _ _ _ _ _ _ h
theorem WD.set6 (h : WD w b c mp syn uv) (n : Nat) : WD (w.setCell ⟨b, 6, none⟩ (.int .i64 (n : Int))) b c mp n uv := heap_setCell_eq _ _ _ _ _ _ _ h
theorem WD.set7 (h : WD w b c mp syn uv) (v : Value) : WD (w.setCell ⟨b, 7, none⟩ v) b c mp syn v := heap_setCell_eq _ _ _ _ _ _ _ h
end
theorem writes_any (b : Nat) (c : Value × Value × Value × Value × Value) (mp : Option Nat) (syn : Nat) (p : Option Addr) (n cap : Nat) (w : World) (h : WD w b c mp syn (.slice p n cap)) (hs : syn ≤ 1000000) (hn : n ≤ 1000000) :
    Calls Try.prog 46 #[.pointer (some ⟨b, 5, none⟩)] w fun e w' => e = .returned (.int .i64 ((syn : Int) + (n : Int))) ∧ ∃ k, w' = w.drewN k := by
  have k6 := h.c6
  have k7 := h.c7
  have hsum : IntKind.i64.wrap ((syn : Int) + (n : Int)) = (syn : Int) + (n : Int) := by simp [IntKind.wrap, IntKind.bits, IntKind.signed]; omega
  clear h
  go_enter Try.func46, Try.ntmps46
  go_wp2
  go_quiet (fail)
  go_wp2
  go_ret
  exact ⟨rfl, _, rfl⟩
end Go.Proofs.Ytfpgobbkeocokaa
