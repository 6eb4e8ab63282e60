/- Contract: errors.Is. -/
import Derived.Test.YtfpgobbkeocokaaDoorOb
namespace Go.Proofs.YtfpgobbkeocokaaDoor
open Go.RowKit Go.Extern.Stop Go.Stop Go.Extern Go.Lib Go.Extern.Rtype
theorem toC (c : Int) (w : World) : (Extern.ReflectliteType.typeOf #[.iface 26 (.int .i64 c)]).run Tryd.prog w = .ok (.iface 75 (.agg #[typeHandle Tryd.prog 26])) w := by kernel_rfl
theorem cmpC (w : World) : (Extern.ReflectliteType.method (fun t => do noPackHeld "Comparable" t; pure (.bool (← typeInfo t).comparable)) #[.agg #[typeHandle Tryd.prog 26]]).run Tryd.prog w = .ok (.bool true) w := by kernel_rfl
theorem metCmp (n : Nat) (v : Value) (w : World) : (Go.method (n + 1) 75 v "Comparable").run Tryd.prog w = .ok (62, v) w := by kernel_rfl
theorem cTo (c : Int) (w : World) : (callFunc 29 #[.iface 26 (.int .i64 c)]).run Tryd.prog w = .ok (.value (.iface 75 (.agg #[typeHandle Tryd.prog 26]))) w := by
  rw [@run_callFunc_extern Tryd.prog 29 _ Extern.ReflectliteType.typeOf Tryd.func29 (by kernel_rfl) (by kernel_rfl) (by kernel_rfl) (by kernel_rfl), toC]
  rfl
theorem cCmp (w : World) : (callFunc 62 #[.agg #[typeHandle Tryd.prog 26]]).run Tryd.prog w = .ok (.value (.bool true)) w := by
  rw [@run_callFunc_extern Tryd.prog 62 _ (Extern.ReflectliteType.method (fun t => do noPackHeld "Comparable" t; pure (.bool (← typeInfo t).comparable))) Tryd.func62 (by kernel_rfl) (by kernel_rfl) (by kernel_rfl) (by kernel_rfl), cmpC]
  rfl
set_option maxRecDepth 100000 in
theorem Is_any (w : World) (L : List Lay) (k : Option Int) (c : Int) (v : Value) (h : ErrAt w L k v) :
    Calls Tryd.prog 28 #[v, .iface 26 (.int .i64 c)] w fun e w' => e = .returned (.bool (decide (k = some c))) ∧ Below w.heap.size w w' := by
  have HI := Lib.hid (is_any w L k c v h)
  obtain ⟨t, x, rfl⟩ := h.iface
  clear h
  have n1 := nilE
  have t1 := cTo c
  have t2 := cCmp
  have t3 := metCmp
  go_enter Tryd.func28, Tryd.ntmps28
  go_wp2_with (go_at_call 32; refine HI.out.mono ?_; rintro e w2 ⟨rfl, hb⟩)
  go_ret
  exact ⟨rfl, hb⟩
end Go.Proofs.YtfpgobbkeocokaaDoor
