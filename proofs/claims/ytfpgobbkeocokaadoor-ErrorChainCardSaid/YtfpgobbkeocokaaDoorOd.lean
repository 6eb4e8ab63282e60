/- What package reflectlite answers errors.As. -/
import Derived.Test.YtfpgobbkeocokaaDoorOc
namespace Go.Proofs.YtfpgobbkeocokaaDoor
open Go.RowKit Go.Extern.Stop Go.Stop Go.Extern Go.Lib Go.Extern.Rtype
noncomputable abbrev hT (t : Nat) : Value := .pointer (some ⟨1, t, none⟩)
noncomputable abbrev rT (t : Nat) : Value := .iface 75 (.agg #[.pointer (some ⟨1, t, none⟩)])
theorem metKd (n : Nat) (v : Value) (w : World) : (Go.method (n + 1) 75 (.agg #[v]) "Kind").run Tryd.prog w = .ok (47, v) w := by kernel_rfl
theorem metEl (n : Nat) (v : Value) (w : World) : (Go.method (n + 1) 75 v "Elem").run Tryd.prog w = .ok (63, v) w := by kernel_rfl
theorem metIm (n : Nat) (v : Value) (w : World) : (Go.method (n + 1) 75 v "Implements").run Tryd.prog w = .ok (64, v) w := by kernel_rfl
theorem metAs (n : Nat) (v : Value) (w : World) : (Go.method (n + 1) 75 v "AssignableTo").run Tryd.prog w = .ok (61, v) w := by kernel_rfl
theorem x_vo (args : Array Value) (w : World) : (callFunc 23 args).run Tryd.prog w = (((fun args => ReflectliteValue.unpack (args.getD 0 (.tuple #[]))) args).run Tryd.prog w).andThen fun v w' => .ok (.value v) w' := @run_callFunc_extern Tryd.prog 23 _ (fun args => ReflectliteValue.unpack (args.getD 0 (.tuple #[]))) Tryd.func23 (by kernel_rfl) (by kernel_rfl) (by kernel_rfl) (by kernel_rfl) args w
theorem x_ty (args : Array Value) (w : World) : (callFunc 24 args).run Tryd.prog w = (((ReflectliteValue.methodAny (ReflectliteValue.valueError "reflectlite.Value.Type" 0) (fun t _ _ _ => ReflectliteType.toType t)) args).run Tryd.prog w).andThen fun v w' => .ok (.value v) w' := @run_callFunc_extern Tryd.prog 24 _ (ReflectliteValue.methodAny (ReflectliteValue.valueError "reflectlite.Value.Type" 0) (fun t _ _ _ => ReflectliteType.toType t)) Tryd.func24 (by kernel_rfl) (by kernel_rfl) (by kernel_rfl) (by kernel_rfl) args w
theorem x_in (args : Array Value) (w : World) : (callFunc 25 args).run Tryd.prog w = (((ReflectliteValue.method (ReflectliteValue.valueError "reflectlite.Value.IsNil" 0) ReflectliteValue.isNil) args).run Tryd.prog w).andThen fun v w' => .ok (.value v) w' := @run_callFunc_extern Tryd.prog 25 _ (ReflectliteValue.method (ReflectliteValue.valueError "reflectlite.Value.IsNil" 0) ReflectliteValue.isNil) Tryd.func25 (by kernel_rfl) (by kernel_rfl) (by kernel_rfl) (by kernel_rfl) args w
theorem x_el (args : Array Value) (w : World) : (callFunc 30 args).run Tryd.prog w = (((ReflectliteValue.method (ReflectliteValue.valueError "reflectlite.Value.Elem" 0) ReflectliteValue.elem) args).run Tryd.prog w).andThen fun v w' => .ok (.value v) w' := @run_callFunc_extern Tryd.prog 30 _ (ReflectliteValue.method (ReflectliteValue.valueError "reflectlite.Value.Elem" 0) ReflectliteValue.elem) Tryd.func30 (by kernel_rfl) (by kernel_rfl) (by kernel_rfl) (by kernel_rfl) args w
theorem x_st (args : Array Value) (w : World) : (callFunc 31 args).run Tryd.prog w = ((ReflectliteValue.set args).run Tryd.prog w).andThen fun v w' => .ok (.value v) w' := @run_callFunc_extern Tryd.prog 31 _ ReflectliteValue.set Tryd.func31 (by kernel_rfl) (by kernel_rfl) (by kernel_rfl) (by kernel_rfl) args w
theorem x_to (args : Array Value) (w : World) : (callFunc 29 args).run Tryd.prog w = ((ReflectliteType.typeOf args).run Tryd.prog w).andThen fun v w' => .ok (.value v) w' := @run_callFunc_extern Tryd.prog 29 _ ReflectliteType.typeOf Tryd.func29 (by kernel_rfl) (by kernel_rfl) (by kernel_rfl) (by kernel_rfl) args w
theorem x_as (args : Array Value) (w : World) : (callFunc 61 args).run Tryd.prog w = (((ReflectliteType.relation "AssignableTo" ReflectliteType.assignableTo) args).run Tryd.prog w).andThen fun v w' => .ok (.value v) w' := @run_callFunc_extern Tryd.prog 61 _ (ReflectliteType.relation "AssignableTo" ReflectliteType.assignableTo) Tryd.func61 (by kernel_rfl) (by kernel_rfl) (by kernel_rfl) (by kernel_rfl) args w
theorem x_im (args : Array Value) (w : World) : (callFunc 64 args).run Tryd.prog w = (((ReflectliteType.relation "Implements" ReflectliteType.implements_) args).run Tryd.prog w).andThen fun v w' => .ok (.value v) w' := @run_callFunc_extern Tryd.prog 64 _ (ReflectliteType.relation "Implements" ReflectliteType.implements_) Tryd.func64 (by kernel_rfl) (by kernel_rfl) (by kernel_rfl) (by kernel_rfl) args w
theorem x_te (args : Array Value) (w : World) : (callFunc 63 args).run Tryd.prog w = (((ReflectliteType.method ReflectliteType.elem) args).run Tryd.prog w).andThen fun v w' => .ok (.value v) w' := @run_callFunc_extern Tryd.prog 63 _ (ReflectliteType.method ReflectliteType.elem) Tryd.func63 (by kernel_rfl) (by kernel_rfl) (by kernel_rfl) (by kernel_rfl) args w
theorem x_kd (args : Array Value) (w : World) : (callFunc 47 args).run Tryd.prog w = (((ReflectliteType.abiMethod (fun t => do pure (.int .u8 (← kind t)))) args).run Tryd.prog w).andThen fun v w' => .ok (.value v) w' := @run_callFunc_extern Tryd.prog 47 _ (ReflectliteType.abiMethod (fun t => do pure (.int .u8 (← kind t)))) Tryd.func47 (by kernel_rfl) (by kernel_rfl) (by kernel_rfl) (by kernel_rfl) args w
theorem toAny1 (c : Int) (w : World) : (callFunc 29 #[.iface 26 (.int .i64 c)]).run Tryd.prog w = .ok (.value (rT 26)) w := by
  rw [x_to, show (ReflectliteType.typeOf #[.iface 26 (.int .i64 c)]).run Tryd.prog w = .ok (rT 26) w by kernel_rfl]
  rfl
theorem toAny2 (v : Value) (w : World) : (callFunc 29 #[.iface 29 v]).run Tryd.prog w = .ok (.value (rT 29)) w := by
  rw [x_to, show (ReflectliteType.typeOf #[.iface 29 v]).run Tryd.prog w = .ok (rT 29) w by kernel_rfl]
  rfl
theorem toAny3 (v : Value) (w : World) : (callFunc 29 #[.iface 32 v]).run Tryd.prog w = .ok (.value (rT 32)) w := by
  rw [x_to, show (ReflectliteType.typeOf #[.iface 32 v]).run Tryd.prog w = .ok (rT 32) w by kernel_rfl]
  rfl
theorem toAny4 (v : Value) (w : World) : (callFunc 29 #[.iface 35 v]).run Tryd.prog w = .ok (.value (rT 35)) w := by
  rw [x_to, show (ReflectliteType.typeOf #[.iface 35 v]).run Tryd.prog w = .ok (rT 35) w by kernel_rfl]
  rfl
section
theorem voPS (p : Option Addr) (w : World) : (callFunc 23 #[.iface 55 (.pointer p)]).run Tryd.prog w = .ok (.value (.agg #[hT 55, .pointer (some ⟨w.heap.size, 0, none⟩), .int .u64 150])) (w.alloc (.cells #[.pointer p] 55)) := by
  rw [x_vo, show (ReflectliteValue.unpack (#[Value.iface 55 (.pointer p)].getD 0 (.tuple #[]))).run Tryd.prog w = .ok (.agg #[hT 55, .pointer (some ⟨w.heap.size, 0, none⟩), .int .u64 150]) (w.alloc (.cells #[.pointer p] 55)) by kernel_rfl]
  rfl
theorem voES (p : Option Addr) (w : World) : (callFunc 23 #[.iface 32 (.pointer p)]).run Tryd.prog w = .ok (.value (.agg #[hT 32, .pointer (some ⟨w.heap.size, 0, none⟩), .int .u64 150])) (w.alloc (.cells #[.pointer p] 32)) := by
  rw [x_vo, show (ReflectliteValue.unpack (#[Value.iface 32 (.pointer p)].getD 0 (.tuple #[]))).run Tryd.prog w = .ok (.agg #[hT 32, .pointer (some ⟨w.heap.size, 0, none⟩), .int .u64 150]) (w.alloc (.cells #[.pointer p] 32)) by kernel_rfl]
  rfl
theorem lvS (a : Addr) (q : Option Addr) (w : World) (h : w.cell? a = some (.pointer q)) : (loadVar 55 a).run Tryd.prog w = .ok (.pointer q) w := by
  unfold loadVar
  rw [Sem.run_bind, show (isAgg 55).run Tryd.prog w = .ok false w by kernel_rfl]
  simp [h]
theorem veS (a q : Addr) (w : World) (h : w.cell? a = some (.pointer (some q))) : (callFunc 30 #[.agg #[hT 55, .pointer (some a), .int .u64 150]]).run Tryd.prog w = .ok (.value (.agg #[hT 32, .pointer (some q), .int .u64 406])) w := by
  have h1 : (ReflectliteValue.parts (.agg #[hT 55, .pointer (some a), .int .u64 150])).run Tryd.prog w = .ok (some (55, a, 150)) w := by kernel_rfl
  have h2 := lvS a (some q) w h
  have h3 : (elem? 55).run Tryd.prog w = .ok (some 32) w := by kernel_rfl
  have h4 : (ReflectliteValue.mk 32 q ReflectliteValue.flagAddr).run Tryd.prog w = .ok (.agg #[hT 32, .pointer (some q), .int .u64 406]) w := by kernel_rfl
  have h5 : (ReflectliteValue.method (ReflectliteValue.valueError "reflectlite.Value.Elem" 0) ReflectliteValue.elem #[.agg #[hT 55, .pointer (some a), .int .u64 150]]).run Tryd.prog w = .ok (.agg #[hT 32, .pointer (some q), .int .u64 406]) w := by
    show ((do match ← ReflectliteValue.parts (.agg #[hT 55, .pointer (some a), .int .u64 150]) with | none => ReflectliteValue.valueError "reflectlite.Value.Elem" 0 | some (t, a, fl) => ReflectliteValue.elem t a fl (fl % 32) : Sem Value)).run Tryd.prog w = _
    rw [Sem.run_bind, h1, Result.andThen_ok]
    show (ReflectliteValue.elem 55 a 150 22).run Tryd.prog w = _
    show ((loadVar 55 a >>= fun z => _ : Sem Value)).run Tryd.prog w = _
    rw [Sem.run_bind, h2, Result.andThen_ok]
    show ((elem? 55 >>= fun z => _ : Sem Value)).run Tryd.prog w = _
    rw [Sem.run_bind, h3, Result.andThen_ok]
    exact h4
  rw [x_el, h5]
  rfl
theorem viS (a q : Addr) (w : World) (h : w.cell? a = some (.pointer (some q))) : (callFunc 25 #[.agg #[hT 55, .pointer (some a), .int .u64 150]]).run Tryd.prog w = .ok (.value (.bool false)) w := by
  have h1 : (ReflectliteValue.parts (.agg #[hT 55, .pointer (some a), .int .u64 150])).run Tryd.prog w = .ok (some (55, a, 150)) w := by kernel_rfl
  have h2 := lvS a (some q) w h
  have h5 : (ReflectliteValue.method (ReflectliteValue.valueError "reflectlite.Value.IsNil" 0) ReflectliteValue.isNil #[.agg #[hT 55, .pointer (some a), .int .u64 150]]).run Tryd.prog w = .ok (.bool false) w := by
    show ((do match ← ReflectliteValue.parts (.agg #[hT 55, .pointer (some a), .int .u64 150]) with | none => ReflectliteValue.valueError "reflectlite.Value.IsNil" 0 | some (t, a, fl) => ReflectliteValue.isNil t a fl (fl % 32) : Sem Value)).run Tryd.prog w = _
    rw [Sem.run_bind, h1, Result.andThen_ok]
    show (ReflectliteValue.isNil 55 a 150 22).run Tryd.prog w = _
    show ((loadVar 55 a >>= fun z => _ : Sem Value)).run Tryd.prog w = _
    rw [Sem.run_bind, h2, Result.andThen_ok]
    rfl
  rw [x_in, h5]
  rfl
theorem vtS (a : Addr) (w : World) : (callFunc 24 #[.agg #[hT 55, .pointer (some a), .int .u64 150]]).run Tryd.prog w = .ok (.value (rT 55)) w := by
  rw [x_ty, show (ReflectliteValue.methodAny (ReflectliteValue.valueError "reflectlite.Value.Type" 0) (fun t _ _ _ => ReflectliteType.toType t) #[.agg #[hT 55, .pointer (some a), .int .u64 150]]).run Tryd.prog w = .ok (rT 55) w by kernel_rfl]
  rfl
theorem vsS (b q : Addr) (p : Option Addr) (y : Value) (w : World) (h : w.cell? b = some (.pointer p)) (hq : w.cell? q = some y) (hf : w.frozen? q = false) : (callFunc 31 #[.agg #[hT 32, .pointer (some q), .int .u64 406], .agg #[hT 32, .pointer (some b), .int .u64 150]]).run Tryd.prog w = .ok (.value (.tuple #[])) (w.setCell q (.pointer p)) := by
  have h1 : (ReflectliteValue.parts (.agg #[hT 32, .pointer (some q), .int .u64 406])).run Tryd.prog w = .ok (some (32, q, 406)) w := by kernel_rfl
  have h2 : (ReflectliteValue.parts (.agg #[hT 32, .pointer (some b), .int .u64 150])).run Tryd.prog w = .ok (some (32, b, 150)) w := by kernel_rfl
  have h3 : (directlyAssignable 32 32).run Tryd.prog w = .ok true w := by kernel_rfl
  have h4 : (loadVar 32 b).run Tryd.prog w = .ok (.pointer p) w := by
    unfold loadVar
    rw [Sem.run_bind, show (isAgg 32).run Tryd.prog w = .ok false w by kernel_rfl]
    simp [h]
  have h5 : (storeVar 32 q (.pointer p)).run Tryd.prog w = .ok () (w.setCell q (.pointer p)) := by
    unfold storeVar
    simp [go_sem, hq, hf]
  have h6 : (ReflectliteValue.set #[.agg #[hT 32, .pointer (some q), .int .u64 406], .agg #[hT 32, .pointer (some b), .int .u64 150]]).run Tryd.prog w = .ok (.tuple #[]) (w.setCell q (.pointer p)) := by
    show ((ReflectliteValue.parts (.agg #[hT 32, .pointer (some q), .int .u64 406]) >>= fun z => _ : Sem Value)).run Tryd.prog w = _
    rw [Sem.run_bind, h1, Result.andThen_ok]
    show ((ReflectliteValue.parts (.agg #[hT 32, .pointer (some b), .int .u64 150]) >>= fun z => _ : Sem Value)).run Tryd.prog w = _
    rw [Sem.run_bind, h2, Result.andThen_ok]
    show ((loadVar 32 b >>= fun z => _ : Sem Value)).run Tryd.prog w = _
    rw [Sem.run_bind, h4, Result.andThen_ok]
    show ((directlyAssignable 32 32 >>= fun z => _ : Sem Value)).run Tryd.prog w = _
    rw [Sem.run_bind, h3, Result.andThen_ok]
    show ((storeVar 32 q (.pointer p) >>= fun z => _ : Sem Value)).run Tryd.prog w = _
    rw [Sem.run_bind, h5, Result.andThen_ok]
    rfl
  rw [x_st, h6]
  rfl
theorem asgS (t : Nat) (w : World) (ht : t = 26 ∨ t = 29 ∨ t = 35) : (callFunc 61 #[.agg #[hT t], rT 32]).run Tryd.prog w = .ok (.value (.bool false)) w := by
  rcases ht with rfl | rfl | rfl
  · rw [x_as, show (ReflectliteType.relation "AssignableTo" ReflectliteType.assignableTo #[.agg #[hT 26], rT 32]).run Tryd.prog w = .ok (.bool false) w by kernel_rfl]; rfl
  · rw [x_as, show (ReflectliteType.relation "AssignableTo" ReflectliteType.assignableTo #[.agg #[hT 29], rT 32]).run Tryd.prog w = .ok (.bool false) w by kernel_rfl]; rfl
  · rw [x_as, show (ReflectliteType.relation "AssignableTo" ReflectliteType.assignableTo #[.agg #[hT 35], rT 32]).run Tryd.prog w = .ok (.bool false) w by kernel_rfl]; rfl
theorem asgYS (w : World) : (callFunc 61 #[.agg #[hT 32], rT 32]).run Tryd.prog w = .ok (.value (.bool true)) w := by
  rw [x_as, show (ReflectliteType.relation "AssignableTo" ReflectliteType.assignableTo #[.agg #[hT 32], rT 32]).run Tryd.prog w = .ok (.bool true) w by kernel_rfl]; rfl
theorem impS (w : World) : (callFunc 64 #[.agg #[hT 32], rT 25]).run Tryd.prog w = .ok (.value (.bool true)) w := by
  rw [x_im, show (ReflectliteType.relation "Implements" ReflectliteType.implements_ #[.agg #[hT 32], rT 25]).run Tryd.prog w = .ok (.bool true) w by kernel_rfl]; rfl
theorem elmS (w : World) : (callFunc 63 #[.agg #[hT 55]]).run Tryd.prog w = .ok (.value (rT 32)) w := by
  rw [x_te, show (ReflectliteType.method ReflectliteType.elem #[.agg #[hT 55]]).run Tryd.prog w = .ok (rT 32) w by kernel_rfl]; rfl
theorem kdS (t : Nat) (w : World) (ht : t = 55 ∨ t = 32) : (callFunc 47 #[hT t]).run Tryd.prog w = .ok (.value (.int .u8 22)) w := by
  rcases ht with rfl | rfl
  · rw [x_kd, show (ReflectliteType.abiMethod (fun t => do pure (.int .u8 (← kind t))) #[hT 55]).run Tryd.prog w = .ok (.int .u8 22) w by kernel_rfl]; rfl
  · rw [x_kd, show (ReflectliteType.abiMethod (fun t => do pure (.int .u8 (← kind t))) #[hT 32]).run Tryd.prog w = .ok (.int .u8 22) w by kernel_rfl]; rfl
end
section
theorem voPT (p : Option Addr) (w : World) : (callFunc 23 #[.iface 52 (.pointer p)]).run Tryd.prog w = .ok (.value (.agg #[hT 52, .pointer (some ⟨w.heap.size, 0, none⟩), .int .u64 150])) (w.alloc (.cells #[.pointer p] 52)) := by
  rw [x_vo, show (ReflectliteValue.unpack (#[Value.iface 52 (.pointer p)].getD 0 (.tuple #[]))).run Tryd.prog w = .ok (.agg #[hT 52, .pointer (some ⟨w.heap.size, 0, none⟩), .int .u64 150]) (w.alloc (.cells #[.pointer p] 52)) by kernel_rfl]
  rfl
theorem voET (p : Option Addr) (w : World) : (callFunc 23 #[.iface 35 (.pointer p)]).run Tryd.prog w = .ok (.value (.agg #[hT 35, .pointer (some ⟨w.heap.size, 0, none⟩), .int .u64 150])) (w.alloc (.cells #[.pointer p] 35)) := by
  rw [x_vo, show (ReflectliteValue.unpack (#[Value.iface 35 (.pointer p)].getD 0 (.tuple #[]))).run Tryd.prog w = .ok (.agg #[hT 35, .pointer (some ⟨w.heap.size, 0, none⟩), .int .u64 150]) (w.alloc (.cells #[.pointer p] 35)) by kernel_rfl]
  rfl
theorem lvT (a : Addr) (q : Option Addr) (w : World) (h : w.cell? a = some (.pointer q)) : (loadVar 52 a).run Tryd.prog w = .ok (.pointer q) w := by
  unfold loadVar
  rw [Sem.run_bind, show (isAgg 52).run Tryd.prog w = .ok false w by kernel_rfl]
  simp [h]
theorem veT (a q : Addr) (w : World) (h : w.cell? a = some (.pointer (some q))) : (callFunc 30 #[.agg #[hT 52, .pointer (some a), .int .u64 150]]).run Tryd.prog w = .ok (.value (.agg #[hT 35, .pointer (some q), .int .u64 406])) w := by
  have h1 : (ReflectliteValue.parts (.agg #[hT 52, .pointer (some a), .int .u64 150])).run Tryd.prog w = .ok (some (52, a, 150)) w := by kernel_rfl
  have h2 := lvT a (some q) w h
  have h3 : (elem? 52).run Tryd.prog w = .ok (some 35) w := by kernel_rfl
  have h4 : (ReflectliteValue.mk 35 q ReflectliteValue.flagAddr).run Tryd.prog w = .ok (.agg #[hT 35, .pointer (some q), .int .u64 406]) w := by kernel_rfl
  have h5 : (ReflectliteValue.method (ReflectliteValue.valueError "reflectlite.Value.Elem" 0) ReflectliteValue.elem #[.agg #[hT 52, .pointer (some a), .int .u64 150]]).run Tryd.prog w = .ok (.agg #[hT 35, .pointer (some q), .int .u64 406]) w := by
    show ((do match ← ReflectliteValue.parts (.agg #[hT 52, .pointer (some a), .int .u64 150]) with | none => ReflectliteValue.valueError "reflectlite.Value.Elem" 0 | some (t, a, fl) => ReflectliteValue.elem t a fl (fl % 32) : Sem Value)).run Tryd.prog w = _
    rw [Sem.run_bind, h1, Result.andThen_ok]
    show (ReflectliteValue.elem 52 a 150 22).run Tryd.prog w = _
    show ((loadVar 52 a >>= fun z => _ : Sem Value)).run Tryd.prog w = _
    rw [Sem.run_bind, h2, Result.andThen_ok]
    show ((elem? 52 >>= fun z => _ : Sem Value)).run Tryd.prog w = _
    rw [Sem.run_bind, h3, Result.andThen_ok]
    exact h4
  rw [x_el, h5]
  rfl
theorem viT (a q : Addr) (w : World) (h : w.cell? a = some (.pointer (some q))) : (callFunc 25 #[.agg #[hT 52, .pointer (some a), .int .u64 150]]).run Tryd.prog w = .ok (.value (.bool false)) w := by
  have h1 : (ReflectliteValue.parts (.agg #[hT 52, .pointer (some a), .int .u64 150])).run Tryd.prog w = .ok (some (52, a, 150)) w := by kernel_rfl
  have h2 := lvT a (some q) w h
  have h5 : (ReflectliteValue.method (ReflectliteValue.valueError "reflectlite.Value.IsNil" 0) ReflectliteValue.isNil #[.agg #[hT 52, .pointer (some a), .int .u64 150]]).run Tryd.prog w = .ok (.bool false) w := by
    show ((do match ← ReflectliteValue.parts (.agg #[hT 52, .pointer (some a), .int .u64 150]) with | none => ReflectliteValue.valueError "reflectlite.Value.IsNil" 0 | some (t, a, fl) => ReflectliteValue.isNil t a fl (fl % 32) : Sem Value)).run Tryd.prog w = _
    rw [Sem.run_bind, h1, Result.andThen_ok]
    show (ReflectliteValue.isNil 52 a 150 22).run Tryd.prog w = _
    show ((loadVar 52 a >>= fun z => _ : Sem Value)).run Tryd.prog w = _
    rw [Sem.run_bind, h2, Result.andThen_ok]
    rfl
  rw [x_in, h5]
  rfl
theorem vtT (a : Addr) (w : World) : (callFunc 24 #[.agg #[hT 52, .pointer (some a), .int .u64 150]]).run Tryd.prog w = .ok (.value (rT 52)) w := by
  rw [x_ty, show (ReflectliteValue.methodAny (ReflectliteValue.valueError "reflectlite.Value.Type" 0) (fun t _ _ _ => ReflectliteType.toType t) #[.agg #[hT 52, .pointer (some a), .int .u64 150]]).run Tryd.prog w = .ok (rT 52) w by kernel_rfl]
  rfl
theorem vsT (b q : Addr) (p : Option Addr) (y : Value) (w : World) (h : w.cell? b = some (.pointer p)) (hq : w.cell? q = some y) (hf : w.frozen? q = false) : (callFunc 31 #[.agg #[hT 35, .pointer (some q), .int .u64 406], .agg #[hT 35, .pointer (some b), .int .u64 150]]).run Tryd.prog w = .ok (.value (.tuple #[])) (w.setCell q (.pointer p)) := by
  have h1 : (ReflectliteValue.parts (.agg #[hT 35, .pointer (some q), .int .u64 406])).run Tryd.prog w = .ok (some (35, q, 406)) w := by kernel_rfl
  have h2 : (ReflectliteValue.parts (.agg #[hT 35, .pointer (some b), .int .u64 150])).run Tryd.prog w = .ok (some (35, b, 150)) w := by kernel_rfl
  have h3 : (directlyAssignable 35 35).run Tryd.prog w = .ok true w := by kernel_rfl
  have h4 : (loadVar 35 b).run Tryd.prog w = .ok (.pointer p) w := by
    unfold loadVar
    rw [Sem.run_bind, show (isAgg 35).run Tryd.prog w = .ok false w by kernel_rfl]
    simp [h]
  have h5 : (storeVar 35 q (.pointer p)).run Tryd.prog w = .ok () (w.setCell q (.pointer p)) := by
    unfold storeVar
    simp [go_sem, hq, hf]
  have h6 : (ReflectliteValue.set #[.agg #[hT 35, .pointer (some q), .int .u64 406], .agg #[hT 35, .pointer (some b), .int .u64 150]]).run Tryd.prog w = .ok (.tuple #[]) (w.setCell q (.pointer p)) := by
    show ((ReflectliteValue.parts (.agg #[hT 35, .pointer (some q), .int .u64 406]) >>= fun z => _ : Sem Value)).run Tryd.prog w = _
    rw [Sem.run_bind, h1, Result.andThen_ok]
    show ((ReflectliteValue.parts (.agg #[hT 35, .pointer (some b), .int .u64 150]) >>= fun z => _ : Sem Value)).run Tryd.prog w = _
    rw [Sem.run_bind, h2, Result.andThen_ok]
    show ((loadVar 35 b >>= fun z => _ : Sem Value)).run Tryd.prog w = _
    rw [Sem.run_bind, h4, Result.andThen_ok]
    show ((directlyAssignable 35 35 >>= fun z => _ : Sem Value)).run Tryd.prog w = _
    rw [Sem.run_bind, h3, Result.andThen_ok]
    show ((storeVar 35 q (.pointer p) >>= fun z => _ : Sem Value)).run Tryd.prog w = _
    rw [Sem.run_bind, h5, Result.andThen_ok]
    rfl
  rw [x_st, h6]
  rfl
theorem asgT (t : Nat) (w : World) (ht : t = 26 ∨ t = 29 ∨ t = 32) : (callFunc 61 #[.agg #[hT t], rT 35]).run Tryd.prog w = .ok (.value (.bool false)) w := by
  rcases ht with rfl | rfl | rfl
  · rw [x_as, show (ReflectliteType.relation "AssignableTo" ReflectliteType.assignableTo #[.agg #[hT 26], rT 35]).run Tryd.prog w = .ok (.bool false) w by kernel_rfl]; rfl
  · rw [x_as, show (ReflectliteType.relation "AssignableTo" ReflectliteType.assignableTo #[.agg #[hT 29], rT 35]).run Tryd.prog w = .ok (.bool false) w by kernel_rfl]; rfl
  · rw [x_as, show (ReflectliteType.relation "AssignableTo" ReflectliteType.assignableTo #[.agg #[hT 32], rT 35]).run Tryd.prog w = .ok (.bool false) w by kernel_rfl]; rfl
theorem asgYT (w : World) : (callFunc 61 #[.agg #[hT 35], rT 35]).run Tryd.prog w = .ok (.value (.bool true)) w := by
  rw [x_as, show (ReflectliteType.relation "AssignableTo" ReflectliteType.assignableTo #[.agg #[hT 35], rT 35]).run Tryd.prog w = .ok (.bool true) w by kernel_rfl]; rfl
theorem impT (w : World) : (callFunc 64 #[.agg #[hT 35], rT 25]).run Tryd.prog w = .ok (.value (.bool true)) w := by
  rw [x_im, show (ReflectliteType.relation "Implements" ReflectliteType.implements_ #[.agg #[hT 35], rT 25]).run Tryd.prog w = .ok (.bool true) w by kernel_rfl]; rfl
theorem elmT (w : World) : (callFunc 63 #[.agg #[hT 52]]).run Tryd.prog w = .ok (.value (rT 35)) w := by
  rw [x_te, show (ReflectliteType.method ReflectliteType.elem #[.agg #[hT 52]]).run Tryd.prog w = .ok (rT 35) w by kernel_rfl]; rfl
theorem kdT (t : Nat) (w : World) (ht : t = 52 ∨ t = 35) : (callFunc 47 #[hT t]).run Tryd.prog w = .ok (.value (.int .u8 22)) w := by
  rcases ht with rfl | rfl
  · rw [x_kd, show (ReflectliteType.abiMethod (fun t => do pure (.int .u8 (← kind t))) #[hT 52]).run Tryd.prog w = .ok (.int .u8 22) w by kernel_rfl]; rfl
  · rw [x_kd, show (ReflectliteType.abiMethod (fun t => do pure (.int .u8 (← kind t))) #[hT 35]).run Tryd.prog w = .ok (.int .u8 22) w by kernel_rfl]; rfl
end
end Go.Proofs.YtfpgobbkeocokaaDoor
