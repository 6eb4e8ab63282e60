/- Contracts of the world: its files. -/
import Derived.Test.YtabkdaaenikliaaGreatDoorMa
import Derived.Test.YtabkdaaenikliaaGreatDoorRows
import Derived.LoopTactic
import Derived.Below
import Derived.Lib.Hide
import Derived.StillTailTactics
import Derived.Deep.QuietTactic
import Derived.BigQuiet
import Derived.Laws.Cover3
namespace Go.Mp
/-- A region that draws its order, of which the first n operations read alone: they are walked in the text's order. -/
theorem region_tail {P : Program} {id : Nat} {Q : Exit → Act → World → Prop} {a : Act} {w : World} {l : List Oper} (n : Nat) (hm : P.follows .mixedOrders = true) (hB : Region.lexTailB .any l.toArray n = true)
    (h : wpStill P l.toArray w.drew (fun a' => wpList P l.toArray Q (l.drop n) a' w.drew) (l.take n) a) : (Code.region id l.toArray true).wp P Q a w :=
  wp_region_still_tail n hm hB h
theorem wpList_mapUpdate_at {P : Program} {w : World} {ops : Array Oper} {rest : List Oper} {o : Oper} {a : Act} {Q : Exit → Act → World → Prop}
    (hg : o.guard = none) (m x v : Operand) (t : TypeId) (hop : o.op = Op.mapUpdate t m x v) {key elem b : Nat} {F : ByteArray → Option Value} (ht : P.underlying t = some (.map key elem)) (hk : P.underlying key = some .string)
    (hm : a.eval m = .map (some b)) (hown : MapAt w b F) {k : ByteArray} {val : Value} (hx : a.eval x = .string k) (hv : a.eval v = val)
    (hK : ∀ w', MapAt w' b (upd F k val) → w'.heap.size = w.heap.size → (∀ j, j ≠ b → w'.heap[j]? = w.heap[j]?) → w'.os = w.os → w'.tape = w.tape → w'.output = w.output → wpList P ops Q rest (a.put o.dst undef) w') :
    wpList P ops Q (o :: rest) a w := by
  refine wpList_plain hg fun K' hK' => ?_
  obtain ⟨O, hrun, r1⟩ := hown.update ht hk k val
  unfold Oper.wp
  simp [execOp, hop, hm, hx, hv, hrun, Result.andThen]
  refine hK' _ _ (hK _ r1 (by simp) (fun j hj => ?_) rfl rfl rfl)
  simp only [Array.getElem?_setIfInBounds]
  rw [if_neg (fun e => hj e.symm)]
end Go.Mp
namespace Go.Proofs.YtabkdaaenikliaaGreatDoor
open Go.RowKit Go.Lib Go.Mp
theorem eql_map (t k e : Nat) (m : Option Nat) (h : Tryz.prog.underlying t = some (.map k e)) (w : World) : (binOp .eql t (.map m) (.map none)).run Tryz.prog w = .ok (.bool m.isNone) w := by
  simp only [binOp]
  simp [run_equal_map_nil w t k e m h]
theorem eql33 (a : Option Addr) (l c : Nat) (w : World) : (binOp .eql 41 (.slice a l c) (.slice none 0 0)).run Tryz.prog w = .ok (.bool a.isNone) w := by
  simp only [binOp]
  simp [run_equal_slice_nil w 41 5 a l c Tryz.underlying41]
theorem eql79_some (m : Nat) (w : World) : (binOp .eql 59 (.map (some m)) (.map none)).run Tryz.prog w = .ok (.bool false) w := eql_map 59 _ _ (some m) Tryz.underlying59 w
theorem eql79_none (w : World) : (binOp .eql 59 (.map none) (.map none)).run Tryz.prog w = .ok (.bool true) w := eql_map 59 _ _ none Tryz.underlying59 w
/-- The files of a world: its map (none: nil), which answers F. -/
def FM (w : World) (b : Nat) (mp : Option Nat) (F : ByteArray → Option Value) : Prop :=
  match mp with
  | none => ∀ k, F k = none
  | some m => m ≠ b ∧ MapAt w m F
/-- Block b is a world of this stamp and these files. -/
def WS (w : World) (b : Nat) (st : Int) (mp : Option Nat) (F : ByteArray → Option Value) : Prop :=
  (∃ c0 c3 c4 c5 c6 c7 : Value, w.heap[b]? = some (.cells #[c0, .int .i64 st, .map mp, c3, c4, c5, c6, c7] 67 (0, 0))) ∧ FM w b mp F
/-- What a call may have turned: the world's block and its map; else it made memory alone. -/
structure Turned (w w' : World) (b : Nat) (mp : Option Nat) : Prop where
  os : w'.os = w.os
  tape : w'.tape = w.tape
  output : w'.output = w.output
  size : w.heap.size ≤ w'.heap.size
  same : ∀ j, j < w.heap.size → j ≠ b → some j ≠ mp → w'.heap[j]? = w.heap[j]?
theorem heap_setCell_ne (w : World) (b j off : Nat) (v : Value) (h : j ≠ b) : (w.setCell ⟨b, off, none⟩ v).heap[j]? = w.heap[j]? := by
  show (w.heap.modify b _)[j]? = _
  rw [Array.getElem?_modify, if_neg (fun e => h e.symm)]
theorem heap_setCell_eq (w : World) (b off : Nat) (v : Value) (c : Array Value) (e : TypeId) (fr : Nat × Nat) (h : w.heap[b]? = some (.cells c e fr)) : (w.setCell ⟨b, off, none⟩ v).heap[b]? = some (.cells (c.setIfInBounds off v) e fr) := by
  show (w.heap.modify b _)[b]? = _
  rw [Array.getElem?_modify, if_pos rfl, h]
  rfl
theorem heap_alloc_lt (w : World) (o : Obj) (j : Nat) (h : j < w.heap.size) : (w.alloc o).heap[j]? = w.heap[j]? := by
  show (w.heap.push o)[j]? = _
  rw [Array.getElem?_push, if_neg (by omega)]
theorem size_setCell' (w : World) (a : Addr) (v : Value) : (w.setCell a v).heap.size = w.heap.size := by
  show (w.heap.modify _ _).size = _
  simp
def ChangeR (w : World) (b : Nat) (st : Int) (mp : Option Nat) (F : ByteArray → Option Value) (e : Ending) (w' : World) : Prop :=
  e = .returned (.tuple #[]) ∧ ∃ m, (mp = some m ∨ (mp = none ∧ w.heap.size ≤ m)) ∧ WS w' b st (some m) F ∧ Turned w w' b mp
set_option maxHeartbeats 1000000 in
set_option maxRecDepth 100000 in
theorem change_some (b m : Nat) (st : Int) (F : ByteArray → Option Value) (p : ByteArray) (body : Value) (th : Bool) (w : World) (h : WS w b st (some m) F) (hst : 0 ≤ st) (hst2 : st ≤ 1000000) :
    Calls Tryz.prog 19 #[.pointer (some ⟨b, 0, none⟩), .string p, .agg #[body, .int .i64 0, .bool th]] w (ChangeR w b (st + 1) (some m) (upd F p (.agg #[body, .int .i64 (st + 1), .bool th]))) := by
  obtain ⟨⟨c0, c3, c4, c5, c6, c7, hh⟩, hne, hm⟩ := h
  have hb : b < w.heap.size := (Array.getElem?_eq_some_iff.1 hh).1
  have hml := hm.lt
  have k1 : w.cell? ⟨b, 1, none⟩ = some (.int .i64 st) := by simp [World.cell?, hh]
  have k2 : w.cell? ⟨b, 2, none⟩ = some (.map (some m)) := by simp [World.cell?, hh]
  have f1 : w.frozen? ⟨b, 1, none⟩ = false := by simp [World.frozen?, hh]
  have HH := Lib.hid hh
  have HM := Lib.hid hm
  clear hh hm
  have e79 := eql79_some m
  go_enter Tryz.func19, Tryz.ntmps19
  go_wp2
  refine region_tail 6 (by kernel_rfl) (by kernel_rfl) ?_
  simp only [List.take_succ_cons, List.take_zero, List.drop_succ_cons, List.drop_zero]
  repeat still_step
  refine wpStill_nil ?_
  refine wpList_mapUpdate_at rfl _ _ _ _ rfl Tryz.underlying59 Tryz.underlying9 rfl (HM.out.same (by
    show ((w.setCell _ _).alloc _).heap[m]? = _
    rw [heap_alloc_lt _ _ _ (by rw [size_setCell']; exact hml), heap_setCell_ne _ _ _ _ _ hne])) rfl rfl ?_
  intro w9 hm9 hs9 hh9 ho9 ht9 hu9
  go_wp2
  go_end0
  refine ⟨rfl, m, .inl rfl, ⟨⟨c0, c3, c4, c5, c6, c7, ?_⟩, hne, hm9⟩, ?_⟩
  · rw [hh9 b (fun e => hne e.symm)]
    show ((w.setCell _ _).alloc _).heap[b]? = _
    rw [heap_alloc_lt _ _ _ (by rw [size_setCell']; exact hb), heap_setCell_eq _ _ _ _ _ _ _ HH.out]
    rfl
  · refine ⟨ho9, ht9, hu9, ?_, fun j hj hjb hjm => ?_⟩
    · rw [hs9]
      show w.heap.size ≤ ((w.setCell _ _).heap.push _).size
      rw [Array.size_push, size_setCell']
      omega
    · rw [hh9 j (fun e => hjm (by rw [e]))]
      show ((w.setCell _ _).alloc _).heap[j]? = _
      rw [heap_alloc_lt _ _ _ (by rw [size_setCell']; exact hj), heap_setCell_ne _ _ _ _ _ hjb]
set_option maxHeartbeats 1000000 in
set_option maxRecDepth 100000 in
theorem change_none (b : Nat) (st : Int) (F : ByteArray → Option Value) (p : ByteArray) (body : Value) (th : Bool) (w : World) (h : WS w b st none F) (hst : 0 ≤ st) (hst2 : st ≤ 1000000) :
    Calls Tryz.prog 19 #[.pointer (some ⟨b, 0, none⟩), .string p, .agg #[body, .int .i64 0, .bool th]] w (ChangeR w b (st + 1) none (upd F p (.agg #[body, .int .i64 (st + 1), .bool th]))) := by
  obtain ⟨⟨c0, c3, c4, c5, c6, c7, hh⟩, hm⟩ := h
  have hb : b < w.heap.size := (Array.getElem?_eq_some_iff.1 hh).1
  have k1 : w.cell? ⟨b, 1, none⟩ = some (.int .i64 st) := by simp [World.cell?, hh]
  have k2 : w.cell? ⟨b, 2, none⟩ = some (.map none) := by simp [World.cell?, hh]
  have f1 : w.frozen? ⟨b, 1, none⟩ = false := by simp [World.frozen?, hh]
  have f2 : w.frozen? ⟨b, 2, none⟩ = false := by simp [World.frozen?, hh]
  have HH := Lib.hid hh
  have HM := Lib.hid hm
  clear hh hm
  have e79 := eql79_none
  have hmm := @run_makeMap Tryz.prog
  go_enter Tryz.func19, Tryz.ntmps19
  go_wp2
  refine region_tail 6 (by kernel_rfl) (by kernel_rfl) ?_
  simp only [List.take_succ_cons, List.take_zero, List.drop_succ_cons, List.drop_zero]
  repeat still_step
  refine wpStill_nil ?_
  have hsz : (((w.setCell ⟨b, 1, none⟩ (.int .i64 (st + 1))).setCell ⟨b, 2, none⟩ (.map (some (w.heap.size + 1)))).alloc (.cells #[body, .int .i64 (st + 1), .bool th] 71)).heap.size = w.heap.size + 1 := by
    show (Array.push _ _).size = _
    rw [Array.size_push, size_setCell', size_setCell']
  have hF : F = fun _ => none := funext HM.out
  refine wpList_mapUpdate_at (b := w.heap.size + 1) (F := F) rfl _ _ _ _ rfl Tryz.underlying59 Tryz.underlying9 rfl (by
    have := MapAt.made (((w.setCell ⟨b, 1, none⟩ (.int .i64 (st + 1))).setCell ⟨b, 2, none⟩ (.map (some (w.heap.size + 1)))).alloc (.cells #[body, .int .i64 (st + 1), .bool th] 71))
    rw [hsz] at this
    rw [hF]
    exact this.same rfl) rfl rfl ?_
  intro w9 hm9 hs9 hh9 ho9 ht9 hu9
  have hold : ∀ j, j < w.heap.size → (((((w.setCell ⟨b, 1, none⟩ (.int .i64 (st + 1))).setCell ⟨b, 2, none⟩ (.map (some (w.heap.size + 1)))).alloc (.cells #[body, .int .i64 (st + 1), .bool th] 71)).alloc (.map #[] 0)).drew).heap[j]? = ((w.setCell ⟨b, 1, none⟩ (.int .i64 (st + 1))).setCell ⟨b, 2, none⟩ (.map (some (w.heap.size + 1)))).heap[j]? := by
    intro j hj
    show (World.alloc _ _).heap[j]? = _
    rw [heap_alloc_lt _ _ _ (by rw [hsz]; omega), heap_alloc_lt _ _ _ (by rw [size_setCell', size_setCell']; exact hj)]
  have HOLD := Lib.hid hold
  have HSZ := Lib.hid hsz
  have HS9 := Lib.hid hs9
  clear hold hsz hs9 hF
  go_wp2
  go_end0
  refine ⟨rfl, w.heap.size + 1, .inr ⟨rfl, by omega⟩, ⟨⟨c0, c3, c4, c5, c6, c7, ?_⟩, by omega, hm9⟩, ?_⟩
  · rw [hh9 b (by omega), HOLD.out b hb, heap_setCell_eq _ _ _ _ _ _ _ (heap_setCell_eq _ _ _ _ _ _ _ HH.out)]
    rfl
  · refine ⟨ho9, ht9, hu9, ?_, fun j hj hjb hjm => ?_⟩
    · rw [HS9.out]
      show w.heap.size ≤ (Array.push _ _).size
      rw [Array.size_push, HSZ.out]
      omega
    · rw [hh9 j (by omega), HOLD.out j hj, heap_setCell_ne _ _ _ _ _ hjb, heap_setCell_ne _ _ _ _ _ hjb]
theorem change_any (b : Nat) (mp : Option Nat) (st : Int) (F : ByteArray → Option Value) (p : ByteArray) (body : Value) (th : Bool) (w : World) (h : WS w b st mp F) (hst : 0 ≤ st) (hst2 : st ≤ 1000000) :
    Calls Tryz.prog 19 #[.pointer (some ⟨b, 0, none⟩), .string p, .agg #[body, .int .i64 0, .bool th]] w (ChangeR w b (st + 1) mp (upd F p (.agg #[body, .int .i64 (st + 1), .bool th]))) := by
  cases mp with
  | none => exact change_none b st F p body th w h hst hst2
  | some m => exact change_some b m st F p body th w h hst hst2

set_option maxRecDepth 100000 in
theorem clone_nil (w : World) : Calls Tryz.prog 20 #[.slice none 0 0] w fun e w' => e = .returned (.slice none 0 0) ∧ w = w' := by
  have k33 := eql33 none 0 0
  go_enter Tryz.func20, Tryz.ntmps20
  go_wp2
  go_ret
  exact ⟨rfl, rfl⟩
set_option maxRecDepth 100000 in
theorem put_nil (b : Nat) (mp : Option Nat) (st : Int) (F : ByteArray → Option Value) (p : ByteArray) (w : World) (h : WS w b st mp F) (hst : 0 ≤ st) (hst2 : st ≤ 1000000) :
    Calls Tryz.prog 11 #[.pointer (some ⟨b, 0, none⟩), .string p, .slice none 0 0] w (ChangeR w b (st + 1) mp (upd F p (.agg #[.slice none 0 0, .int .i64 (st + 1), .bool true]))) := by
  go_enter Tryz.func11, Tryz.ntmps11
  go_wp2_with (first | (go_at_call 20; refine (clone_nil _).mono ?_; rintro e w' ⟨rfl, rfl⟩) | (go_at_call 19; refine (change_any b mp st F p _ _ _ h hst hst2).mono ?_; rintro e w' ⟨rfl, m, h1, h2, h3⟩))
  go_end0
  exact ⟨rfl, m, h1, h2, h3⟩
end Go.Proofs.YtabkdaaenikliaaGreatDoor
