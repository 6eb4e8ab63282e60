/- The law's own sources: what they are as values; Make, Name, Able, Begin. -/
import Derived.Test.YtpdkjifalgeodaaSb
import Derived.Laws.Panics
import Derived.Laws.PanicsMore
import Derived.Laws.AppendOwn
import Derived.Laws.AppendOwnNone
import Derived.OwnWalk
import Derived.Deep.MidRow
import Derived.Deep.Cut
import Derived.Deep.CutRange
import Derived.Deep.QuietTactic
import Derived.Deep.RegionLaw
import Derived.Deep.RegionWith
import Derived.Deep.RegionHeld3
import Derived.RegionTactic
namespace Go.Proofs.Ytpdkjifalgeodaa
open Go.RowKit Go.Extern.Stop Go.Stop Go.Extern Go.Lib
/-- What a source of the law's own is made of. -/
structure DefL where
  label : ByteArray
  wild : Bool
  k0 : Bool
  k1 : Bool
  k2 : Bool
  k3 : Bool
  k4 : Bool
  beg : Int
  polls : Int
  boom : Bool
  code : Int
  wrap : Bool
  np : Option Addr
  nn : Nat
  nc : Nat
  ap : Option Addr
  an : Nat
  ac : Nat
  port : Int
  life : Int
  dp : Option Addr
  dn : Nat
  dc : Nat
  hears : Bool
def defC (d : DefL) : Array Value := #[.string d.label, .bool d.wild, .bool d.k0, .bool d.k1, .bool d.k2, .bool d.k3, .bool d.k4, .int .i64 d.beg, .int .i64 d.polls, .bool d.boom, .int .i64 d.code, .bool d.wrap, .slice d.np d.nn d.nc, .slice d.ap d.an d.ac, .int .i64 d.port, .int .i64 d.life, .slice d.dp d.dn d.dc, .bool d.hears]
def ansV (d : DefL) : Value := .agg #[.slice d.np d.nn d.nc, .slice d.ap d.an d.ac, .int .i64 d.port, .int .i64 d.life]
def defV (d : DefL) : Value := .agg (defC d)
def kn (d : DefL) (db : Int) : Bool := if db = 0 then d.k0 else if db = 1 then d.k1 else if db = 2 then d.k2 else if db = 3 then d.k3 else if db = 4 then d.k4 else false
/-- Does it take that database? -/
def takes (d : DefL) (db : Int) : Bool := d.wild || kn d db
def srcV (d : DefL) : Value := if d.wild then .iface 71 (defV d) else .iface 73 (defV d)
theorem built1P (d : DefL) : Program.built Try.prog 71 [(0, .agg (defC d))] = some (defC d) := by unfold defC; kernel_rfl
theorem built1A (d : DefL) : Program.built Try.prog 73 [(0, .agg (defC d))] = some (defC d) := by unfold defC; kernel_rfl
/-- A struct that is built of one part: its cells are these. -/
theorem wpList_build_one {P : Program} {ops : Array Oper} {rest : List Oper} {o : Oper} {a : Act} {w : World} {Q : Exit → Act → World → Prop} (hg : o.guard = none) (t : TypeId) (i : Nat) (x : Operand) (ho : o.op = .build t #[(i, x)]) (v : Value) (hv : a.eval x = v) (cells : Array Value)
    (hb : P.built t [(i, v)] = some cells) (h : wpList P ops Q rest (a.put o.dst (.agg cells)) w) : wpList P ops Q (o :: rest) a w := by
  have e : ((#[(i, x)] : Array (Nat × Operand)).map fun (i, x) => (i, a.eval x)).toList = [(i, v)] := by simp [hv]
  exact wpList_build hg t _ ho (by rw [e, hb]; rfl) (by rw [e, hb]; exact h)
/-- .. of two. -/
theorem wpList_build_two {P : Program} {ops : Array Oper} {rest : List Oper} {o : Oper} {a : Act} {w : World} {Q : Exit → Act → World → Prop} (hg : o.guard = none) (t : TypeId) (i j : Nat) (x y : Operand) (ho : o.op = .build t #[(i, x), (j, y)]) (v u : Value) (hv : a.eval x = v) (hu : a.eval y = u) (cells : Array Value)
    (hb : P.built t [(i, v), (j, u)] = some cells) (h : wpList P ops Q rest (a.put o.dst (.agg cells)) w) : wpList P ops Q (o :: rest) a w := by
  have e : ((#[(i, x), (j, y)] : Array (Nat × Operand)).map fun (i, x) => (i, a.eval x)).toList = [(i, v), (j, u)] := by simp [hv, hu]
  exact wpList_build hg t _ ho (by rw [e, hb]; rfl) (by rw [e, hb]; exact h)
theorem defC_at {d : DefL} {j : Nat} {v : Value} (h : (defC d).toList[j]? = some v) : (defC d)[j]? = some v := by rw [← Array.getElem?_toList]; exact h
/-- A struct's load out of a block, whole from its head: the first n cells of it. -/
theorem load_head {P : Program} {w : World} {b : Nat} {cs : Array Value} {e : TypeId} {fr : Nat × Nat} (h : w.heap[b]? = some (.cells cs e fr)) (n : Nat) (hn : n ≤ cs.size) (ty : TypeId) (dsc : TypeDesc)
    (hu : P.underlying ty = some dsc) (hd : dsc.isRow = true) (hi : (P.info? ty).map (·.size) = some n) :
    (Instr.loadAt ty (.pointer (some ⟨b, 0, none⟩))).run P w = .ok (.agg (cs.toList.take n).toArray) w :=
  run_loadAt_mid w b 0 ty (cs.toList.take n) dsc (fun j v hv => by
    have h1 : cs.toList[j]? = some v := by
      rw [List.getElem?_take] at hv
      split at hv
      · exact hv
      · cases hv
    simp only [Nat.zero_add]
    rw [cell_of_row w b j cs e fr h, ← Array.getElem?_toList]
    exact h1) hu hd (by rw [hi, List.length_take, Array.length_toList, Nat.min_eq_left hn])
theorem load_def {w : World} {b : Nat} {d : DefL} {e : TypeId} {fr : Nat × Nat} (h : w.heap[b]? = some (.cells (defC d) e fr)) :
    (Instr.loadAt 28 (.pointer (some ⟨b, 0, none⟩))).run Try.prog w = .ok (.agg (defC d)) w :=
  load_head h 18 (Nat.le_refl _) 28 _ Try.underlying28 rfl (by kernel_rfl)
theorem sz_def (d : DefL) : (Try.prog.info? 28).map (·.size) = some (defC d).size := by kernel_rfl
set_option maxHeartbeats 1000000 in
set_option maxRecDepth 100000 in
theorem make_any (d : DefL) (w : World) : Calls Try.prog 10 #[defV d] w fun e w' => e = .returned (srcV d) ∧ w' = w.alloc (.cells (defC d) 28) := by
  have hn := heap_alloc_new w (.cells (defC d) 28)
  have sz := sz_def d
  have c1 : (w.alloc (.cells (defC d) 28)).cell? ⟨w.heap.size, 1, none⟩ = some (.bool d.wild) := cellJ hn (defC_at rfl)
  have b1 := built1P d
  have b2 := built1A d
  simp only [srcV, defV]
  generalize defC d = cs at *
  generalize d.wild = wl at *
  clear d
  cases wl
  · go_enter Try.func10, Try.ntmps10
    go_wp2_with (first | (with_reducible refine wpList_load_row rfl 28 _ rfl w.heap.size rfl 28 cs (0, 0) _ hn Try.underlying28 rfl sz ?_) | (with_reducible refine wpList_build_one rfl 71 _ _ rfl (.agg cs) rfl cs b1 ?_) | (with_reducible refine wpList_build_one rfl 73 _ _ rfl (.agg cs) rfl cs b2 ?_))
    go_ret
    exact ⟨rfl, rfl⟩
  · go_enter Try.func10, Try.ntmps10
    go_wp2_with (first | (with_reducible refine wpList_load_row rfl 28 _ rfl w.heap.size rfl 28 cs (0, 0) _ hn Try.underlying28 rfl sz ?_) | (with_reducible refine wpList_build_one rfl 71 _ _ rfl (.agg cs) rfl cs b1 ?_) | (with_reducible refine wpList_build_one rfl 73 _ _ rfl (.agg cs) rfl cs b2 ?_))
    go_ret
    exact ⟨rfl, rfl⟩
set_option maxHeartbeats 1000000 in
set_option maxRecDepth 100000 in
theorem pname_any (d : DefL) (w : World) : Calls Try.prog 86 #[defV d] w fun e w' => e = .returned (.string d.label) ∧ w' = w.alloc (.cells (defC d) 71) := by
  obtain ⟨label, wild, k0, k1, k2, k3, k4, beg, polls, boom, code, wrap, np, nn, nc, ap, an, ac, port, life, dp, dn, dc, hears⟩ := d
  simp only [defV, defC]
  go_enter Try.func86, Try.ntmps86
  go_wp2
  go_ret
  exact ⟨rfl, rfl⟩
theorem metNP (n : Nat) (v : Value) (w : World) : (Go.method (n + 1) 71 v "Name").run Try.prog w = .ok (86, v) w := by kernel_rfl
theorem metNA (n : Nat) (d : DefL) (w : World) : (Go.method (n + 2) 73 (defV d) "Name").run Try.prog w = .ok (86, defV d) w := by kernel_rfl
theorem metBP (n : Nat) (v : Value) (w : World) : (Go.method (n + 1) 71 v "Begin").run Try.prog w = .ok (85, v) w := by kernel_rfl
theorem metBA (n : Nat) (d : DefL) (w : World) : (Go.method (n + 2) 73 (defV d) "Begin").run Try.prog w = .ok (85, defV d) w := by kernel_rfl
theorem metAA (n : Nat) (v : Value) (w : World) : (Go.method (n + 1) 73 v "Able").run Try.prog w = .ok (87, v) w := by kernel_rfl
theorem asPA (v : Value) (x : TypeId) (w : World) : (Instr.typeAssert (.iface 71 v) x 106 true).run Try.prog w = .ok (.tuple #[.nilIface, .bool false]) w := run_typeAssert_lacksB Try.underlying106 (by kernel_rfl) (by kernel_rfl) v x w
theorem asAA (v : Value) (x : TypeId) (w : World) : (Instr.typeAssert (.iface 73 v) x 106 true).run Try.prog w = .ok (.tuple #[.iface 73 v, .bool true]) w := run_typeAssert_hasB Try.underlying106 (by kernel_rfl) v x w
set_option maxHeartbeats 1000000 in
set_option maxRecDepth 100000 in
theorem able_any (d : DefL) (db : Int) (w : World) : Calls Try.prog 87 #[defV d, .int .i64 db] w fun e w' => e = .returned (.bool (kn d db)) ∧ Below w.heap.size w w' := by
  obtain ⟨label, wild, k0, k1, k2, k3, k4, beg, polls, boom, code, wrap, np, nn, nc, ap, an, ac, port, life, dp, dn, dc, hears⟩ := d
  simp only [defV, defC, kn]
  by_cases h0 : 0 ≤ db
  · by_cases h5 : db < 5
    · have hc : db = 0 ∨ db = 1 ∨ db = 2 ∨ db = 3 ∨ db = 4 := by omega
      rcases hc with rfl | rfl | rfl | rfl | rfl
      all_goals
        go_enter Try.func87, Try.ntmps87
        go_wp2
        go_ret
        exact ⟨rfl, by first | exact al_bel _ _ | exact (al_bel _ _).drew⟩
    · have e0 : ¬ db = 0 := by omega
      have e1 : ¬ db = 1 := by omega
      have e2 : ¬ db = 2 := by omega
      have e3 : ¬ db = 3 := by omega
      have e4 : ¬ db = 4 := by omega
      rw [if_neg e0, if_neg e1, if_neg e2, if_neg e3, if_neg e4]
      clear e0 e1 e2 e3 e4
      go_enter Try.func87, Try.ntmps87
      go_wp2
      go_ret
      exact ⟨rfl, by first | exact al_bel _ _ | exact (al_bel _ _).drew⟩
  · have e0 : ¬ db = 0 := by omega
    have e1 : ¬ db = 1 := by omega
    have e2 : ¬ db = 2 := by omega
    have e3 : ¬ db = 3 := by omega
    have e4 : ¬ db = 4 := by omega
    rw [if_neg e0, if_neg e1, if_neg e2, if_neg e3, if_neg e4]
    clear e0 e1 e2 e3 e4
    go_enter Try.func87, Try.ntmps87
    go_wp2
    go_ret
    exact ⟨rfl, by first | exact al_bel _ _ | exact (al_bel _ _).drew⟩
end Go.Proofs.Ytpdkjifalgeodaa
